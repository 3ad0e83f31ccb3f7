/-
  The reference: the walk of 'Eliminates'.
-/
import Derived.Test.YthlbedhjekbfpaaDoorRm
namespace Go.Proofs.YthlbedhjekbfpaaDoor
open Go.RowKit Go.Sort

theorem CollI.drewN {w wr : World} {l : List Int} {k : Nat} {v : Value} (h : CollI w l k v wr) (q : Nat) : CollI w l k v (wr.drewN q) := ⟨below_drewN h.1 q, h.2⟩

/-- The nodes behind the k-th one, up to the j-th one, that are its neighbours. -/
def aftTo (es : List (Int × Int)) (l : List Int) (k j : Nat) : List Int := ((l.take j).drop (k + 1)).filter fun z => nearB es (l[k]?.getD 0) z
theorem aft_start (es : List (Int × Int)) (l : List Int) (k : Nat) : aftTo es l k (k + 1) = [] := by
  rw [aftTo, List.drop_eq_nil_of_le (by rw [List.length_take]; omega)]; rfl
theorem aft_step (es : List (Int × Int)) (l : List Int) (k j : Nat) (hk : k < j) (hj : j < l.length) : aftTo es l k (j + 1) = aftTo es l k j ++ [l[j]].filter fun z => nearB es (l[k]?.getD 0) z := by
  rw [aftTo, List.take_succ_eq_append_getElem hj, List.drop_append_of_le_length (by rw [List.length_take]; omega), List.filter_append]
  rfl
theorem aft_yes {es : List (Int × Int)} {l : List Int} {k j : Nat} (hk : k < j) (hj : j < l.length) (h : nearB es (l[k]?.getD 0) (l[j]?.getD 0) = true) : aftTo es l k (j + 1) = aftTo es l k j ++ [l[j]?.getD 0] := by
  rw [List.getElem?_eq_getElem hj, Option.getD_some] at h
  rw [aft_step es l k j hk hj, List.filter_cons, if_pos h, List.filter_nil, List.getElem?_eq_getElem hj]
  rfl
theorem aft_no {es : List (Int × Int)} {l : List Int} {k j : Nat} (hk : k < j) (hj : j < l.length) (h : nearB es (l[k]?.getD 0) (l[j]?.getD 0) = false) : aftTo es l k (j + 1) = aftTo es l k j := by
  rw [List.getElem?_eq_getElem hj, Option.getD_some] at h
  rw [aft_step es l k j hk hj, List.filter_cons, if_neg (by rw [h]; simp), List.filter_nil, List.append_nil]
theorem aft_len (es : List (Int × Int)) (l : List Int) (k j : Nat) : (aftTo es l k j).length ≤ j := by
  refine Nat.le_trans (List.length_filter_le _ _) ?_
  rw [List.length_drop, List.length_take]; omega
theorem elimR_at (es : List (Int × Int)) (l : List Int) (k : Nat) (hk : k < l.length) : elimR es (l.drop k) = (cliqueR es (aftTo es l k l.length) && elimR es (l.drop (k + 1))) := by
  rw [List.drop_eq_getElem_cons hk, elimR, aftTo, List.take_length, List.getElem?_eq_getElem hk]
  rfl

set_option maxRecDepth 100000 in
set_option maxHeartbeats 4000000 in
theorem RefElim_any (a aL : Option Addr) (m cap n cL : Nat) (es : List (Int × Int)) (l : List Int) (w : World) (hl : es.length = m) (hm : m ≤ 1000) (he : Edges w a es) (hn : l.length = n) (hn2 : n ≤ 1000) (hz : Ints w aL l) :
    Calls Tryd.prog 13 #[.slice a m cap, .slice aL n cL] w fun e w' => e = .returned (.bool (elimR es l)) ∧ Below w.heap.size w w' := by
  have HE := Lib.hid he
  have HEL := Lib.hid hl
  have HX := Lib.hid hz.at
  have HN := Lib.hid hn
  clear he hl hz hn
  go_enter Tryd.func13, Tryd.ntmps13
  go_wp2
  go_loopw [5, 6, 7] (fun i _ _ wr => ∃ k : Nat, k ≤ n ∧ i = .int .i64 k ∧ Hid (elimR es l = elimR es (l.drop k)) ∧ Below w.heap.size w wr) (fun i _ _ _ => n - (intOf i).toNat)
  case atStart => exact ⟨0, Nat.zero_le _, rfl, Lib.hid rfl, Below.refl _ _⟩
  case round =>
    obtain ⟨k, hk, rfl, HV, hb⟩ := hrel
    have HB := Lib.hid hb
    clear hb
    rename World => w1
    by_cases hlt : k < n
    · have hkL : k < l.length := by rw [HN.out]; exact hlt
      rcases HX.out with h | ⟨b, off, rfl, hc⟩
      · subst h; simp at hkL
      have HC := Lib.hid hc
      clear hc
      have HV2 : Hid (elimR es l = (cliqueR es (aftTo es l k n) && elimR es (l.drop (k + 1)))) := Lib.hid (by rw [HV.out, elimR_at _ _ _ hkL, HN.out])
      go_wp2
      go_loopw [6, 7] (fun v i wr => ∃ j q : Nat, k < j ∧ j ≤ n ∧ q ≤ j ∧ i = .int .i64 j ∧ CollI w1 (aftTo es l k j) q v wr) (fun _ i _ => n - (intOf i).toNat)
      case atStart => exact ⟨k + 1, 0, by omega, by omega, by omega, by go_num, by rw [aft_start]; exact CollI.start w1⟩
      case round =>
        obtain ⟨j, q, hkj, hjn, hq, rfl, hC⟩ := hrel
        have hsz := hC.1.size
        have HCo := Lib.hid hC
        have HB2 : Hid (Below w.heap.size w wr) := Lib.hid (HB.out.trans (hC.1.mono HB.out.size))
        obtain ⟨g0, cp0, hv0, _⟩ := hC.2.2
        subst hv0
        clear hC
        by_cases hlt2 : j < n
        · have hjL : j < l.length := by rw [HN.out]; exact hlt2
          have hcj := HC.out j hjL
          have hck := HC.out k hkL
          have c0 := (HB2.out.cell (p := ⟨b, off + k, none⟩) (World.block_lt_of_cell? w _ hck)).trans hck
          have c1 := (HB2.out.cell (p := ⟨b, off + j, none⟩) (World.block_lt_of_cell? w _ hcj)).trans hcj
          clear hcj hck
          have hkm : (k : Int) < (n : Int) := by omega
          have HY := Lib.hid (fun h => aft_yes (es := es) (l := l) hkj hjL h)
          have HNo := Lib.hid (fun h => aft_no (es := es) (l := l) hkj hjL h)
          have HNr := fun (q : Nat) => Near_any a m cap es (l[k]?.getD 0) (l[j]?.getD 0) (wr.drewN q) HEL.out hm (HE.out.below (below_drewN HB2.out q))
          obtain ⟨y, hy⟩ : ∃ y, l[j]?.getD 0 = y := ⟨_, rfl⟩
          rw [hy] at c1 HNr HY HNo
          obtain ⟨z, hz⟩ : ∃ z, l[k]?.getD 0 = z := ⟨_, rfl⟩
          rw [hz] at c0 HNr HY HNo
          obtain ⟨r, hr⟩ : ∃ r, nearB es z y = r := ⟨_, rfl⟩
          rw [hr] at HNr HY HNo
          have HH := Lib.hid HNr
          clear hz hy hr HNr
          cases r with
          | true =>
            have HY2 := Lib.hid (HY.out (by trivial))
            clear HY HNo
            go_wp2
            go_quiet (with_reducible exact quiet_same (HH.out _))
            have hc5 : (wr.drewN nq).cell? ⟨b, off + j, none⟩ = some (.int .i64 y) := c1
            have HC5 := Lib.hid (HCo.out.drewN nq)
            have hsz5 : w1.heap.size ≤ (wr.drewN nq).heap.size := hsz
            generalize wr.drewN nq = w5 at hc5 HC5 hsz5 ⊢
            clear c0 c1
            go_wp2_with (at_builtin; refine wpList_app_int rfl (.tmp 33) (.tmp 38) rfl w1.heap.size _ _ _ rfl y _ rfl rfl HC5.out.owns (by omega) hsz5 ?_; intro g cp w2 hr2 hg2 hat2 _; have H2 := Lib.hid (HC5.out.next hr2 hg2); clear hr2 hg2 hat2)
            go_roundw
            case rel => exact ⟨j + 1, q + 1, by omega, by omega, by omega, by go_num, by rw [HY2.out]; exact H2.out⟩
            case measure => simp [intOf]; omega
          | false =>
            have HY2 := Lib.hid (HNo.out (by trivial))
            clear HY HNo
            go_wp2
            go_quiet (with_reducible exact quiet_same (HH.out _))
            go_wp2
            go_roundw
            case rel => exact ⟨j + 1, q, by omega, by omega, by omega, by go_num, by rw [HY2.out]; exact HCo.out.drewN nq⟩
            case measure => simp [intOf]; omega
        · obtain rfl : j = n := by omega
          have HCl := Lib.hid (Clique_any a (some ⟨g0, 0, none⟩) m cap q cp0 es (aftTo es l k j) wr HEL.out hm (HE.out.below HB2.out) HCo.out.2.1 (by omega) (Ints.of_owns HCo.out.owns))
          obtain ⟨r, hr⟩ : ∃ r, cliqueR es (aftTo es l k j) = r := ⟨_, rfl⟩
          rw [hr] at HCl HV2
          clear hr
          cases r with
          | true =>
            rw [Bool.true_and] at HV2
            go_wp2_with (go_at_call 21; refine HCl.out.mono ?_; rintro e w' ⟨rfl, hb3⟩; have HB3 := Lib.hid (HB2.out.trans (hb3.mono HB2.out.size)); clear hb3)
            go_roundw
            case rel => exact ⟨k + 1, by omega, by go_num, HV2, HB3.out⟩
            case measure => simp [intOf]; omega
          | false =>
            rw [Bool.false_and] at HV2
            go_wp2_with (go_at_call 21; refine HCl.out.mono ?_; rintro e w' ⟨rfl, hb3⟩; have HB3 := Lib.hid (HB2.out.trans (hb3.mono HB2.out.size)); clear hb3)
            go_ret
            exact ⟨ret_bool HV2.out.symm, HB3.out⟩
    · obtain rfl : k = n := by omega
      go_wp2
      go_ret
      refine ⟨ret_bool (Eq.symm ?_), HB.out⟩
      rw [HV.out, List.drop_eq_nil_of_le (by rw [HN.out]; exact Nat.le_refl _), elimR]

end Go.Proofs.YthlbedhjekbfpaaDoor
