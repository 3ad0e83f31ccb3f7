/-
  The walk of 'RibCliques'.
-/
import Derived.Test.YticafbfijpjbnaaTd
namespace Go.Proofs.Yticafbfijpjbnaa
open Go.RowKit Go.Sort

set_option maxHeartbeats 1000000 in
/-- 'Same', of two slices of the same integers: it only draws. -/
theorem same_quiet (a b : Option Addr) (n ca cb : Nat) (xs : List Int) (w : World) (hx : xs.length = n) (hn : n ≤ 9223372036854775807) (ha : Ints w a xs) (hb : Ints w b xs) :
    Calls Try.prog 22 #[.slice a n ca, .slice b n cb] w fun e w' => e = .returned (.bool true) ∧ ∃ m, w' = w.drewN m := by
  have HA := Lib.hid ha.at
  have HB := Lib.hid hb.at
  have HX := Lib.hid hx
  clear ha hb hx
  go_enter Try.func22, Try.ntmps22
  go_wp2
  go_loopw [5] (fun i wr => ∃ k m : Nat, k ≤ n ∧ i = .int .i64 k ∧ Hid (wr = w.drewN m)) (fun i _ => n - (intOf i).toNat)
  case atStart => exact ⟨0, 0, Nat.zero_le _, rfl, Lib.hid rfl⟩
  case round =>
    obtain ⟨k, m, hk, rfl, HW⟩ := hrel
    by_cases hlt : k < n
    · have hkx : k < xs.length := by have := HX.out; omega
      rcases HA.out with h | ⟨ba, oa, rfl, hca⟩
      · subst h; simp at hkx
      rcases HB.out with h | ⟨bb, ob, rfl, hcb⟩
      · subst h; simp at hkx
      have hbel : Below w.heap.size w wr := by rw [HW.out]; exact below_drewN (Below.refl _ _) _
      have c0 := (hbel.cell (p := ⟨ba, oa + k, none⟩) (World.block_lt_of_cell? w _ (hca k hkx))).trans (hca k hkx)
      have c1 := (hbel.cell (p := ⟨bb, ob + k, none⟩) (World.block_lt_of_cell? w _ (hcb k hkx))).trans (hcb k hkx)
      clear hca hcb hbel
      obtain ⟨x, hxk⟩ : ∃ x, xs[k]?.getD 0 = x := ⟨_, rfl⟩
      rw [hxk] at c0 c1
      clear hxk hkx
      go_wp2
      go_quiet (fail)
      go_wp2
      go_roundw
      case rel => exact ⟨k + 1, _, by omega, by go_num, Lib.hid (by rw [HW.out, World.drewN_drewN])⟩
      case measure => simp [intOf]; omega
    · go_wp2
      go_ret
      exact ⟨rfl, _, HW.out⟩

theorem ElemV.of_own {w : World} {base : Nat} {v : Value} {l : List Int} (h : w.ownsRow base 3 1 v l.length (l.map (Value.int .i64))) : ElemV w v l := by
  obtain ⟨a, c, rfl⟩ := ownsRow_slice h
  exact ⟨a, c, rfl, Ints.of_owns h⟩
theorem EV.of_at {w : World} : ∀ {vs : List Value} {ls : List (List Int)}, vs.length = ls.length → (∀ i, i < ls.length → ElemV w (vs[i]?.getD undef) (ls[i]?.getD [])) → EV w vs ls
  | [], [], _, _ => trivial
  | _ :: _, [], h, _ => by simp at h
  | [], _ :: _, h, _ => by simp at h
  | v :: vs, l :: ls, h, k => ⟨by simpa using k 0 (by simp), EV.of_at (by simpa using h) fun i hi => by simpa using k (i + 1) (by simp; omega)⟩

/-- A slice of slices, at an address that may be nil. -/
def ListsA (w : World) (a : Option Addr) (ls : List (List Int)) : Prop := ls = [] ∨ ∃ b, a = some ⟨b, 0, none⟩ ∧ Lists w b 0 ls
theorem ListsA.below {w w' : World} {a : Option Addr} {ls : List (List Int)} (h : ListsA w a ls) (hb : Below w.heap.size w w') : ListsA w' a ls := by
  rcases h with h | ⟨b, e, h⟩
  · exact .inl h
  · exact .inr ⟨b, e, h.below hb⟩
theorem GivesL.lists {ls : List (List Int)} {w w' : World} {v : Value} (h : GivesL ls w v w') : ∃ a c, v = .slice a ls.length c ∧ ListsA w' a ls ∧ Below w.heap.size w w' := by
  obtain ⟨a, c, vs, rfl, hown, hrow, hb⟩ := h
  refine ⟨a, c, rfl, ?_, hb⟩
  rcases hown.2 with ⟨e, h⟩ | ⟨g, cap', cur, e, _⟩
  · exact .inl (List.length_eq_zero_iff.1 (by have := hown.1; omega))
  · cases e
    have he : EV w' vs ls := EV.of_at (by have := hown.1; omega) fun i hi => ElemV.of_own (hrow i hi)
    exact .inr ⟨g, rfl, Lists.of_owns hown he⟩
theorem Lists.at {w : World} {b : Nat} {ls : List (List Int)} (h : Lists w b 0 ls) {j : Nat} (hj : j < ls.length) : ∃ a c, w.cell? ⟨b, j, none⟩ = some (.slice a (ls[j]?.getD []).length c) ∧ Ints w a (ls[j]?.getD []) := by
  obtain ⟨vs, hev, hc⟩ := h
  obtain ⟨a, c, e, hi⟩ := hev.at j hj
  have := hc j hj
  rw [e, Nat.zero_add] at this
  exact ⟨a, c, this, hi⟩

set_option maxRecDepth 100000 in
set_option maxHeartbeats 2000000 in
theorem Cliques_bad {N : Int} {es : List (Int × Int)} (h : graphR N es = false) (a : Option Addr) (m cap : Nat) (w : World) (hl : es.length = m) (hm : m ≤ 1000) (he : Edges w a es) :
    Calls Try.prog 20 #[.int .i64 N, .slice a m cap] w (Gives2 (.slice none 0 0) (.int .i64 1) w) := by
  have HC := Lib.hid (graphOf_wrong h a m cap w hl hm he)
  clear h hl he
  go_enter Try.func20, Try.ntmps20
  go_wp2_with (go_at_call 39; refine HC.out.mono ?_; rintro e w1 ⟨rfl, hb⟩; have HB := Lib.hid hb; clear hb)
  go_ret2
  exact ⟨rfl, HB.out⟩

/-- What stays as the law goes on. -/
def StC (w : World) (B : Nat) (N : Int) (aE : Option Addr) (m cE : Nat) (es : List (Int × Int)) (wc : World) : Prop :=
  Below w.heap.size w wc ∧ Edges wc aE es ∧ wc.cell? ⟨B, 0, none⟩ = some (.int .i64 N) ∧ wc.cell? ⟨B, 1, none⟩ = some (.slice aE m cE)
theorem StC.next {w : World} {B : Nat} {N : Int} {aE : Option Addr} {m cE : Nat} {es : List (Int × Int)} {wc w' : World} (h : StC w B N aE m cE es wc) (hb : Below wc.heap.size wc w') : StC w B N aE m cE es w' := by
  obtain ⟨h1, h2, h5, h6⟩ := h
  exact ⟨h1.trans (hb.mono h1.size), h2.below hb, (hb.cell (World.block_lt_of_cell? wc _ h5)).trans h5, (hb.cell (World.block_lt_of_cell? wc _ h6)).trans h6⟩

set_option maxRecDepth 100000 in
set_option maxHeartbeats 8000000 in
theorem RibCliques_any (N0 : Int) (a : Option Addr) (m0 cap : Nat) (es0 : List (Int × Int)) (w : World) (hl : es0.length = m0) (hm : m0 ≤ 9223372036854775807) (hcap : m0 ≤ cap) (hnone : a = none → cap = 0) (he : Edges w a es0) :
    Calls Try.prog 4 #[.agg #[.int .i64 N0, .slice a m0 cap]] w fun e w' => e = .returned (.bool true) ∧ Below w.heap.size w w' := by
  have hb0 : Below w.heap.size w (w.alloc (.cells #[.int .i64 N0, .slice a m0 cap] 24)) := (Below.refl _ w).alloc (Nat.le_refl _) _
  have HF := Lib.hid (few_any N0 a m0 cap es0 (w.alloc (.cells #[.int .i64 N0, .slice a m0 cap] 24)) hl hm hcap hnone (he.below hb0))
  have HB0 := Lib.hid hb0
  obtain ⟨N, hN⟩ : ∃ N, fewN N0 = N := ⟨_, rfl⟩
  obtain ⟨es, hes⟩ : ∃ es, fewE es0 = es := ⟨_, rfl⟩
  have hel : es.length ≤ 70 := by rw [← hes, fewE, List.length_take]; omega
  unfold FewV at HF
  rw [hN, hes] at HF
  obtain ⟨m, hm'⟩ : ∃ m, es.length = m := ⟨_, rfl⟩
  rw [hm'] at hel HF
  have HLm := Lib.hid hm'
  clear hb0 hl hm hcap hnone he hN hes hm'
  have HLV := Lib.hid (fun wx => lives_any wx)
  go_enter Try.func4, Try.ntmps4
  go_wp2_with (go_at_call 11; refine HF.out.mono ?_; rintro e w1 ⟨aE, cE, rfl, he1, hb1⟩; have H1 := Lib.hid (And.intro he1 (HB0.out.trans (hb1.mono HB0.out.size))); clear he1 hb1)
  have h1w := H1.out.2.size
  have hb4 := (Below.refl _ w1).alloc (Nat.le_refl _) (.cells #[.int .i64 N, .slice aE m cE] 24)
  have HS4 : Hid (StC w w1.heap.size N aE m cE es (w1.alloc (.cells #[.int .i64 N, .slice aE m cE] 24))) := Lib.hid ⟨H1.out.2.alloc h1w _, H1.out.1.below hb4, by simp, by simp⟩
  have HGR := Lib.hid (fun (wx : World) (hx : StC w w1.heap.size N aE m cE es wx) => Graph_any aE m cE es N wx HLm.out (by omega) hx.2.1)
  clear hb4 HF H1
  rcases Bool.eq_false_or_eq_true (graphR N es) with hg | hg
  · rw [hg] at HGR
    obtain ⟨n, gs, rfl, h1, h2, hadj, hgood⟩ := graphOf_good hg
    have HCQ := Lib.hid (fun (wx : World) (hx : StC w w1.heap.size n aE m cE es wx) => Cliques_any n aE m cE es n gs wx HLm.out (by omega) hx.2.1 rfl h2 hadj (cliques_some hadj h2) (hgood _ _ _ _ HLm.out (by omega) hx.2.1))
    rw [cliques_same hadj h2] at HCQ
    have HRF := Lib.hid (fun (wx : World) (hx : StC w w1.heap.size n aE m cE es wx) => RefCliques_any aE m cE n es wx h1 h2 HLm.out (by omega) hx.2.1)
    have HSML := Lib.hid (refCl_small es n (2 ^ n))
    have hk0 := refCl_len es n (2 ^ n)
    have hF0 : 2 ^ n ≤ 4096 := Nat.le_trans (Nat.pow_le_pow_right (by omega) h2) (by decide)
    obtain ⟨LS, hLS⟩ : ∃ LS, refCl es n (2 ^ n) = LS := ⟨_, rfl⟩
    rw [hLS] at HCQ HRF HSML hk0
    obtain ⟨k, hk⟩ : ∃ k, LS.length = k := ⟨_, rfl⟩
    have hkk : k ≤ 4096 := by omega
    have HK := Lib.hid hk
    have h12 := h2
    clear hg hgood hadj hLS hk0 hF0 hk
    go_wp2_with (fail)
    refine (HCQ.out _ HS4.out).mono ?_
    rintro e w5 ⟨v5, rfl, hv5⟩
    obtain ⟨aL, cL, rfl, hL5, hb5⟩ := hv5.lists
    have HS5 := Lib.hid (HS4.out.next hb5)
    have HL5 := Lib.hid hL5
    have d0 := HS5.out.2.2.1
    have d1 := HS5.out.2.2.2
    rw [HK.out]
    clear hb5 HS4 hv5 hL5 HCQ
    go_wp2_with (fail)
    refine (HGR.out _ HS5.out).mono ?_
    rintro e w6 ⟨rfl, hb6⟩
    have HS6 := Lib.hid (HS5.out.next hb6)
    have HL6 := Lib.hid (HL5.out.below hb6)
    replace d0 := HS6.out.2.2.1
    replace d1 := HS6.out.2.2.2
    clear hb6 HS5 HL5 HGR
    go_wp2_with (fail)
    refine (HRF.out _ HS6.out).mono ?_
    rintro e w7 ⟨bR, cR, rfl, hR7, hb7⟩
    have HS7 := Lib.hid (And.intro (HS6.out.next hb7).1 (And.intro (HL6.out.below hb7) hR7))
    rw [HK.out]
    clear hb7 HS6 HL6 HRF hR7 d0 d1
    go_wp2_with (fail)
    refine (HLV.out _).mono ?_
    rintro e w8 ⟨rfl, hb8⟩
    have HS8 : Hid (Below w.heap.size w w8 ∧ ListsA w8 aL LS ∧ Lists w8 bR 0 LS) := Lib.hid ⟨HS7.out.1.trans (hb8.mono HS7.out.1.size), HS7.out.2.1.below hb8, HS7.out.2.2.below hb8⟩
    clear hb8 HS7 HLV
    go_wp2_with (fail)
    go_loopw [7] (fun i wr => ∃ j : Nat, j ≤ k ∧ i = .int .i64 j ∧ Hid (Below w.heap.size w wr ∧ ListsA wr aL LS ∧ Lists wr bR 0 LS)) (fun i _ => k - (intOf i).toNat)
    case atStart => exact ⟨0, Nat.zero_le _, rfl, HS8⟩
    case round =>
      obtain ⟨j, hj, rfl, HSR⟩ := hrel
      by_cases hlt : j < k
      · have hjL : j < LS.length := by rw [HK.out]; exact hlt
        rcases HSR.out.2.1 with h | ⟨bL, rfl, hLr⟩
        · rw [h] at hjL; simp at hjL
        obtain ⟨a1, c1, cc1, i1⟩ := hLr.at hjL
        obtain ⟨a2, c2, cc2, i2⟩ := HSR.out.2.2.at hjL
        have hsm : (LS[j]?.getD []).length ≤ 12 := by rw [List.getElem?_eq_getElem hjL]; exact Nat.le_trans (HSML.out _ (List.getElem_mem hjL)) h12
        have HSM := Lib.hid (fun q : Nat => same_quiet a1 a2 (LS[j]?.getD []).length c1 c2 (LS[j]?.getD []) (wr.drewN q) rfl (by omega) (i1.below (below_drewN (Below.refl _ _) _)) (i2.below (below_drewN (Below.refl _ _) _)))
        have hjk : (j : Int) < (k : Int) := by omega
        obtain ⟨ll, hll⟩ : ∃ ll, (LS[j]?.getD []).length = ll := ⟨_, rfl⟩
        rw [hll] at HSM cc1 cc2
        clear hll hsm i1 i2 hLr hjL
        go_wp2
        go_quiet (with_reducible exact Calls.quiet_of (HSM.out _))
        go_wp2
        go_roundw
        case rel => exact ⟨j + 1, by omega, by go_num, Lib.hid ⟨below_drewN HSR.out.1 _, HSR.out.2.1.below (below_drewN (Below.refl _ _) _), HSR.out.2.2.below (below_drewN (Below.refl _ _) _)⟩⟩
        case measure => simp [intOf]; omega
      · obtain rfl : j = k := by omega
        go_wp2
        go_ret
        exact ⟨rfl, HSR.out.1⟩
  · have HCQ := Lib.hid (fun (wx : World) (hx : StC w w1.heap.size N aE m cE es wx) => Cliques_bad hg aE m cE wx HLm.out (by omega) hx.2.1)
    rw [hg] at HGR
    clear hg
    go_wp2_with (fail)
    refine (HCQ.out _ HS4.out).mono ?_
    rintro e w5 ⟨rfl, hb5⟩
    have HS5 := Lib.hid (HS4.out.next hb5)
    have d0 := HS5.out.2.2.1
    have d1 := HS5.out.2.2.2
    clear hb5 HS4 HCQ
    go_wp2_with (fail)
    refine (HGR.out _ HS5.out).mono ?_
    rintro e w6 ⟨rfl, hb6⟩
    have HB6 := Lib.hid (HS5.out.next hb6).1
    clear hb6 HS5 HGR d0 d1
    go_wp2_with (fail)
    refine (HLV.out _).mono ?_
    rintro e w8 ⟨rfl, hb8⟩
    have HB8 := Lib.hid (HB6.out.trans (hb8.mono HB6.out.size))
    clear hb8 HB6
    go_wp2_with (fail)
    go_ret
    exact ⟨rfl, HB8.out⟩

end Go.Proofs.Yticafbfijpjbnaa
