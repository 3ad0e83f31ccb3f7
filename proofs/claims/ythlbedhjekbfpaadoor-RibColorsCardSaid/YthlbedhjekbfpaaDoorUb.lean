/-
  The reference: the walk of 'Chordal'.
-/
import Derived.Test.YthlbedhjekbfpaaDoorUa
namespace Go.Proofs.YthlbedhjekbfpaaDoor
open Go.RowKit Go.Sort

theorem step_app_zs {W : World} {ops : Array Oper} {o : Oper} {a : Act} {K : Act → World → Prop} {Q : Exit → Act → World → Prop} {E : Prop} (hgd : o.guard = none) (s x : Operand)
    (ho : o.op = .call { callee := .builtin .append, args := #[s, x], argTypes := #[26, 26] }) (base : Nat) (v : Value) (n : Nat) (xs : List Value) (hs : a.eval s = v) (b off m c : Nat) (zs : List Int)
    (hx : a.eval x = .slice (some ⟨b, off, none⟩) m c) (hl : zs.length = m) (hc : ∀ j, j < zs.length → W.cell? ⟨b, off + j, none⟩ = some (.int .i64 (zs[j]?.getD 0))) (hown : W.ownsRow base 3 1 v n xs) (r : Nat) (hr : n + m = r) (hn : r ≤ 1000000) (hbase : base ≤ W.heap.size)
    (h : ∀ (a' : Option Addr) (c' : Nat) (w' : World), w'.ownsRow base 3 1 (.slice a' r c') r (xs ++ zs.map (Value.int .i64)) → W.grownBy w' v.ownBlock → K (a.put o.dst (.slice a' r c')) w') :
    if Region.wanted o (yielded ops a.tmps) = true then Oper.wp Tryd.prog o a W K Q else E := by
  obtain ⟨i0, hi, hz0, hz1, hz2⟩ := info_parts Tryd.info3
  subst hr
  obtain ⟨v', w', hrun, hown', hg, _, _⟩ := run_append_own_at (P := Tryd.prog) W base 26 o.type 3 i0 (.int .i64 0) 1 8 Tryd.underlying26 hi hz0 hz1 hz2 rfl (by decide) v n xs hown ⟨b, off, none⟩ m c (zs.map (Value.int .i64)) (by simp [hl]) (fun j u hj => by
    have hjl : j < zs.length := by have := (List.getElem?_eq_some_iff.1 hj).1; simpa using this
    have hadd : (⟨b, off, none⟩ : Addr).add j = ⟨b, off + j, none⟩ := by unfold Addr.add; split <;> simp_all
    rw [hadd, hc j hjl, ← hj]
    simp [hjl]) (by simp [Value.oneCell']) (by unfold maxLen; omega) (by omega) hbase
  have hw : Region.wanted o (yielded ops a.tmps) = true := by simp [Region.wanted, hgd]
  rw [if_pos hw]
  obtain ⟨a', c', rfl⟩ := ownsRow_slice hown'
  unfold Oper.wp
  simp [execOp, ho, resolve, invoke, builtin, hs, hx, hrun, Result.andThen]
  exact h a' c' w' hown' hg
/-- A slice's length. -/
def lenV : Value → Nat
  | .slice _ n _ => n
  | _ => 0
@[simp] theorem lenV_slice (a : Option Addr) (n c : Nat) : lenV (.slice a n c) = n := rfl
theorem own_le' {w : World} {base n c : Nat} {a : Option Addr} {xs : List Value} (h : w.ownsRow base 3 1 (.slice a n c) n xs) : n ≤ c := by
  rcases h.2 with ⟨e, h0⟩ | ⟨g, cap, cur, e, _, _, h2, _⟩
  · omega
  · cases e; exact h2

set_option maxRecDepth 100000 in
set_option maxHeartbeats 8000000 in
theorem RefChordal_any (a : Option Addr) (m cap n : Nat) (es : List (Int × Int)) (w : World) (hn : n ≤ 12) (hl : es.length = m) (hm : m ≤ 1000) (he : Edges w a es) :
    Calls Tryd.prog 38 #[.int .i64 n, .slice a m cap] w fun e w' => e = .returned (.bool (chordR es n)) ∧ Below w.heap.size w w' := by
  have HE := Lib.hid he
  have HEL := Lib.hid hl
  clear he hl
  obtain ⟨R, hR⟩ : ∃ R, chordR es n = R := ⟨_, rfl⟩
  rw [hR]
  have HR := Lib.hid hR
  clear hR
  go_enter Tryd.func38, Tryd.ntmps38
  go_wp2
  go_loopw [5, 6] (fun v5 v6 wr => ∃ k : Nat, k ≤ n ∧ v6 = .int .i64 k ∧ CollI w ((List.range k).map fun (x : Nat) => (x : Int)) k v5 wr) (fun _ v6 _ => n - (intOf v6).toNat)
  case atStart => exact ⟨0, Nat.zero_le _, rfl, CollI.start w⟩
  case round =>
    obtain ⟨k, hk, rfl, hC⟩ := hrel
    have hsz := hC.1.size
    have HC := Lib.hid hC
    obtain ⟨g0, cp0, hv0, _⟩ := hC.2.2
    subst hv0
    clear hC
    by_cases hlt : k < n
    · go_wp2_with (at_builtin; refine wpList_app_int rfl (.tmp 17) (.tmp 19) rfl w.heap.size _ _ _ rfl (k : Int) _ rfl rfl HC.out.owns (by omega) hsz ?_; intro g cp w2 hr2 hg2 hat2 _; have H2 := Lib.hid (HC.out.next hr2 hg2); clear hr2 hg2 hat2)
      go_roundw
      case rel => exact ⟨k + 1, by omega, by go_num, by rw [List.range_succ, List.map_append]; exact H2.out⟩
      case measure => simp [intOf]; omega
    · obtain rfl : k = n := by omega
      have HI0 := Lib.hid (Ints.of_owns HC.out.owns)
      have HB0 := Lib.hid HC.out.1
      have HL0 : Hid (((List.range k).map fun (x : Nat) => (x : Int)).length = k) := Lib.hid (by simp)
      have hcp := own_le' HC.out.owns
      clear HC hlt hk
      go_wp2
      go_loopw [5, 7, 8, 9, 10] (fun v5 _ _ _ _ wr => ∃ (l : List Int) (aL : Option Addr) (q c : Nat), q ≤ k ∧ q ≤ c ∧ v5 = .slice aL q c ∧ Hid (l.length = q) ∧ Hid (Ints wr aL l) ∧ Hid (Below w.heap.size w wr) ∧ Hid (chordL es q l = R)) (fun v5 _ _ _ _ _ => lenV v5)
      case atStart => exact ⟨_, _, k, cp0, Nat.le_refl _, hcp, rfl, HL0, HI0, HB0, HR⟩
      case round =>
        obtain ⟨l, aL, q, c, hqk, hqc, rfl, HLL, HI, HB, HV⟩ := hrel
        by_cases hq0 : q = 0
        · subst hq0
          have HV2 : Hid (R = true) := Lib.hid HV.out.symm
          go_wp2
          go_ret
          exact ⟨ret_bool HV2.out.symm, HB.out⟩
        · obtain ⟨p, rfl⟩ : ∃ p, q = p + 1 := ⟨q - 1, by omega⟩
          have hq1 : (0 : Int) < ((p + 1 : Nat) : Int) := by omega
          obtain ⟨q, hq⟩ : ∃ q, p + 1 = q := ⟨_, rfl⟩
          have hpq : 0 < q := by omega
          have HVS : Hid (∀ t, atR es l = some t → chordL es p (without l t) = R) := Lib.hid fun t h => by rw [← HV.out, chordL_some h]
          have HVN : Hid (atR es l = none → R = false) := Lib.hid fun h => by rw [← HV.out, chordL_none h]
          have HP := Lib.hid hq
          rw [hq] at hqk hqc HLL hq1 ⊢
          clear HV hq hq0
          obtain ⟨bL, oL, rfl, hcL⟩ : ∃ b off, aL = some ⟨b, off, none⟩ ∧ ∀ i, i < l.length → wr.cell? ⟨b, off + i, none⟩ = some (.int .i64 (l[i]?.getD 0)) := by
            rcases HI.out.at with h | h
            · have := HLL.out; rw [h] at this; simp at this; omega
            · exact h
          have HCL := Lib.hid hcL
          clear hcL
          rename World => w2
          go_wp2
          go_loopw [7, 8, 9, 10] (fun v7 v8 _ _ wr => ∃ (i : Nat) (o : Option Nat), i ≤ q ∧ v8 = .int .i64 i ∧ v7 = atV o ∧ Hid (o = none → (List.range i).find? (cleanAt es l) = none) ∧ Hid (∀ t, o = some t → atR es l = some t) ∧ Hid (Below w2.heap.size w2 wr)) (fun _ v8 _ _ _ => q - (intOf v8).toNat)
          case atStart => exact ⟨0, none, Nat.zero_le _, rfl, rfl, Lib.hid (fun _ => rfl), Lib.hid (fun t h => by cases h), Lib.hid (Below.refl _ _)⟩
          case round =>
            obtain ⟨i, o, hi, rfl, rfl, HF, HO, HB2⟩ := hrel
            cases o with
            | some t =>
              have HT := Lib.hid (HO.out t rfl)
              have htq : t < q := by have := atR_lt HT.out; rw [HLL.out] at this; exact this
              clear HF HO
              simp only [atV]
              have HVT := Lib.hid (HVS.out t HT.out)
              have hba : Below wr.heap.size wr (wr.drew.alloc (.cells #[] 3)) := ((Below.refl _ wr).drew).alloc (by simp) _
              have hcr : ∀ j, j < l.length → wr.cell? ⟨bL, oL + j, none⟩ = some (.int .i64 (l[j]?.getD 0)) := fun j hj => (HB2.out.cell (p := ⟨bL, oL + j, none⟩) (World.block_lt_of_cell? w2 _ (HCL.out j hj))).trans (HCL.out j hj)
              have HTT : Hid (∀ j, j < (l.take t).length → (wr.drew.alloc (.cells #[] 3)).cell? ⟨bL, oL + j, none⟩ = some (.int .i64 ((l.take t)[j]?.getD 0))) := Lib.hid fun j hj => by
                rw [List.length_take] at hj
                rw [hba.cell (p := ⟨bL, oL + j, none⟩) (World.block_lt_of_cell? wr _ (hcr j (by omega))), hcr j (by omega), List.getElem?_take, if_pos (by omega)]
              have HDD : Hid (∀ (w9 : World) (off : Nat), Below wr.heap.size wr w9 → (t + 1 < q → off = oL + (t + 1)) → ∀ j, j < (l.drop (t + 1)).length → w9.cell? ⟨bL, off + j, none⟩ = some (.int .i64 ((l.drop (t + 1))[j]?.getD 0))) := Lib.hid fun w9 off hb9 ho j hj => by
                rw [List.length_drop, HLL.out] at hj
                have hj2 : t + 1 + j < l.length := by rw [HLL.out]; omega
                rw [ho (by omega), show oL + (t + 1) + j = oL + (t + 1 + j) by omega, hb9.cell (p := ⟨bL, oL + (t + 1 + j), none⟩) (World.block_lt_of_cell? wr _ (hcr _ hj2)), hcr _ hj2, List.getElem?_drop]
              have HTL : Hid ((l.take t).length = t) := Lib.hid (by rw [List.length_take, HLL.out]; omega)
              have HDL : Hid ((l.drop (t + 1)).length = q - (t + 1)) := Lib.hid (by rw [List.length_drop, HLL.out])
              have HBA := Lib.hid hba
              have HOE : Hid ((wr.drew.alloc (.cells #[] 3)).ownsRow wr.heap.size 3 1 (.slice (some ⟨wr.heap.size, 0, none⟩) 0 0) 0 []) := Lib.hid (owns_empty wr.drew 3)
              have HBT : Hid (Below w.heap.size w wr) := Lib.hid (HB.out.trans (HB2.out.mono HB.out.size))
              have HWL : Hid ((without l t).length = p) := Lib.hid (by rw [without_len _ _ (by rw [HLL.out]; exact htq), HLL.out]; have := HP.out; omega)
              have ws0 : IntKind.i64.wrap ((t : Int) + 1) = (t : Int) + 1 := IntWalk.i64_in _ (by omega)
              have ht1 : (t : Int) ≤ (c : Int) := by omega
              have ht2 : (0 : Int) ≤ (t : Int) + 1 := by omega
              have ht3 : (t : Int) + 1 ≤ (q : Int) := by omega
              have ht4 : ((t : Int) + 1).toNat = t + 1 := by omega
              have hpq2 : p + 1 = q := HP.out
              have htp : t + (q - (t + 1)) = p := by omega
              clear hba hcr HT
              by_cases hiq : i < q
              all_goals
                by_cases hct : c = t + 1
                · have hcT : (c = t + 1) = True := eq_true hct
                  have HDQ := Lib.hid (fun (w9 : World) (hb9 : Below wr.heap.size wr w9) => HDD.out w9 oL hb9 (fun h => by omega))
                  clear hct
                  go_wp2
                  go_region_law (first
                    | (refine step_app_zs rfl (.tmp 64) (.tmp 67) rfl wr.heap.size (.slice (some ⟨wr.heap.size, 0, none⟩) 0 0) 0 [] (by simp [Act.eval]) bL oL t c (l.take t) (by simp [Act.eval]) HTL.out HTT.out HOE.out t (by omega) (by omega) (by simp) ?_; intro a3 c3 w3 hr3 hg3; have H3 := Lib.hid (And.intro hr3 (HBA.out.grown hg3 (by simp) (fun x hx => Nat.le_of_eq (Option.some.inj hx)))); clear hr3 hg3)
                    | (refine step_app_zs rfl (.tmp 68) (.tmp 72) rfl wr.heap.size (.slice a3 t c3) t ([] ++ (l.take t).map (Value.int .i64)) (by simp [Act.eval]) bL oL (q - (t + 1)) (c - (t + 1)) (l.drop (t + 1)) (by simp [Act.eval]) HDL.out (HDQ.out w3 H3.out.2) H3.out.1 p (by omega) (by omega) H3.out.2.size ?_; intro a4 c4 w4 hr4 hg4; have H4 := Lib.hid (And.intro hr4 (H3.out.2.grown hg4 H3.out.2.size (fun x hx => (H3.out.1.lt x hx).1))); clear hr4 hg4))
                  have HI4 : Hid (Ints w4 a4 (without l t)) := Lib.hid (Ints.of_owns (n := p) (cap := c4) (base := wr.heap.size) (by have := H4.out.1; rw [without, List.map_append]; simpa using this))
                  have HB4 : Hid (Below w.heap.size w w4) := Lib.hid (HBT.out.trans (H4.out.2.mono HBT.out.size))
                  have hc4 := own_le' H4.out.1
                  clear H3 H4 HTT HDD HDQ HBA HOE
                  go_simp
                  go_wp2
                  go_roundw
                  case rel => exact ⟨without l t, a4, p, c4, by omega, hc4, rfl, HWL, HI4, HB4, HVT⟩
                  case measure => simp; omega
                · have HDQ := Lib.hid (fun (w9 : World) (hb9 : Below wr.heap.size wr w9) => HDD.out w9 (oL + (t + 1)) hb9 (fun _ => rfl))
                  go_wp2
                  go_region_law (first
                    | (refine step_app_zs rfl (.tmp 64) (.tmp 67) rfl wr.heap.size (.slice (some ⟨wr.heap.size, 0, none⟩) 0 0) 0 [] (by simp [Act.eval]) bL oL t c (l.take t) (by simp [Act.eval]) HTL.out HTT.out HOE.out t (by omega) (by omega) (by simp) ?_; intro a3 c3 w3 hr3 hg3; have H3 := Lib.hid (And.intro hr3 (HBA.out.grown hg3 (by simp) (fun x hx => Nat.le_of_eq (Option.some.inj hx)))); clear hr3 hg3)
                    | (refine step_app_zs rfl (.tmp 68) (.tmp 72) rfl wr.heap.size (.slice a3 t c3) t ([] ++ (l.take t).map (Value.int .i64)) (by simp [Act.eval]) bL (oL + (t + 1)) (q - (t + 1)) (c - (t + 1)) (l.drop (t + 1)) (by simp [Act.eval]) HDL.out (HDQ.out w3 H3.out.2) H3.out.1 p (by omega) (by omega) H3.out.2.size ?_; intro a4 c4 w4 hr4 hg4; have H4 := Lib.hid (And.intro hr4 (H3.out.2.grown hg4 H3.out.2.size (fun x hx => (H3.out.1.lt x hx).1))); clear hr4 hg4))
                  have HI4 : Hid (Ints w4 a4 (without l t)) := Lib.hid (Ints.of_owns (n := p) (cap := c4) (base := wr.heap.size) (by have := H4.out.1; rw [without, List.map_append]; simpa using this))
                  have HB4 : Hid (Below w.heap.size w w4) := Lib.hid (HBT.out.trans (H4.out.2.mono HBT.out.size))
                  have hc4 := own_le' H4.out.1
                  clear H3 H4 HTT HDD HDQ HBA HOE
                  go_simp
                  go_wp2
                  go_roundw
                  case rel => exact ⟨without l t, a4, p, c4, by omega, hc4, rfl, HWL, HI4, HB4, HVT⟩
                  case measure => simp; omega
            | none =>
              have HF2 := Lib.hid (HF.out rfl)
              clear HF HO
              simp only [atV]
              by_cases hiq : i < q
              · rename World => w3
                have hiL : i < l.length := by rw [HLL.out]; exact hiq
                go_wp2
                go_loopw [9, 10] (fun v9 v10 wr => ∃ k u : Nat, k ≤ q ∧ u ≤ k ∧ v10 = .int .i64 k ∧ CollI w3 (nearTo es l i k) u v9 wr) (fun _ v10 _ => q - (intOf v10).toNat)
                case atStart => exact ⟨0, 0, Nat.zero_le _, Nat.le_refl _, rfl, by rw [show nearTo es l i 0 = [] from by simp [nearTo]]; exact CollI.start w3⟩
                case round =>
                  obtain ⟨k2, u, hk2, hu, rfl, hC⟩ := hrel
                  have hsz := hC.1.size
                  have HCo := Lib.hid hC
                  have HB3 : Hid (Below w2.heap.size w2 wr) := Lib.hid (HB2.out.trans (hC.1.mono HB2.out.size))
                  have HB4 : Hid (Below w.heap.size w wr) := Lib.hid (HB.out.trans (HB3.out.mono HB.out.size))
                  obtain ⟨g0, cp0, hv0, _⟩ := hC.2.2
                  subst hv0
                  clear hC
                  by_cases hlt2 : k2 < q
                  · have hkL : k2 < l.length := by rw [HLL.out]; exact hlt2
                    have hc1 := HCL.out k2 hkL
                    have hc0 := HCL.out i hiL
                    have c0 := (HB3.out.cell (p := ⟨bL, oL + i, none⟩) (World.block_lt_of_cell? w2 _ hc0)).trans hc0
                    have c1 := (HB3.out.cell (p := ⟨bL, oL + k2, none⟩) (World.block_lt_of_cell? w2 _ hc1)).trans hc1
                    clear hc0 hc1
                    have hiq2 : (i : Int) < (q : Int) := by omega
                    have HY := Lib.hid (fun h => near_yes (es := es) (l := l) (i := i) hkL h)
                    have HNo := Lib.hid (fun h => near_no (es := es) (l := l) (i := i) hkL h)
                    have HNr := fun (z : Nat) => Near_any a m cap es (l[i]?.getD 0) (l[k2]?.getD 0) (wr.drewN z) HEL.out hm (HE.out.below (below_drewN HB4.out z))
                    obtain ⟨y, hy⟩ : ∃ y, l[k2]?.getD 0 = y := ⟨_, rfl⟩
                    rw [hy] at c1 HNr HY HNo
                    obtain ⟨x, hx⟩ : ∃ x, l[i]?.getD 0 = x := ⟨_, rfl⟩
                    rw [hx] at c0 HNr HY HNo
                    obtain ⟨r, hr⟩ : ∃ r, nearB es x y = r := ⟨_, rfl⟩
                    rw [hr] at HNr HY HNo
                    have HH := Lib.hid HNr
                    clear hx hy hr HNr hkL
                    cases r with
                    | true =>
                      have HY2 := Lib.hid (HY.out (by trivial))
                      clear HY HNo
                      go_wp2
                      go_quiet (with_reducible exact quiet_same (HH.out _))
                      have hc5 : (wr.drewN nq).cell? ⟨bL, oL + k2, none⟩ = some (.int .i64 y) := c1
                      have HC5 := Lib.hid (HCo.out.drewN nq)
                      have hsz5 : w3.heap.size ≤ (wr.drewN nq).heap.size := hsz
                      generalize wr.drewN nq = w5 at hc5 HC5 hsz5 ⊢
                      clear c0 c1
                      go_wp2_with (at_builtin; refine wpList_app_int rfl (.tmp 51) (.tmp 56) rfl w3.heap.size _ _ _ rfl y _ rfl rfl HC5.out.owns (by omega) hsz5 ?_; intro g cp w6 hr2 hg2 hat2 _; have H2 := Lib.hid (HC5.out.next hr2 hg2); clear hr2 hg2 hat2)
                      go_roundw
                      case rel => exact ⟨k2 + 1, u + 1, by omega, by omega, by go_num, by rw [HY2.out]; exact H2.out⟩
                      case measure => simp [intOf]; omega
                    | false =>
                      have HY2 := Lib.hid (HNo.out (by trivial))
                      clear HY HNo
                      go_wp2
                      go_quiet (with_reducible exact quiet_same (HH.out _))
                      go_wp2
                      go_roundw
                      case rel => exact ⟨k2 + 1, u, by omega, by omega, by go_num, by rw [HY2.out]; exact HCo.out.drewN nq⟩
                      case measure => simp [intOf]; omega
                  · obtain rfl : k2 = q := by omega
                    have HCl := Lib.hid (Clique_any a (some ⟨g0, 0, none⟩) m cap u cp0 es (nearTo es l i k2) wr HEL.out hm (HE.out.below HB4.out) HCo.out.2.1 (by omega) (Ints.of_owns HCo.out.owns))
                    have HCA : Hid (cleanAt es l i = cliqueR es (nearTo es l i k2)) := Lib.hid (by rw [cleanAt, HLL.out])
                    have HFN := Lib.hid (fun h => find_next (cleanAt es l) i HF2.out h)
                    have HFH := Lib.hid (fun h => find_here (cleanAt es l) l.length i HF2.out hiL h)
                    obtain ⟨r, hr⟩ : ∃ r, cliqueR es (nearTo es l i k2) = r := ⟨_, rfl⟩
                    rw [hr] at HCl HCA
                    clear hr
                    cases r with
                    | true =>
                      have HT : Hid (atR es l = some i) := Lib.hid (HFH.out HCA.out)
                      go_wp2_with (go_at_call 21; refine HCl.out.mono ?_; rintro e w' ⟨rfl, hb3⟩; have HB5 := Lib.hid (HB3.out.trans (hb3.mono HB3.out.size)); clear hb3)
                      go_roundw
                      case rel => exact ⟨i + 1, some i, by omega, by go_num, rfl, Lib.hid (fun h => by cases h), Lib.hid (fun t h => by cases h; exact HT.out), HB5⟩
                      case measure => simp [intOf]; omega
                    | false =>
                      have HT := Lib.hid (HFN.out HCA.out)
                      go_wp2_with (go_at_call 21; refine HCl.out.mono ?_; rintro e w' ⟨rfl, hb3⟩; have HB5 := Lib.hid (HB3.out.trans (hb3.mono HB3.out.size)); clear hb3)
                      go_roundw
                      case rel => exact ⟨i + 1, none, by omega, by go_num, rfl, Lib.hid (fun _ => HT.out), Lib.hid (fun t h => by cases h), HB5⟩
                      case measure => simp [intOf]; omega
              · obtain rfl : i = q := by omega
                have HR0 : Hid (R = false) := Lib.hid (HVN.out (by rw [atR, HLL.out]; exact HF2.out))
                have HBF : Hid (Below w.heap.size w wr) := Lib.hid (HB.out.trans (HB2.out.mono HB.out.size))
                go_wp2
                go_ret
                exact ⟨ret_bool HR0.out.symm, HBF.out⟩

end Go.Proofs.YthlbedhjekbfpaaDoor
