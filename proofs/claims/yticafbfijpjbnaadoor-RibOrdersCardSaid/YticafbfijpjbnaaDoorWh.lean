/-
  The walk of 'RibOrders'.
-/
import Derived.Test.YticafbfijpjbnaaDoorWg
import Derived.Test.YticafbfijpjbnaaDoorWa
import Derived.Test.YticafbfijpjbnaaDoorTe
namespace Go.Proofs.YticafbfijpjbnaaDoor
open Go.RowKit Go.Sort

theorem ordN_le {n : Nat} {gs : List Nat} {es : List (Int × Int)} (h : Adj n gs es) (hn : n ≤ 12) : (ordN n gs).length ≤ n := by
  obtain ⟨h1, h2, _⟩ := elimAll_order h hn (2 ^ n - 1 + 1) (2 ^ n - 1) (full_lt n)
  have := List.Nodup.length_le_of_subset h1 (l₂ := List.range n) fun x hx => List.mem_range.2 (bit_lt (full_lt n) (h2 x hx))
  simpa [ordN] using this
theorem ordI_len (n : Nat) (gs : List Nat) : (ordI n gs).length = (ordN n gs).length := by rw [ordI, List.length_map]
theorem chord_yes {n : Nat} {gs : List Nat} {es : List (Int × Int)} (h : Adj n gs es) (hn : n ≤ 12) (hc : chordR es n = true) : (ordI n gs).length = n ∧ permR (ordI n gs) n = true ∧ elimR es (ordI n gs) = true := by
  rw [chord_same h hn, decide_eq_true_iff] at hc
  obtain ⟨h1, h2⟩ := order_good h hn hc
  exact ⟨by rw [ordI_len, hc], h1, h2⟩
theorem chord_no {n : Nat} {gs : List Nat} {es : List (Int × Int)} (h : Adj n gs es) (hn : n ≤ 12) (hc : chordR es n = false) : (ordI n gs).length < n := by
  rw [chord_same h hn, decide_eq_false_iff_not] at hc
  have := ordN_le h hn
  rw [ordI_len]
  omega

set_option maxRecDepth 100000 in
set_option maxHeartbeats 8000000 in
theorem RibOrders_any (N0 : Int) (a : Option Addr) (m0 cap : Nat) (es0 : List (Int × Int)) (w : World) (hl : es0.length = m0) (hm : m0 ≤ 9223372036854775807) (hcap : m0 ≤ cap) (hnone : a = none → cap = 0) (he : Edges w a es0) (hT : TabW w) :
    Calls Tryd.prog 3 #[.agg #[.int .i64 N0, .slice a m0 cap]] w fun e w' => e = .returned (.bool true) ∧ Below w.heap.size w w' := by
  have hb0 : Below w.heap.size w (w.alloc (.cells #[.int .i64 N0, .slice a m0 cap] 24)) := (Below.refl _ w).alloc (Nat.le_refl _) _
  have HF := Lib.hid (few_any N0 a m0 cap es0 (w.alloc (.cells #[.int .i64 N0, .slice a m0 cap] 24)) hl hm hcap hnone (he.below hb0))
  have HB0 := Lib.hid hb0
  have HT := Lib.hid hT
  obtain ⟨N, hN⟩ : ∃ N, fewN N0 = N := ⟨_, rfl⟩
  obtain ⟨es, hes⟩ : ∃ es, fewE es0 = es := ⟨_, rfl⟩
  have hel : es.length ≤ 70 := by rw [← hes, fewE, List.length_take]; omega
  unfold FewV at HF
  rw [hN, hes] at HF
  obtain ⟨m, hm'⟩ : ∃ m, es.length = m := ⟨_, rfl⟩
  rw [hm'] at hel HF
  have HLm := Lib.hid hm'
  clear hb0 hl hm hcap hnone he hN hes hm' hT
  have HLV := Lib.hid (fun wx => lives_any wx)
  go_enter Tryd.func3, Tryd.ntmps3
  go_wp2_with (go_at_call 7; refine HF.out.mono ?_; rintro e w1 ⟨aE, cE, rfl, he1, hb1⟩; have H1 := Lib.hid (And.intro he1 (HB0.out.trans (hb1.mono HB0.out.size))); clear he1 hb1)
  have h1w := H1.out.2.size
  have hb4 := (Below.refl _ w1).alloc (Nat.le_refl _) (.cells #[.int .i64 N, .slice aE m cE] 24)
  have HS4 : Hid (StC w w1.heap.size N aE m cE es (w1.alloc (.cells #[.int .i64 N, .slice aE m cE] 24))) := Lib.hid ⟨H1.out.2.alloc h1w _, H1.out.1.below hb4, by simp, by simp⟩
  have HCH := Lib.hid (fun (wx : World) (hx : StC w w1.heap.size N aE m cE es wx) => lawChordal_any N aE m cE es wx HLm.out (by omega) hx.2.1)
  clear hb4 HF H1
  rcases Bool.eq_false_or_eq_true (graphR N es) with hg | hg
  · obtain ⟨n, gs, rfl, h1, h2, hadj, hgood⟩ := graphOf_good hg
    have HO := Lib.hid (fun (wx : World) (hx : StC w w1.heap.size n aE m cE es wx) => Order_any n aE m cE es n gs wx rfl h2 hadj (hgood _ _ _ _ HLm.out (by omega) hx.2.1))
    have HR := Lib.hid (fun (wx : World) (hx : StC w w1.heap.size n aE m cE es wx) => Ring_any n aE m cE es n gs wx rfl h2 hadj (HT.out.next hx.1) (hgood _ _ _ _ HLm.out (by omega) hx.2.1))
    unfold OrderV at HO
    unfold RingV at HR
    rcases Bool.eq_false_or_eq_true (chordR es n) with hc | hc
    · -- chordal: an order, and no ring
      obtain ⟨hlen, hperm, helim⟩ := chord_yes hadj h2 hc
      have hch : chordE n es = 0 := by rw [chordE, if_pos hg, Int.toNat_natCast, if_pos hc]
      have hyes : chdB gs (2 ^ n - 1) = true := by rw [← chord_chdB hadj h2, hc]
      have hnn : ¬ n < n := Nat.lt_irrefl n
      simp only [hlen, if_neg hnn] at HO
      simp only [if_pos hyes] at HR
      clear hyes hnn
      rw [hch] at HCH
      have HPM := Lib.hid hperm
      have HEM := Lib.hid helim
      have HLN := Lib.hid hlen
      obtain ⟨L, hL⟩ : ∃ L, ordI n gs = L := ⟨_, rfl⟩
      rw [hL] at HO HPM HEM HLN
      clear hg hgood hadj hc hch hperm helim hlen hL
      go_wp2_with (fail)
      refine (HO.out _ HS4.out).mono ?_
      rintro e w5 ⟨hb5, a5, c5, rfl, hown⟩
      have HS5 := Lib.hid (HS4.out.next hb5)
      have HI5 := Lib.hid (Ints.of_owns hown)
      have d0 := HS5.out.2.2.1
      have d1 := HS5.out.2.2.2
      clear hb5 HS4 HO hown
      go_wp2_with (fail)
      refine (HR.out _ HS5.out).mono ?_
      rintro e w6 ⟨hb6, rfl⟩
      have HS6 := Lib.hid (HS5.out.next hb6)
      have HI6 := Lib.hid (HI5.out.below hb6)
      replace d0 := HS6.out.2.2.1
      replace d1 := HS6.out.2.2.2
      clear hb6 HS5 HR HI5
      go_wp2_with (fail)
      refine (HCH.out _ HS6.out).mono ?_
      rintro e w7 ⟨rfl, hb7⟩
      have HS7 := Lib.hid (HS6.out.next hb7)
      have HI7 := Lib.hid (HI6.out.below hb7)
      replace d0 := HS7.out.2.2.1
      replace d1 := HS7.out.2.2.2
      clear hb7 HS6 HCH HI6
      go_wp2_with (fail)
      refine (Permutation_any a5 n c5 L n w7 HLN.out (by omega) (by omega) (by omega) HI7.out).mono ?_
      rintro e w8 ⟨rfl, hb8⟩
      rw [HPM.out]
      have HS8 := Lib.hid (HS7.out.next hb8)
      have HI8 := Lib.hid (HI7.out.below hb8)
      replace d0 := HS8.out.2.2.1
      replace d1 := HS8.out.2.2.2
      clear hb8 HS7 HI7
      go_wp2_with (fail)
      refine (RefElim_any aE a5 m cE n c5 es L w8 HLm.out (by omega) HS8.out.2.1 HLN.out (by omega) HI8.out).mono ?_
      rintro e w9 ⟨rfl, hb9⟩
      rw [HEM.out]
      have HB9 := Lib.hid (HS8.out.next hb9).1
      clear hb9 HS8 HI8 d0 d1
      go_wp2_with (fail)
      refine (HLV.out _).mono ?_
      rintro e w10 ⟨rfl, hb10⟩
      have HB10 := Lib.hid (HB9.out.trans (hb10.mono HB9.out.size))
      clear hb10 HB9
      go_wp2_with (fail)
      go_ret
      exact ⟨rfl, HB10.out⟩
    · -- not chordal: a ring, and no order
      have hch : chordE n es = 5 := by rw [chordE, if_pos hg, Int.toNat_natCast, if_neg (by rw [hc]; simp)]
      have hno : chdB gs (2 ^ n - 1) = false := by rw [← chord_chdB hadj h2, hc]
      obtain ⟨hring, hlt, hlen⟩ := ringOf_good hadj h2 hno
      have hless := chord_no hadj h2 hc
      have hnt : ¬ chdB gs (2 ^ n - 1) = true := by rw [hno]; simp
      simp only [if_pos hless] at HO
      simp only [if_neg hnt] at HR
      clear hless hnt
      rw [hch] at HCH
      have HRM : Hid (ringR es (ringI n gs) = true) := Lib.hid hring
      have HLT : Hid (∀ i, i < (ringI n gs).length → 0 ≤ (ringI n gs)[i]?.getD 0 ∧ (ringI n gs)[i]?.getD 0 < n) := Lib.hid (fun i hi => by
        have hi' : i < (ringOf n gs).length := by simpa [ringI] using hi
        have := hlt _ (List.getElem_mem hi')
        rw [ringI, List.getElem?_map, List.getElem?_eq_getElem hi']
        simp only [Option.map_some, Option.getD_some]
        omega)
      have hlr : (ringI n gs).length ≤ 12 := by rw [ringI, List.length_map]; omega
      obtain ⟨L, hL⟩ : ∃ L, ringI n gs = L := ⟨_, rfl⟩
      rw [hL] at HR HRM HLT hlr
      obtain ⟨q, hq⟩ : ∃ q, L.length = q := ⟨_, rfl⟩
      have HLN := Lib.hid hq
      rw [hq] at HR HLT hlr
      clear hg hgood hadj hc hch hno hring hlt hlen hL hq
      go_wp2_with (fail)
      refine (HO.out _ HS4.out).mono ?_
      rintro e w5 ⟨hb5, rfl⟩
      have HS5 := Lib.hid (HS4.out.next hb5)
      have d0 := HS5.out.2.2.1
      have d1 := HS5.out.2.2.2
      clear hb5 HS4 HO
      go_wp2_with (fail)
      refine (HR.out _ HS5.out).mono ?_
      rintro e w6 ⟨hb6, a5, c5, rfl, hown⟩
      have HS6 := Lib.hid (HS5.out.next hb6)
      have HI6 := Lib.hid (Ints.of_owns hown)
      replace d0 := HS6.out.2.2.1
      replace d1 := HS6.out.2.2.2
      clear hb6 HS5 HR hown
      go_wp2_with (fail)
      refine (HCH.out _ HS6.out).mono ?_
      rintro e w7 ⟨rfl, hb7⟩
      have HS7 := Lib.hid (HS6.out.next hb7)
      have HI7 := Lib.hid (HI6.out.below hb7)
      clear hb7 HS6 HCH HI6 d0 d1
      go_wp2_with (fail)
      refine (HLV.out _).mono ?_
      rintro e w8 ⟨rfl, hb8⟩
      have HS8 := Lib.hid (HS7.out.next hb8)
      have HI8 := Lib.hid (HI7.out.below hb8)
      clear hb8 HS7 HI7
      go_wp2_with (fail)
      go_loopw [8] (fun i wr => ∃ j : Nat, j ≤ q ∧ i = .int .i64 j ∧ Hid (StC w w1.heap.size n aE m cE es wr ∧ Ints wr a5 L)) (fun i _ => q - (intOf i).toNat)
      case atStart => exact ⟨0, Nat.zero_le _, rfl, Lib.hid ⟨HS8.out, HI8.out⟩⟩
      case round =>
        obtain ⟨j, hj, rfl, HSR⟩ := hrel
        by_cases hlt : j < q
        · have hjL : j < L.length := by rw [HLN.out]; exact hlt
          obtain ⟨bL, oL, rfl, cL⟩ := HSR.out.2 j hjL
          obtain ⟨z1, z2⟩ := HLT.out j hlt
          obtain ⟨z, hz⟩ : ∃ z, L[j]?.getD 0 = z := ⟨_, rfl⟩
          rw [hz] at cL z1 z2
          have d0 := HSR.out.1.2.2.1
          have hjq : (j : Int) < (q : Int) := by omega
          have z3 : ¬ z < 0 := by omega
          have z4 : ¬ (n : Int) ≤ z := by omega
          clear hz hjL
          go_wp2
          go_quiet (fail)
          go_wp2
          go_roundw
          case rel => exact ⟨j + 1, by omega, by go_num, Lib.hid ⟨HSR.out.1.next (below_drewN (Below.refl _ _) _), HSR.out.2.below (below_drewN (Below.refl _ _) _)⟩⟩
          case measure => simp [intOf]; omega
        · obtain rfl : j = q := by omega
          have d1 := HSR.out.1.2.2.2
          go_wp2_with (fail)
          refine (RefRing_any aE a5 m cE j c5 es L wr HLm.out (by omega) HSR.out.1.2.1 HLN.out (by omega) HSR.out.2).mono ?_
          rintro e w9 ⟨rfl, hb9⟩
          rw [HRM.out]
          have HB9 := Lib.hid (HSR.out.1.next hb9).1
          go_wp2_with (fail)
          go_ret
          exact ⟨rfl, HB9.out⟩
  · have HO := Lib.hid (fun (wx : World) (hx : StC w w1.heap.size N aE m cE es wx) => Order_bad hg aE m cE wx HLm.out (by omega) hx.2.1)
    have HR := Lib.hid (fun (wx : World) (hx : StC w w1.heap.size N aE m cE es wx) => Ring_bad hg aE m cE wx HLm.out (by omega) hx.2.1)
    have hch : chordE N es = 1 := by rw [chordE, if_neg (by rw [hg]; simp)]
    rw [hch] at HCH
    clear hg hch
    go_wp2_with (fail)
    refine (HO.out _ HS4.out).mono ?_
    rintro e w5 ⟨rfl, hb5⟩
    have HS5 := Lib.hid (HS4.out.next hb5)
    have d0 := HS5.out.2.2.1
    have d1 := HS5.out.2.2.2
    clear hb5 HS4 HO
    go_wp2_with (fail)
    refine (HR.out _ HS5.out).mono ?_
    rintro e w6 ⟨rfl, hb6⟩
    have HS6 := Lib.hid (HS5.out.next hb6)
    replace d0 := HS6.out.2.2.1
    replace d1 := HS6.out.2.2.2
    clear hb6 HS5 HR
    go_wp2_with (fail)
    refine (HCH.out _ HS6.out).mono ?_
    rintro e w7 ⟨rfl, hb7⟩
    have HS7 := Lib.hid (HS6.out.next hb7)
    replace d0 := HS7.out.2.2.1
    replace d1 := HS7.out.2.2.2
    clear hb7 HS6 HCH
    go_wp2_with (fail)
    refine (HLV.out _).mono ?_
    rintro e w8 ⟨rfl, hb8⟩
    have HB8 := Lib.hid (HS7.out.1.trans (hb8.mono HS7.out.1.size))
    clear hb8 HS7 d0 d1
    go_wp2_with (fail)
    go_ret
    exact ⟨rfl, HB8.out⟩

end Go.Proofs.YticafbfijpjbnaaDoor
