/-
  The walk of 'isRing'.
-/
import Derived.Test.YticafbfijpjbnaaRo
namespace Go.Proofs.Yticafbfijpjbnaa
open Go.RowKit Go.Sort

theorem setOf_three (x y z : Nat) (hx : x < 16) (hy : y < 16) (hz : z < 16) (wx : World) : Calls Try.prog 66 #[.slice (some ⟨wx.heap.size, 0, none⟩) 3 3] (wx.alloc (.cells #[.int .i64 (x : Int), .int .i64 (y : Int), .int .i64 (z : Int)] 3)).drew
    fun e w' => e = .returned (.int .u16 (setN' [x, y, z] : Nat)) ∧ (wx.alloc (.cells #[.int .i64 (x : Int), .int .i64 (y : Int), .int .i64 (z : Int)] 3)).drew = w' :=
  setOf_any (some ⟨wx.heap.size, 0, none⟩) 3 3 [x, y, z] (wx.alloc (.cells #[.int .i64 (x : Int), .int .i64 (y : Int), .int .i64 (z : Int)] 3)).drew rfl (by omega) (by simp; omega) (fun i hi => ⟨wx.heap.size, 0, rfl, by
    show (wx.alloc (.cells #[.int .i64 (x : Int), .int .i64 (y : Int), .int .i64 (z : Int)] 3)).cell? _ = _
    have hi' : i < 3 := by simpa using hi
    match i, hi' with
    | 0, _ => exact World.cell?_alloc_at _ _ _ _ rfl
    | 1, _ => exact World.cell?_alloc_at _ _ _ _ rfl
    | 2, _ => exact World.cell?_alloc_at _ _ _ _ rfl⟩)

set_option maxRecDepth 100000 in
set_option maxHeartbeats 4000000 in
theorem isRing_any (a aL : Option Addr) (N cap m cL : Nat) (gs L : List Nat) (w : World) (hn : gs.length = N) (hm : N ≤ 12) (hg : ∀ i, i < N → gs[i]?.getD 0 < 65536) (hz : Sets w a gs) (hl : L.length = m) (hmm : m ≤ 1000) (hv : ∀ x ∈ L, x < N) (hL : Ints w aL (L.map fun (x : Nat) => (x : Int))) :
    Calls Try.prog 43 #[.slice a N cap, .slice aL m cL] w fun e w' => e = .returned (.bool (ringN gs L)) ∧ Below w.heap.size w w' := by
  have H16 : ∀ x ∈ L, x < 16 := fun x hx => by have := hv x hx; omega
  have H1 := Lib.hid (setOf_any aL m cL L w hl hmm H16 hL)
  have hS := setN'_lt L H16
  have H2 := Lib.hid (fun wx => count_any (setN' L) wx hS)
  have HG : Hid (ringN gs L = (decide (4 ≤ m) && (decide (m ≤ cntN (setN' L)) && (List.range m).all (ringAt gs L)))) := Lib.hid (by rw [ringN, hl])
  have HXL := Lib.hid hL.at
  have HXG := Lib.hid hz.at
  have HN := Lib.hid hn
  have HLn := Lib.hid hl
  have HV := Lib.hid hv
  have HGG := Lib.hid hg
  have HC16 := cnt_le (setN' L)
  obtain ⟨S, hSS⟩ : ∃ S, setN' L = S := ⟨_, rfl⟩
  have HSS := Lib.hid hSS
  rw [hSS] at H1 H2 HG hS HC16
  obtain ⟨C, hC⟩ : ∃ C, cntN S = C := ⟨_, rfl⟩
  rw [hC] at H2 HG HC16
  clear hn hg hz hl hv hL H16 hSS hC
  by_cases h4 : m < 4
  · rw [decide_eq_false (by omega : ¬ 4 ≤ m), Bool.false_and] at HG
    go_enter Try.func43, Try.ntmps43
    go_wp2_with (go_at_call 66; refine H1.out.mono ?_; rintro e w' ⟨rfl, rfl⟩)
    go_ret
    exact ⟨ret_bool HG.out.symm, Below.refl _ _⟩
  rw [decide_eq_true (by omega : 4 ≤ m), Bool.true_and] at HG
  by_cases hcm : C < m
  · rw [decide_eq_false (by omega : ¬ m ≤ C), Bool.false_and] at HG
    go_enter Try.func43, Try.ntmps43
    go_wp2_with (first
      | (go_at_call 66; refine H1.out.mono ?_; rintro e w' ⟨rfl, rfl⟩)
      | (go_at_call 70; refine (H2.out _).mono ?_; rintro e w' ⟨rfl, hb⟩))
    go_ret
    exact ⟨ret_bool HG.out.symm, hb⟩
  rw [decide_eq_true (by omega : m ≤ C), Bool.true_and] at HG
  go_enter Try.func43, Try.ntmps43
  go_wp2_with (first
    | (go_at_call 66; refine H1.out.mono ?_; rintro e w' ⟨rfl, rfl⟩)
    | (go_at_call 70; refine (H2.out _).mono ?_; rintro e w' ⟨rfl, hb⟩))
  go_loopw [25, 7, 8, 9, 10] (fun i _ _ _ _ wr => ∃ k : Nat, k ≤ m ∧ i = .int .i64 k ∧ (List.range k).all (ringAt gs L) = true ∧ Below w.heap.size w wr) (fun i _ _ _ _ _ => m - (intOf i).toNat)
  case atStart => exact ⟨0, Nat.zero_le _, rfl, rfl, hb⟩
  case round =>
    obtain ⟨k, hk, rfl, hall, hb2⟩ := hrel
    have HA := Lib.hid hall
    have HB := Lib.hid hb2
    clear hall hb2
    by_cases hlt : k < m
    · have hkL : k < L.length := by rw [HLn.out]; exact hlt
      rcases HXL.out with h | ⟨b, off, rfl, hc⟩
      · rw [List.map_eq_nil_iff] at h; subst h; simp at hkL
      have hget : ∀ j, j < m → (L.map fun (x : Nat) => (x : Int))[j]?.getD 0 = ((L[j]?.getD 0 : Nat) : Int) := fun j hj => by
        have : j < L.length := by rw [HLn.out]; exact hj
        simp [this]
      have hlt' : ∀ j, j < m → L[j]?.getD 0 < N := fun j hj => by
        have hj' : j < L.length := by rw [HLn.out]; exact hj
        rw [List.getElem?_eq_getElem hj']
        exact HV.out _ (List.getElem_mem hj')
      obtain ⟨p, hp⟩ : ∃ p : Nat, (k + m - 1) % m = p := ⟨_, rfl⟩
      obtain ⟨q, hq⟩ : ∃ q : Nat, (k + 1) % m = q := ⟨_, rfl⟩
      have hpm : p < m := by rw [← hp]; exact Nat.mod_lt _ (by omega)
      have hqm : q < m := by rw [← hq]; exact Nat.mod_lt _ (by omega)
      have hpi : ((k : Int) + (m : Int) - 1) % (m : Int) = (p : Int) := by
        rw [← hp, Int.natCast_emod, show ((k + m - 1 : Nat) : Int) = (k : Int) + (m : Int) - 1 by omega]
      have hqi : ((k : Int) + 1) % (m : Int) = (q : Int) := by
        rw [← hq, Int.natCast_emod, show ((k + 1 : Nat) : Int) = (k : Int) + 1 by omega]
      have hpm' : (p : Int) < (m : Int) := by omega
      have hqm' : (q : Int) < (m : Int) := by omega
      have hkm' : (k : Int) < (m : Int) := by omega
      have cell : ∀ j, j < m → wr.cell? ⟨b, off + j, none⟩ = some (.int .i64 ((L[j]?.getD 0 : Nat) : Int)) := fun j hj => by
        have := hc j (by simpa [HLn.out] using hj)
        rw [hget j hj] at this
        exact (HB.out.cell (p := ⟨b, off + j, none⟩) (World.block_lt_of_cell? w _ this)).trans this
      have c0 := cell k hlt
      have c1 := cell p hpm
      have c2 := cell q hqm
      rcases HXG.out with h | ⟨bg, og, rfl, hcg⟩
      · have := hlt' k hlt; have := HN.out; subst h; simp at this; omega
      have hvN := hlt' k hlt
      have hpN := hlt' p hpm
      have hqN := hlt' q hqm
      have HAT : Hid (ringAt gs L k = (((gs[L[k]?.getD 0]?.getD 0) &&& S) == setN' [L[p]?.getD 0, L[k]?.getD 0, L[q]?.getD 0])) := Lib.hid (by rw [ringAt, HLn.out, hp, hq, HSS.out])
      obtain ⟨v, hv⟩ : ∃ v, L[k]?.getD 0 = v := ⟨_, rfl⟩
      obtain ⟨x, hx⟩ : ∃ x, L[p]?.getD 0 = x := ⟨_, rfl⟩
      obtain ⟨y, hy⟩ : ∃ y, L[q]?.getD 0 = y := ⟨_, rfl⟩
      rw [hv] at c0 hvN HAT
      rw [hx] at c1 hpN HAT
      rw [hy] at c2 hqN HAT
      have cg := hcg v (by rw [HN.out]; exact hvN)
      replace cg := (HB.out.cell (p := ⟨bg, og + v, none⟩) (World.block_lt_of_cell? w _ cg)).trans cg
      have hgv := HGG.out v hvN
      obtain ⟨u, hu⟩ : ∃ u, gs[v]?.getD 0 = u := ⟨_, rfl⟩
      rw [hu] at cg hgv HAT
      have hvN' : (v : Int) < (N : Int) := by omega
      have HS3 := Lib.hid (fun wx => setOf_three x v y (by omega) (by omega) (by omega) wx)
      obtain ⟨T, hT⟩ : ∃ T, setN' [x, v, y] = T := ⟨_, rfl⟩
      rw [hT] at HS3 HAT
      have HAND : Hid (bits .and .u16 (u : Int) (S : Int) = ((u &&& S : Nat) : Int)) := Lib.hid (u16_and_nat _ _ hgv hS)
      have HNEXT := Lib.hid (fun h => range_next (ringAt gs L) k HA.out h)
      have HSTOP := Lib.hid (fun h => range_false (ringAt gs L) m k hlt h)
      clear hc hget hlt' hcg hv hx hy hu hT hp hq cell
      have hcase : (u &&& S = T ∧ (bits .and .u16 (u : Int) (S : Int) != (T : Int)) = false) ∨ (¬ u &&& S = T ∧ (bits .and .u16 (u : Int) (S : Int) != (T : Int)) = true) := by
        rw [HAND.out]
        by_cases e : u &&& S = T
        · exact .inl ⟨e, by simp [e]⟩
        · refine .inr ⟨e, ?_⟩
          rw [bne_iff_ne]; omega
      go_wp2
      go_quiet (fail)
      have c3 : (wr.drewN nq).cell? ⟨bg, og + v, none⟩ = some (.int .u16 (u : Int)) := cg
      have HB3 := Lib.hid (below_drewN HB.out nq)
      generalize wr.drewN nq = w3 at c3 HB3 ⊢
      clear c0 c1 c2 cg
      have hbg3 : bg < w3.heap.size := World.block_lt_of_cell? w3 _ c3
      rcases hcase with ⟨e1, e2⟩ | ⟨e1, e2⟩
      · have HD := Lib.hid (HNEXT.out (by rw [HAT.out, e1]; simp))
        clear HNEXT HSTOP HAT e1 HAND
        go_wp2
        go_region_with (go_at_call 66; refine (HS3.out _).mono ?_; rintro e w' ⟨rfl, rfl⟩)
        all_goals
          go_wp2_with fail
          go_roundw
          case rel => exact ⟨k + 1, by omega, by go_num, HD.out, ((HB3.out).alloc HB3.out.size _).drew⟩
          case measure => simp [intOf]; omega
      · have HD := Lib.hid (HSTOP.out (by rw [HAT.out]; simp [e1]))
        clear HNEXT HSTOP HAT e1 HAND
        go_wp2
        go_region_with (go_at_call 66; refine (HS3.out _).mono ?_; rintro e w' ⟨rfl, rfl⟩)
        all_goals
          go_wp2_with fail
          go_ret
          exact ⟨ret_bool (by rw [HG.out, HD.out]), ((HB3.out).alloc HB3.out.size _).drew⟩
    · obtain rfl : k = m := by omega
      go_wp2
      go_ret
      exact ⟨ret_bool (by rw [HG.out, HA.out]), HB.out⟩

end Go.Proofs.Yticafbfijpjbnaa
