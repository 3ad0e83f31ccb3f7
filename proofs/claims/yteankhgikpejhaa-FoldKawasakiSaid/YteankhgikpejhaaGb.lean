/-
  The walks of 'isOrder' and 'foldedBy'.
-/
import Derived.Test.YteankhgikpejhaaFo
import Derived.Test.YteankhgikpejhaaGa
namespace Go.Proofs.Yteankhgikpejhaa
open Go.RowKit Go.Sort

/-- Which numbers were met among the first k. -/
def seenTo (zs : List Int) (n : Nat) : Nat → List Bool
  | 0 => List.replicate n false
  | k + 1 => (seenTo zs n k).set (zs[k]?.getD 0).toNat true
@[simp] theorem seenTo_length (zs : List Int) (n : Nat) : ∀ k, (seenTo zs n k).length = n
  | 0 => by simp [seenTo]
  | k + 1 => by simp [seenTo, seenTo_length zs n k]
/-- Whether the number at k is one of n, and new. -/
def newAt (zs : List Int) (n k : Nat) : Bool := decide (0 ≤ zs[k]?.getD 0) && decide (zs[k]?.getD 0 < n) && !((seenTo zs n k)[(zs[k]?.getD 0).toNat]?.getD false)
def orderB (zs : List Int) (n : Nat) : Bool := decide (zs.length = n) && (List.range n).all (newAt zs n)

theorem range_all_false (p : Nat → Bool) (n k : Nat) (h : k < n) (hp : p k = false) : (List.range n).all p = false := by
  rw [Bool.eq_false_iff]; intro hc
  rw [List.all_eq_true] at hc
  have := hc k (List.mem_range.2 h)
  rw [hp] at this; cases this
theorem range_all_next (p : Nat → Bool) (k : Nat) (h : (List.range k).all p = true) (hp : p k = true) : (List.range (k + 1)).all p = true := by
  rw [List.range_succ, List.all_append, h]; simp [hp]

theorem boolInfo : (Try.prog.info? 4).map (fun i => (i.zero, i.size, i.bytes)) = some (some (.bool false), 1, 1) := by kernel_rfl

theorem made_bools (n : Nat) : madeCells #[Value.bool false] n = ((List.replicate n false).map Value.bool).toArray := by
  rw [← Array.toList_inj, toList_madeCells_one]
  simp
theorem bool_at {w : World} {g j : Nat} {L : List Bool} {t : TypeId} (h : w.heap[g]? = some (.cells (L.map Value.bool).toArray t (0, 0))) (hj : j < L.length) : w.cell? ⟨g, j, none⟩ = some (.bool (L[j]?.getD false)) := by
  simp [World.cell?, h, hj]

set_option maxRecDepth 100000 in
set_option maxHeartbeats 2000000 in
theorem isOrder_any (a : Option Addr) (m cap n : Nat) (zs : List Int) (w : World) (hm : zs.length = m) (hm2 : m ≤ 9223372036854775807) (hn1 : 1 ≤ n) (hn : n ≤ 1000) (hz : Ints w a zs) :
    Calls Try.prog 48 #[.slice a m cap, .int .i64 n] w fun e w' => e = .returned (.bool (orderB zs n)) ∧ Below w.heap.size w w' := by
  by_cases hnm : m = n
  · subst hnm
    have HX := Lib.hid hz.at
    have HM := Lib.hid hm
    obtain ⟨i0, hi, hz0, hz1, hz2⟩ := info_parts boolInfo
    have hmk : ∀ u : World, (Instr.makeSlice 95 (.int .i64 (m : Int)) (.int .i64 (m : Int))).run Try.prog u = .ok (.slice (some ⟨u.heap.size, 0, none⟩) m m) (u.alloc (.cells ((List.replicate m false).map Value.bool).toArray 4)) := fun u => by
      have h := run_make (P := Try.prog) u 95 4 i0 (.bool false) Try.underlying95 hi hz0 .i64 .i64 m m (by omega) (Int.le_refl _) (by rw [hz2]; omega) (by omega)
      rw [← made_bools]
      simpa [hz1, Value.cells] using h
    clear hz hm hi hz0 hz1 hz2
    go_enter Try.func48, Try.ntmps48
    go_wp2_with (fail)
    clear hmk
    go_loopw [16] (fun i wr => ∃ k : Nat, k ≤ m ∧ i = .int .i64 k ∧ (List.range k).all (newAt zs m) = true ∧ Hid (wr.heap[w.heap.size]? = some (.cells ((seenTo zs m k).map Value.bool).toArray 4 (0, 0))) ∧ Below w.heap.size w wr) (fun i _ => m - (intOf i).toNat)
    case atStart => exact ⟨0, Nat.zero_le _, rfl, rfl, Lib.hid ((heap_alloc_new w _).trans (by simp [seenTo])), (Below.refl _ _).alloc (Nat.le_refl _) _⟩
    case round =>
      obtain ⟨k, hk, rfl, hall, hL, hb⟩ := hrel
      have HA := Lib.hid hall
      have HB := Lib.hid hb
      clear hall hb
      by_cases hlt : k < m
      · rcases HX.out with h | ⟨b, off, rfl, hc⟩
        · have := HM.out; subst h; simp at this; omega
        have hkz : k < zs.length := by have := HM.out; omega
        have c0 := (HB.out.cell (p := ⟨b, off + k, none⟩) (World.block_lt_of_cell? w _ (hc k hkz))).trans (hc k hkz)
        clear hc
        have HN : Hid (newAt zs m k = (decide (0 ≤ zs[k]?.getD 0) && decide (zs[k]?.getD 0 < m) && !((seenTo zs m k)[(zs[k]?.getD 0).toNat]?.getD false))) := Lib.hid rfl
        have HS : Hid (seenTo zs m (k + 1) = (seenTo zs m k).set (zs[k]?.getD 0).toNat true) := Lib.hid rfl
        generalize zs[k]?.getD 0 = z at *
        by_cases h0 : z < 0
        · go_wp2
          go_ret
          refine ⟨ret_bool (Eq.symm ?_), HB.out⟩
          rw [orderB, range_all_false _ _ _ hlt (by rw [HN.out, decide_eq_false (by omega : ¬ 0 ≤ z)]; rfl), Bool.and_false]
        · by_cases h1 : (m : Int) ≤ z
          · go_wp2
            go_ret
            refine ⟨ret_bool (Eq.symm ?_), HB.out⟩
            rw [orderB, range_all_false _ _ _ hlt (by rw [HN.out, decide_eq_false (by omega : ¬ z < m), Bool.and_false]; rfl), Bool.and_false]
          · obtain ⟨q, rfl⟩ : ∃ q : Nat, z = q := ⟨z.toNat, by omega⟩
            have hq : q < m := by omega
            have cs := bool_at hL.out (j := q) (by simpa using hq)
            have fs : wr.frozen? ⟨w.heap.size, q, none⟩ = false := row_free hL.out q
            have Hset := Lib.hid (heap_setCell_self hL.out (i := q) (.bool true))
            have HN2 := Lib.hid (show newAt zs m k = !((seenTo zs m k)[q]?.getD false) by rw [HN.out, decide_eq_true (by omega : (0 : Int) ≤ q), decide_eq_true (by omega : (q : Int) < m)]; simp)
            rcases Bool.eq_false_or_eq_true ((seenTo zs m k)[q]?.getD false) with hb | hb
            · rw [hb] at cs HN2
              clear hb
              go_wp2
              go_ret
              refine ⟨ret_bool (Eq.symm ?_), HB.out⟩
              rw [orderB, range_all_false _ _ _ hlt (by rw [HN2.out]; rfl), Bool.and_false]
            · rw [hb] at cs HN2
              clear hb
              go_wp2
              go_roundw
              case rel =>
                refine ⟨k + 1, by omega, by go_num, range_all_next _ _ HA.out (by rw [HN2.out]; rfl), ?_, HB.out.setCell (by simp) _⟩
                refine Lib.hid ?_
                rw [Hset.out, HS.out, Int.toNat_natCast]
                congr 2
                rw [← Array.toList_inj]
                simp [List.map_set]
              case measure => simp [intOf]; omega
      · go_wp2
        go_ret
        have hk' : k = m := by omega
        subst hk'
        refine ⟨ret_bool (Eq.symm ?_), HB.out⟩
        rw [orderB, HM.out, HA.out]; simp
  · have HM := Lib.hid hm
    have hne : ((m : Int) != (n : Int)) = true := by rw [bne_iff_ne]; omega
    clear hz hm
    go_enter Try.func48, Try.ntmps48
    go_wp2
    go_ret
    refine ⟨ret_bool (Eq.symm ?_), Below.refl _ _⟩
    rw [orderB, decide_eq_false (by rw [HM.out]; exact hnm), Bool.false_and]

theorem orderB_len {zs : List Int} {n : Nat} (h : orderB zs n = true) : zs.length = n := by
  simp [orderB] at h; exact h.1

/-- An order as a list of numbers. -/
theorem orderB_nat {zs : List Int} {n : Nat} (h : orderB zs n = true) : ∃ O : List Nat, zs = O.map (fun (x : Nat) => (x : Int)) ∧ O.Nodup ∧ (∀ x ∈ O, x < n) ∧ O.length = n := by
  have hl := orderB_len h
  have hall : ∀ k, k < n → newAt zs n k = true := by
    simp only [orderB, Bool.and_eq_true, List.all_eq_true, List.mem_range] at h
    exact h.2
  have hin : ∀ k, k < n → 0 ≤ zs[k]?.getD 0 ∧ zs[k]?.getD 0 < n ∧ (seenTo zs n k)[(zs[k]?.getD 0).toNat]?.getD false = false := by
    intro k hk
    have := hall k hk
    simp only [newAt, Bool.and_eq_true, decide_eq_true_eq, Bool.not_eq_true'] at this
    exact ⟨this.1.1, this.1.2, this.2⟩
  have hseen : ∀ k, k ≤ n → ∀ j, j < k → (seenTo zs n k)[(zs[j]?.getD 0).toNat]?.getD false = true := by
    intro k
    induction k with
    | zero => intro _ j hj; omega
    | succ k ih =>
      intro hk j hj
      rw [seenTo, List.getElem?_set]
      by_cases e : (zs[k]?.getD 0).toNat = (zs[j]?.getD 0).toNat
      · have := hin k (by omega)
        rw [if_pos e, if_pos (by rw [seenTo_length]; omega)]; rfl
      · rw [if_neg e]
        refine ih (by omega) j ?_
        have : j ≠ k := fun h => e (by rw [h])
        omega
  refine ⟨zs.map Int.toNat, ?_, ?_, ?_, by simpa using hl⟩
  · refine List.ext_getElem (by simp) fun i h1 h2 => ?_
    have := hin i (by omega)
    simp only [List.getElem?_eq_getElem h1, Option.getD_some] at this
    simp; omega
  · rw [List.nodup_iff_pairwise_ne, List.pairwise_iff_getElem]
    intro i j hi hj hij e
    simp at hi hj
    have h1 := hseen j (by omega) i hij
    have h2 := (hin j (by omega)).2.2
    have e' : (zs[i]?.getD 0).toNat = (zs[j]?.getD 0).toNat := by
      simpa [hi, hj] using e
    rw [e', h2] at h1
    cases h1
  · intro x hx
    rw [List.mem_map] at hx
    obtain ⟨z, hz, rfl⟩ := hx
    obtain ⟨i, hi, e⟩ := List.getElem_of_mem hz
    have := hin i (by omega)
    simp only [List.getElem?_eq_getElem hi, Option.getD_some, e] at this
    omega

end Go.Proofs.Yteankhgikpejhaa
