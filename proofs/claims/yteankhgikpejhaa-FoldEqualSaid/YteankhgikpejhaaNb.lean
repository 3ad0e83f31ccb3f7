/-
  The walk of slices.Insert of one crease at the front.
-/
import Derived.Test.YteankhgikpejhaaNa
import Derived.Laws.Externs
namespace Go.Proofs.Yteankhgikpejhaa
open Go.RowKit Go.Sort

theorem crIs (l : List Cr) : ∀ v ∈ crCells l, v.oneCell' = true := by
  intro v hv
  simp only [crCells, List.mem_flatMap] at hv
  obtain ⟨f, _, hf⟩ := hv
  rcases List.mem_cons.1 hf with rfl | hf
  · rfl
  · rcases List.mem_cons.1 hf with rfl | hf
    · rfl
    · rcases List.mem_cons.1 hf with rfl | hf
      · rfl
      · cases hf
theorem crSize : (Try.prog.info? 101).map (·.size) = some 3 := by
  obtain ⟨i0, hi0, h0, h1, h2⟩ := info_parts Try.infoCr
  rw [hi0]; simp [h1]
theorem crSizeOf (w : World) : (Go.sizeOf 101).run Try.prog w = .ok 3 w := by
  obtain ⟨i0, hi0, h0, h1, h2⟩ := info_parts Try.infoCr
  simp [Go.sizeOf, typeInfo, hi0, h1]
theorem row_cell {w : World} {g : Nat} {cur : List Value} {t : TypeId} (hg : w.heap[g]? = some (.cells cur.toArray t (0, 0))) (i : Nat) (v : Value) (h : cur[i]? = some v) : w.cell? ⟨g, i, none⟩ = some v := by
  rw [cell_of_row' hg]; simpa using h

/-- There is room. -/
theorem insert_room_laws (g bv m cc : Nat) (l : List Cr) (f : Cr) (rest : List Value) (w : World) (hl : l.length = m) (h1 : 1 ≤ m) (hm : m ≤ 9) (hcc : m + 1 ≤ cc) (hrest : m * 3 + rest.length = cc * 3) (hne : bv ≠ g)
    (hg : w.heap[g]? = some (.cells (crCells l ++ rest).toArray 101 (0, 0))) (hb : w.heap[bv]? = some (.cells (crCells [f]).toArray 101 (0, 0))) :
    (∀ lb cb, (callFunc 88 #[.slice (some ⟨bv, 0, none⟩) 1 1, .slice (some ⟨g, 3, none⟩) lb cb]).run Try.prog w = .ok (.value (.bool false)) w) ∧
    ∃ W1 W2 : World, (∀ ty d s, (Builtin.copy_ #[71, 71] ty #[.slice (some ⟨g, 3, none⟩) m d, .slice (some ⟨g, 0, none⟩) (m + 1) s]).run Try.prog w.drew = .ok (goInt m) W1) ∧
      (∀ ty d s, (Builtin.copy_ #[71, 71] ty #[.slice (some ⟨g, 0, none⟩) (m + 1) d, .slice (some ⟨bv, 0, none⟩) 1 s]).run Try.prog W1 = .ok (goInt 1) W2) ∧
      (∃ rest', rest'.length + 3 = rest.length ∧ W2.heap[g]? = some (.cells (crCells (f :: l) ++ rest').toArray 101 (0, 0))) ∧ w.grownBy W2 (some g) := by
  have hlen : (crCells l).length = m * 3 := by rw [crCells_length, hl]
  have hov : ∀ lb cb, (callFunc 88 #[.slice (some ⟨bv, 0, none⟩) 1 1, .slice (some ⟨g, 3, none⟩) lb cb]).run Try.prog w = .ok (.value (.bool false)) w := fun lb cb => by
    rw [run_callFunc_extern Try.func88 (by kernel_rfl) (by kernel_rfl) (by kernel_rfl) (e := Extern.SlicesOverlaps.overlaps #[71, 71] #[4]) (by kernel_rfl),
      Lib.run_overlaps_apart w 71 4 101 Try.underlying71 3 crSizeOf ⟨bv, 0, none⟩ ⟨g, 3, none⟩ 1 1 lb cb hne 101 101 3 (cc * 3) (by simp [World.shape?, hb, crCells]) (by simp [World.shape?, hg, hlen]; omega) (by omega) (by simp [World.frozen?, hb]) (by simp [World.frozen?, hb])]
    rfl
  have hg1 : w.drew.heap[g]? = some (.cells (crCells l ++ rest).toArray 101 (0, 0)) := hg
  have hcp1 := fun ty d s => run_copy_rows (P := Try.prog) w.drew 71 71 ty 101 g 3 m d 3 ⟨g, 0, none⟩ (m + 1) s _ 101 (crCells l) Try.underlying71 crSize hg1
    (by rw [hlen]; congr 1; simp only [Nat.min_def]; split <;> omega) (fun j v hj => by
      have hj' : j < (crCells l).length := (List.getElem?_eq_some_iff.1 hj).1
      have : (⟨g, 0, none⟩ : Addr).add j = ⟨g, j, none⟩ := by unfold Addr.add; split <;> simp_all
      rw [this]
      exact row_cell hg1 j v (by rw [List.getElem?_append_left hj', hj])) (by simp [hlen]; omega) (crIs l)
  have e0 : Nat.min (m + 1) m = m := by simp only [Nat.min_def]; split <;> omega
  obtain ⟨a0, a1, a2, rest1, hr1⟩ : ∃ a0 a1 a2 rest1, rest = a0 :: a1 :: a2 :: rest1 := by
    match rest, hrest with
    | a0 :: a1 :: a2 :: r, _ => exact ⟨a0, a1, a2, r, rfl⟩
    | [a0, a1], h => simp at h; omega
    | [a0], h => simp at h; omega
    | [], h => simp at h; omega
  obtain ⟨W1, hW1⟩ : ∃ W1, w.drew.setRow g ((crCells l ++ rest).toArray.toList.take 3 ++ crCells l ++ (crCells l ++ rest).toArray.toList.drop (3 + (crCells l).length)).toArray = W1 := ⟨_, rfl⟩
  have e1 : (crCells l ++ rest).toArray.toList.drop (3 + (crCells l).length) = rest1 := by
    rw [List.toList_toArray, Nat.add_comm, List.drop_append, List.drop_of_length_le (by omega), show (crCells l).length + 3 - (crCells l).length = 3 by omega, hr1]; rfl
  obtain ⟨b0, b1, b2, hb3⟩ : ∃ b0 b1 b2, (crCells l ++ rest).toArray.toList.take 3 = [b0, b1, b2] := by
    have : ((crCells l ++ rest).toArray.toList.take 3).length = 3 := by rw [List.toList_toArray, List.length_take, List.length_append, hlen]; omega
    match (crCells l ++ rest).toArray.toList.take 3, this with
    | [b0, b1, b2], _ => exact ⟨b0, b1, b2, rfl⟩
  rw [hW1, e0] at hcp1
  rw [e1, hb3] at hW1
  have g1 : W1.heap[g]? = some (.cells ([b0, b1, b2] ++ crCells l ++ rest1).toArray 101 (0, 0)) := by rw [← hW1]; exact setRow_heap w.drew g _ _ _ _ hg1
  have gr1 : w.grownBy W1 (some g) := by rw [← hW1]; exact ⟨rfl, rfl, rfl, by simp [World.setRow], fun k _ hk => setRow_other w.drew g k _ (fun e => hk (by rw [e]))⟩
  have hb1 : W1.heap[bv]? = some (.cells (crCells [f]).toArray 101 (0, 0)) := (gr1.block bv (lt_of_block hb) (fun e => hne (by simpa using e))).trans hb
  have hcp2 := fun ty d s => run_copy_rows (P := Try.prog) W1 71 71 ty 101 g 0 (m + 1) d 3 ⟨bv, 0, none⟩ 1 s _ 101 (crCells [f]) Try.underlying71 crSize g1
    (by rw [crCells_length, show Nat.min 1 (m + 1) = 1 by simp only [Nat.min_def]; split <;> omega]; rfl) (fun j v hj => by
      have : (⟨bv, 0, none⟩ : Addr).add j = ⟨bv, j, none⟩ := by unfold Addr.add; split <;> simp_all
      rw [this]
      exact row_cell hb1 j v hj) (by simp [crCells_length]) (crIs [f])
  have e2 : Nat.min 1 (m + 1) = 1 := by simp only [Nat.min_def]; split <;> omega
  obtain ⟨W2, hW2⟩ : ∃ W2, W1.setRow g (([b0, b1, b2] ++ crCells l ++ rest1).toArray.toList.take 0 ++ crCells [f] ++ ([b0, b1, b2] ++ crCells l ++ rest1).toArray.toList.drop (0 + (crCells [f]).length)).toArray = W2 := ⟨_, rfl⟩
  rw [hW2, e2] at hcp2
  have g2 : W2.heap[g]? = some (.cells (crCells (f :: l) ++ rest1).toArray 101 (0, 0)) := by
    rw [← hW2, setRow_heap W1 g _ _ _ _ g1]
    simp [crCells]
  have gr2 : W1.grownBy W2 (some g) := by rw [← hW2]; exact ⟨rfl, rfl, rfl, by simp [World.setRow], fun k _ hk => setRow_other W1 g k _ (fun e => hk (by rw [e]))⟩
  exact ⟨hov, W1, W2, hcp1, hcp2, ⟨rest1, by rw [hr1]; rfl, g2⟩, World.grownBy.trans gr1 gr2⟩

set_option maxRecDepth 100000 in
set_option maxHeartbeats 1000000 in
theorem insert_room (g bv m cc : Nat) (l : List Cr) (f : Cr) (rest : List Value) (w : World) (hl : l.length = m) (h1 : 1 ≤ m) (hm : m ≤ 9) (hcc : m + 1 ≤ cc) (hcm : cc ≤ maxLen) (hrest : m * 3 + rest.length = cc * 3) (hne : bv ≠ g)
    (hg : w.heap[g]? = some (.cells (crCells l ++ rest).toArray 101 (0, 0))) (hb : w.heap[bv]? = some (.cells (crCells [f]).toArray 101 (0, 0))) :
    Calls Try.prog 78 #[.slice (some ⟨g, 0, none⟩) m cc, .int .i64 0, .slice (some ⟨bv, 0, none⟩) 1 1] w
      fun e w' => e = .returned (.slice (some ⟨g, 0, none⟩) (m + 1) cc) ∧ (∃ rest', rest'.length + 3 = rest.length ∧ w'.heap[g]? = some (.cells (crCells (f :: l) ++ rest').toArray 101 (0, 0))) ∧ w.grownBy w' (some g) := by
  obtain ⟨hov, W1, W2, r1, r2, q1, q2⟩ := insert_room_laws g bv m cc l f rest w hl h1 hm hcc hrest hne hg hb
  have HQ := Lib.hid (And.intro q1 q2)
  have Hov := Lib.hid hov
  have Hcp1 := Lib.hid r1
  have Hcp2 := Lib.hid r2
  unfold maxLen at hcm
  have hz2 : ¬ ((0 : Int) = (m : Int)) := by omega
  have hc1 : ¬ (cc = 1) := by omega
  have hc0 : ¬ (cc = 0) := by omega
  have hb3 : (m : Int) + 1 ≤ (cc : Int) := by omega
  have hb4 : ¬ ((cc : Int) < (m : Int) + 1) := by omega
  have hw1 : IntKind.i64.wrap 1 = 1 := rfl
  have hb5 : (1 : Int) ≤ (m : Int) + 1 := by omega
  have hb6 : (0 : Int) ≤ (m : Int) + 1 := by omega
  clear hov r1 r2 q1 q2 hg hb hrest hl
  go_enter Try.func78, Try.ntmps78
  go_wp2_with (simp only [Hov.out])
  go_region_law (refine step_copy_run rfl (.tmp 73) (.tmp 76) 71 71 rfl (.slice (some ⟨g, 3, none⟩) m (cc - 1)) (.slice (some ⟨g, 0, none⟩) (m + 1) cc) (goInt m) (w' := W1) (by simp [Act.eval, Act.put]) (by simp [Act.eval, Act.put]) (Hcp1.out _ _ _) ?_)
  go_wp2_with (refine wpList_copy_run rfl (.tmp 80) (.tmp 81) 71 71 rfl (.slice (some ⟨g, 0, none⟩) (m + 1) cc) (.slice (some ⟨bv, 0, none⟩) 1 1) (goInt 1) (w' := W2) rfl rfl (Hcp2.out _ _ _) ?_)
  go_ret
  exact ⟨rfl, HQ.out.1, HQ.out.2⟩

end Go.Proofs.Yteankhgikpejhaa
