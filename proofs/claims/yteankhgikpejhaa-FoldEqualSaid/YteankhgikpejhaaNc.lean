/-
  The walk of slices.Insert of one crease at the front: no room.
-/
import Derived.Test.YteankhgikpejhaaNb
namespace Go.Proofs.Yteankhgikpejhaa
open Go.RowKit Go.Sort

theorem zeroCr (k : Nat) : ∃ zs : List Value, Builtin.zeroCells (Value.agg #[.int .i64 0, .int .i64 0, .int .i64 0]).cells k = zs.toArray ∧ zs.length = k * 3 := by
  refine ⟨(Builtin.zeroCells (Value.agg #[.int .i64 0, .int .i64 0, .int .i64 0]).cells k).toList, by simp, ?_⟩
  rw [Array.length_toList, size_zeroCells]; rfl

/-- There is none. -/
theorem insert_grow_laws (g bv m : Nat) (l : List Cr) (f : Cr) (w : World) (hl : l.length = m) (h1 : 1 ≤ m) (hm : m ≤ 9)
    (hsrc : ∀ j v, (crCells l)[j]? = some v → w.cell? ⟨g, j, none⟩ = some v) (hb : w.heap[bv]? = some (.cells (crCells [f]).toArray 101 (0, 0))) :
    ∃ (G : Nat) (W0 W1 W2 : World), m + 1 ≤ G ∧ G ≤ maxLen ∧ (∀ ty, (Builtin.append_ #[71, 3] ty #[.slice (some ⟨g, 0, none⟩) 0 m, .int .i64 ((m : Int) + 1)]).run Try.prog w = .ok (.slice (some ⟨w.heap.size, 0, none⟩) (m + 1) G) W0) ∧
      (∀ ty d s, (Builtin.copy_ #[71, 71] ty #[.slice (some ⟨w.heap.size, 0, none⟩) (m + 1) d, .slice (some ⟨bv, 0, none⟩) 1 s]).run Try.prog W0 = .ok (goInt 1) W1) ∧
      (∀ ty d s, (Builtin.copy_ #[71, 71] ty #[.slice (some ⟨w.heap.size, 3, none⟩) m d, .slice (some ⟨g, 0, none⟩) m s]).run Try.prog W1.drew = .ok (goInt m) W2) ∧
      (∃ rest', rest'.length + (m + 1) * 3 = G * 3 ∧ W2.heap[w.heap.size]? = some (.cells (crCells (f :: l) ++ rest').toArray 101 (0, 0))) ∧ Below w.heap.size w W2 := by
  have hlen : (crCells l).length = m * 3 := by rw [crCells_length, hl]
  obtain ⟨i0, hi0, hz0, hz1, hz2⟩ := info_parts Try.infoCr
  have happ := fun ty => Lib.run_append_grow_zeros (P := Try.prog) w 71 3 ty 101 i0 _ .i64 .i64 Try.underlying71 Try.underlying3 hi0 hz0 (some ⟨g, 0, none⟩) 0 m []
    (by rw [hz1]; exact run_firstCells_some w.drew 3 0 ⟨g, 0, none⟩ 0 m [] rfl (fun j v hj => by simp at hj)) (m + 1) (by omega) (by omega) (by omega) (by omega) (by rw [hz2]; omega) (by rw [hz2]; exact growslice_fits (by omega) (by omega))
  rw [Nat.zero_add] at happ
  obtain ⟨G, hG⟩ : ∃ G, grownCap w (m + 1) m 101 = G := ⟨_, rfl⟩
  have hG1 : m + 1 ≤ G := by rw [← hG]; exact grownCap_ge w (m + 1) m _
  have hG2 : G ≤ maxLen := by rw [← hG]; exact grownCap_le_maxLen w (m + 1) m _ (by unfold maxLen; omega)
  rw [hG] at happ
  obtain ⟨z1, hz1', hl1⟩ := zeroCr (m + 1)
  obtain ⟨z2, hz2', hl2⟩ := zeroCr (G - (m + 1))
  rw [hz1', hz2'] at happ
  obtain ⟨W0, hW0⟩ : ∃ W0, w.drew.alloc (.cells (([] : List Value).toArray ++ z1.toArray ++ z2.toArray) 101) = W0 := ⟨_, rfl⟩
  rw [hW0] at happ
  have g0 : W0.heap[w.heap.size]? = some (.cells (z1 ++ z2).toArray 101 (0, 0)) := by
    rw [← hW0]
    have := heap_alloc_new w.drew (.cells (([] : List Value).toArray ++ z1.toArray ++ z2.toArray) 101)
    simpa using this
  have b0 : Below w.heap.size w W0 := by rw [← hW0]; exact ((Below.refl _ w).drew).alloc (Nat.le_refl _) _
  have hb0 : W0.heap[bv]? = some (.cells (crCells [f]).toArray 101 (0, 0)) := (b0.block bv (lt_of_block hb)).trans hb
  have hcp1 := fun ty d s => run_copy_rows (P := Try.prog) W0 71 71 ty 101 w.heap.size 0 (m + 1) d 3 ⟨bv, 0, none⟩ 1 s _ 101 (crCells [f]) Try.underlying71 crSize g0
    (by rw [crCells_length, show Nat.min 1 (m + 1) = 1 by simp only [Nat.min_def]; split <;> omega]; rfl) (fun j v hj => by
      have : (⟨bv, 0, none⟩ : Addr).add j = ⟨bv, j, none⟩ := by unfold Addr.add; split <;> simp_all
      rw [this]
      exact row_cell hb0 j v hj) (by simp [crCells_length]; omega) (crIs [f])
  have e1 : Nat.min 1 (m + 1) = 1 := by simp only [Nat.min_def]; split <;> omega
  obtain ⟨x0, x1, x2, r1, hr1⟩ : ∃ x0 x1 x2 r1, z1 ++ z2 = x0 :: x1 :: x2 :: r1 := by
    have : 3 ≤ (z1 ++ z2).length := by rw [List.length_append]; omega
    match z1 ++ z2, this with
    | a :: b :: c :: r, _ => exact ⟨a, b, c, r, rfl⟩
    | [a, b], h => simp at h
    | [a], h => simp at h
    | [], h => simp at h
  have hr1l : r1.length + 3 = G * 3 := by
    have := congrArg List.length hr1
    rw [List.length_append] at this
    simp at this
    omega
  obtain ⟨W1, hW1⟩ : ∃ W1, W0.setRow w.heap.size ((z1 ++ z2).toArray.toList.take 0 ++ crCells [f] ++ (z1 ++ z2).toArray.toList.drop (0 + (crCells [f]).length)).toArray = W1 := ⟨_, rfl⟩
  rw [hW1, e1] at hcp1
  have g1 : W1.heap[w.heap.size]? = some (.cells (crCells [f] ++ r1).toArray 101 (0, 0)) := by
    rw [← hW1, setRow_heap W0 w.heap.size _ _ _ _ g0, hr1]
    simp [crCells]
  have b1 : Below w.heap.size w W1 := by rw [← hW1]; exact below_setRow b0 (Nat.le_refl _) _
  have b1d : Below w.heap.size w W1.drew := Below.drew b1
  have hcp2 := fun ty d s => run_copy_rows (P := Try.prog) W1.drew 71 71 ty 101 w.heap.size 3 m d 3 ⟨g, 0, none⟩ m s _ 101 (crCells l) Try.underlying71 crSize (show W1.drew.heap[w.heap.size]? = _ from g1)
    (by rw [hlen, show Nat.min m m = m from Nat.min_self m]) (fun j v hj => by
      have : (⟨g, 0, none⟩ : Addr).add j = ⟨g, j, none⟩ := by unfold Addr.add; split <;> simp_all
      rw [this]
      have hc := hsrc j v hj
      exact (b1d.cell (p := ⟨g, j, none⟩) (World.block_lt_of_cell? w _ hc)).trans hc) (by simp [hlen, crCells_length]; omega) (crIs l)
  have e2 : Nat.min m m = m := Nat.min_self m
  obtain ⟨W2, hW2⟩ : ∃ W2, W1.drew.setRow w.heap.size ((crCells [f] ++ r1).toArray.toList.take 3 ++ crCells l ++ (crCells [f] ++ r1).toArray.toList.drop (3 + (crCells l).length)).toArray = W2 := ⟨_, rfl⟩
  rw [hW2, e2] at hcp2
  have g2 : W2.heap[w.heap.size]? = some (.cells (crCells (f :: l) ++ r1.drop (m * 3)).toArray 101 (0, 0)) := by
    rw [← hW2, setRow_heap W1.drew w.heap.size _ _ _ _ (show W1.drew.heap[w.heap.size]? = _ from g1), hlen, Nat.add_comm 3]
    simp [crCells]
  have b2 : Below w.heap.size w W2 := by rw [← hW2]; exact below_setRow b1d (Nat.le_refl _) _
  exact ⟨G, W0, W1, W2, hG1, hG2, happ, hcp1, hcp2, ⟨r1.drop (m * 3), by rw [List.length_drop]; omega, g2⟩, b2⟩

set_option maxRecDepth 100000 in
set_option maxHeartbeats 1000000 in
theorem insert_grow (g bv m : Nat) (l : List Cr) (f : Cr) (w : World) (hl : l.length = m) (h1 : 1 ≤ m) (hm : m ≤ 9)
    (hsrc : ∀ j v, (crCells l)[j]? = some v → w.cell? ⟨g, j, none⟩ = some v) (hb : w.heap[bv]? = some (.cells (crCells [f]).toArray 101 (0, 0))) :
    Calls Try.prog 78 #[.slice (some ⟨g, 0, none⟩) m m, .int .i64 0, .slice (some ⟨bv, 0, none⟩) 1 1] w
      fun e w' => ∃ G, e = .returned (.slice (some ⟨w.heap.size, 0, none⟩) (m + 1) G) ∧ (m + 1 ≤ G ∧ G ≤ maxLen) ∧ (∃ rest', rest'.length + (m + 1) * 3 = G * 3 ∧ w'.heap[w.heap.size]? = some (.cells (crCells (f :: l) ++ rest').toArray 101 (0, 0))) ∧ Below w.heap.size w w' := by
  obtain ⟨G, W0, W1, W2, hG1, hG2, r0, r1, r2, q1, q2⟩ := insert_grow_laws g bv m l f w hl h1 hm hsrc hb
  have HQ := Lib.hid (And.intro q1 (And.intro q2 (And.intro hG1 hG2)))
  have Happ := Lib.hid r0
  have Hcp1 := Lib.hid r1
  have Hcp2 := Lib.hid r2
  unfold maxLen at hG2
  have hz2 : ¬ ((0 : Int) = (m : Int)) := by omega
  have hw1 : IntKind.i64.wrap 1 = 1 := rfl
  have hb5 : (1 : Int) ≤ (m : Int) + 1 := by omega
  have hm0 : ¬ (m = 0) := by omega
  have hG0 : ¬ (G = 1) := by omega
  have hG3 : ¬ (G = 0) := by omega
  clear r0 r1 r2 q1 q2 hsrc hb hl
  go_enter Try.func78, Try.ntmps78
  go_wp2_with (first
    | (at_builtin; refine Lib.wpList_append_run _ rfl (.tmp 34) (.tmp 39) 71 3 rfl (.slice (some ⟨g, 0, none⟩) 0 m) (.int .i64 ((m : Int) + 1)) rfl rfl _ _ (Happ.out _) ?_)
    | (refine wpList_copy_run rfl (.tmp 43) (.tmp 44) 71 71 rfl (.slice (some ⟨w.heap.size, 0, none⟩) (m + 1) G) (.slice (some ⟨bv, 0, none⟩) 1 1) (goInt 1) (w' := W1) rfl rfl (Hcp1.out _ _ _) ?_))
  go_region_law (refine step_copy_run rfl (.tmp 50) (.tmp 53) 71 71 rfl (.slice (some ⟨w.heap.size, 3, none⟩) m (G - 1)) (.slice (some ⟨g, 0, none⟩) m m) (goInt m) (w' := W2) (by simp [Act.eval, Act.put]) (by simp [Act.eval, Act.put]) (Hcp2.out _ _ _) ?_)
  go_wp2
  go_ret
  exact ⟨G, rfl, HQ.out.2.2, HQ.out.1, HQ.out.2.1⟩

end Go.Proofs.Yteankhgikpejhaa
