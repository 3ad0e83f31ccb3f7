/-
  The walk of slices.Replace where the last three elements of a window are replaced by one.
-/
import Derived.Test.YtfgenpailmgkiaaFt
import Derived.ArgAppend
namespace Go.Proofs.Ytfgenpailmgkiaa
open Go.RowKit Go.Sort

set_option maxRecDepth 100000 in
set_option maxHeartbeats 1000000 in
theorem replace_tail (g o bv i cap : Nat) (A rest : List Value) (x1 x2 x3 : Value) (z : Int) (w : World) (hA : A.length = o + i) (hcap : i + 3 + rest.length = cap) (hi : i ≤ 1000) (hg : w.heap[g]? = some (.cells (A ++ ([x1, x2, x3] ++ rest)).toArray 3 (0, 0)))
    (hv : w.cell? ⟨bv, 0, none⟩ = some (.int .i64 z)) :
    Calls Try.prog 77 #[.slice (some ⟨g, o, none⟩) (i + 3) cap, .int .i64 i, .int .i64 ((i : Int) + 3), .slice (some ⟨bv, 0, none⟩) 1 1] w
      fun e w' => e = .returned (.slice (some ⟨g, o, none⟩) (i + 1) cap) ∧ w'.heap[g]? = some (.cells (A ++ ([Value.int .i64 z, Value.int .i64 0, Value.int .i64 0] ++ rest)).toArray 3 (0, 0)) ∧ w.grownBy w' (some g) := by
  obtain ⟨i0, hi0, hz0, hz1, hz2⟩ := info_parts Try.info3
  have happ := fun ty => run_append_room_cells (P := Try.prog) w 22 ty 3 i0 Try.underlying22 hi0 g o i cap ⟨bv, 0, none⟩ 1 1 [Value.int .i64 z] (by simp [hz1]) (fun j u hj => by
    match j, hj with
    | 0, hj => simp at hj; subst hj; simpa [Addr.add] using hv) (by simp [Value.oneCell']) (by omega) (by
      intro j hj
      simp at hj
      subst hj
      rw [hz1, Nat.mul_one, Nat.add_zero, cell_of_row' hg]
      simp [hA]) (fun j hj => row_free hg _)
  rw [hz1, Nat.mul_one] at happ
  obtain ⟨W1, hW1⟩ : ∃ W1, w.setCells g (o + i) [Value.int .i64 z] = W1 := ⟨_, rfl⟩
  rw [hW1] at happ
  have g1 : W1.heap[g]? = some (.cells (A ++ ([Value.int .i64 z, x2, x3] ++ rest)).toArray 3 (0, 0)) := by
    rw [← hW1]
    show (w.setCell ⟨g, o + i, none⟩ (.int .i64 z)).heap[g]? = _
    refine setCell_list hg ?_
    rw [← hA, List.set_append_right _ _ (by omega)]; simp
  have gr1 : w.grownBy W1 (some g) := by rw [← hW1]; exact grownBy_setCell1 w g (o + i) _
  have hclr := fun ty => Lib.run_clear_slice (P := Try.prog) W1 22 3 ty (.int .i64 0) Try.underlying22 Try.zeroValue3 rfl rfl g (o + (i + 1)) 2 (cap - (i + 1)) (by omega)
    (fun j hj => by rw [cell_of_row' g1]; simp [hA]; omega) (fun j hj => row_free g1 _)
  have g2 : (W1.setCells g (o + (i + 1)) (List.replicate 2 (.int .i64 0))).heap[g]? = some (.cells (A ++ ([Value.int .i64 z, Value.int .i64 0, Value.int .i64 0] ++ rest)).toArray 3 (0, 0)) := by
    show ((W1.setCell ⟨g, o + (i + 1), none⟩ (.int .i64 0)).setCell ⟨g, o + (i + 1) + 1, none⟩ (.int .i64 0)).heap[g]? = _
    refine setCell_list (setCell_list g1 (ys := A ++ ([Value.int .i64 z, Value.int .i64 0, x3] ++ rest)) ?_) ?_
    · rw [show o + (i + 1) = A.length + 1 by omega, List.set_append_right _ _ (by omega)]; simp
    · rw [show o + (i + 1) + 1 = A.length + 2 by omega, List.set_append_right _ _ (by omega)]; simp
  have gr2 : W1.grownBy (W1.setCells g (o + (i + 1)) (List.replicate 2 (.int .i64 0))) (some g) := World.grownBy.trans (grownBy_setCell1 W1 g (o + (i + 1)) _) (grownBy_setCell1 _ g (o + (i + 1) + 1) _)
  have HF := Lib.hid (And.intro g2 (World.grownBy.trans gr1 gr2))
  have Hi := Lib.hid hA
  have Happ := Lib.hid happ
  have Hclr := Lib.hid hclr
  clear g1 gr1 g2 gr2 hW1 hg hv hi0 hz0 hz1 hz2 hA happ hclr
  go_enter Try.func77, Try.ntmps77
  go_wp2_with (first
    | (refine wpList_append_run rfl (.tmp 32) (.tmp 33) 22 rfl _ _ _ rfl rfl Happ.out ?_)
    | (refine wpList_clear_run rfl (.tmp 43) 22 rfl (.slice (some ⟨g, o + (i + 1), none⟩) 2 (cap - (i + 1))) _ rfl Hclr.out ?_))
  · go_ret
    exact ⟨rfl, HF.out.1, HF.out.2⟩

end Go.Proofs.Ytfgenpailmgkiaa
