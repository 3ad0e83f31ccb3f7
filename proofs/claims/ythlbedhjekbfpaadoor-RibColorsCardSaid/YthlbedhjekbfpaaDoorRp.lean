/-
  The walk of 'isRing'.
-/
import Derived.Test.YthlbedhjekbfpaaDoorRo
namespace Go.Proofs.YthlbedhjekbfpaaDoor
open Go.RowKit Go.Sort

theorem setOf_three (x y z : Nat) (hx : x < 16) (hy : y < 16) (hz : z < 16) (wx : World) : Calls Tryd.prog 57 #[.slice (some ⟨wx.heap.size, 0, none⟩) 3 3] (wx.alloc (.cells #[.int .i64 (x : Int), .int .i64 (y : Int), .int .i64 (z : Int)] 3)).drew
    fun e w' => e = .returned (.int .u16 (setN' [x, y, z] : Nat)) ∧ (wx.alloc (.cells #[.int .i64 (x : Int), .int .i64 (y : Int), .int .i64 (z : Int)] 3)).drew = w' :=
  setOf_any (some ⟨wx.heap.size, 0, none⟩) 3 3 [x, y, z] (wx.alloc (.cells #[.int .i64 (x : Int), .int .i64 (y : Int), .int .i64 (z : Int)] 3)).drew rfl (by omega) (by simp; omega) (fun i hi => ⟨wx.heap.size, 0, rfl, by
    show (wx.alloc (.cells #[.int .i64 (x : Int), .int .i64 (y : Int), .int .i64 (z : Int)] 3)).cell? _ = _
    have hi' : i < 3 := by simpa using hi
    match i, hi' with
    | 0, _ => exact World.cell?_alloc_at _ _ _ _ rfl
    | 1, _ => exact World.cell?_alloc_at _ _ _ _ rfl
    | 2, _ => exact World.cell?_alloc_at _ _ _ _ rfl⟩)

end Go.Proofs.YthlbedhjekbfpaaDoor
