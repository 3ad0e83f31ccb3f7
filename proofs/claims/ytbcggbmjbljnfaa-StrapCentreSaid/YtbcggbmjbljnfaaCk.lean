/-
  strap: math/bits.OnesCount of 0 and 1; 'determinant' of one row, 'alexander' of two strands.
-/
import Derived.Test.YtbcggbmjbljnfaaCj
namespace Go.Proofs.Ytbcggbmjbljnfaa
open Go.RowKit Go.Sort

set_option maxRecDepth 100000 in
theorem ones64 (x : Int) (hx : x = 0 ∨ x = 1) (w : World) : Calls Try.prog 125 #[.int .u64 x] w fun e w' => e = .returned (.int .i64 x) ∧ w = w' := by
  rcases hx with rfl | rfl
  all_goals
    go_enter Try.func125, Try.ntmps125
    go_wp2
    go_ret
    refine ⟨?_, rfl⟩
    first
      | rfl
      | (simp; done)
      | (go_simp; kernel_rfl)
      | (go_simp; decide)
set_option maxRecDepth 100000 in
theorem ones_any (x : Int) (hx : x = 0 ∨ x = 1) (w : World) : Calls Try.prog 118 #[.int .u64 x] w fun e w' => e = .returned (.int .i64 x) ∧ w = w' := by
  have H := Lib.hid (fun wx => ones64 x hx wx)
  rcases hx with rfl | rfl
  all_goals
    go_enter Try.func118, Try.ntmps118
    go_wp2_with (go_at_call 125; refine (H.out _).mono ?_; rintro e w' ⟨rfl, rfl⟩)
    go_ret
    exact ⟨rfl, rfl⟩

end Go.Proofs.Ytbcggbmjbljnfaa
