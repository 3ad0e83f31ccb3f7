/-
  The walk of 'fold1'.
-/
import Derived.Test.YteankhgikpejhaaFv
namespace Go.Proofs.Yteankhgikpejhaa
open Go.RowKit Go.Sort

/-- The remainder of a number by n, from 1 on. -/
def f1Z (v n : Int) : Int := v.tmod n % n + 1
theorem f1Z_bd (v n : Int) (hn : 1 ≤ n) : 1 ≤ f1Z v n ∧ f1Z v n ≤ n := by
  unfold f1Z
  have h1 := Int.emod_nonneg (v.tmod n) (show n ≠ 0 by omega)
  have h2 := Int.emod_lt_of_pos (v.tmod n) (show 0 < n by omega)
  omega

theorem f1Z_wrap (v n : Int) (hn : 1 ≤ n) (hn2 : n ≤ 1000) : wrap64 (v.tmod n % n + 1) = f1Z v n := by
  have := f1Z_bd v n hn
  unfold f1Z at this ⊢
  generalize v.tmod n % n = x at this ⊢
  exact IntWalk.wrap64_in _ (by omega)

theorem tmod_bd (v n : Int) (hn : 1 ≤ n) : -n < v.tmod n ∧ v.tmod n < n := by
  have h1 := Int.tmod_lt_of_pos v (show 0 < n by omega)
  have h2 := Int.lt_tmod_of_pos v (show 0 < n by omega)
  omega

set_option maxHeartbeats 400000 in
theorem fold1_any (v n : Int) (w : World) (hn : 1 ≤ n) (hn2 : n ≤ 1000) (_hv : -9223372036854775808 ≤ v) (_hv2 : v ≤ 9223372036854775807) :
    Calls Try.prog 42 #[.int .i64 v, .int .i64 n] w fun e w' => e = .returned (.int .i64 (f1Z v n)) ∧ w = w' := by
  obtain ⟨b1, b2⟩ := tmod_bd v n hn
  go_enter Try.func42, Try.ntmps42
  go_wp2
  go_ret
  exact ⟨congrArg (fun z => Ending.returned (Value.int .i64 z)) (f1Z_wrap v n hn hn2), rfl⟩

end Go.Proofs.Yteankhgikpejhaa
