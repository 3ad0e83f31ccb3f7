/-
  'count' only draws.
-/
import Derived.Test.YteckeobhlfddlaaRb
namespace Go.Proofs.Yteckeobhlfddlaa.Rib
open Go.RowKit Go.Sort

set_option maxRecDepth 100000 in
set_option maxHeartbeats 2000000 in
theorem OnesCount16_q (s : Nat) (w : World) (hs : s < 65536) :
    Calls Try.prog 54 #[.int .u16 s] w fun e w' => e = .returned (.int .i64 (cntN s)) ∧ ∃ m, w' = w.drewN m := by
  have e255 : bits .and .u16 (s : Int) 255 = (s : Int) % 256 := by
    rw [show (255 : Int) = ((255 : Nat) : Int) from rfl, u16_and_nat _ _ hs (by decide)]
    rw [show (255 : Nat) = 2 ^ 8 - 1 from rfl, Nat.and_two_pow_sub_one_eq_mod]
    omega
  have b1 : 0 ≤ (s : Int) / 256 ∧ (s : Int) / 256 < 256 := by omega
  have b2 : 0 ≤ (s : Int) % 256 ∧ (s : Int) % 256 < 256 := by omega
  have HT := Lib.hid (sum_tab s hs (show s / 256 < 256 by omega) (show s % 256 < 256 by omega))
  go_enter Try.func54, Try.ntmps54
  go_wp2
  go_quiet (fail)
  go_wp2
  go_ret
  exact ⟨congrArg (fun z => Ending.returned (Value.int .i64 z)) HT.out, _, rfl⟩
theorem count_q (s : Nat) (w : World) (hs : s < 65536) :
    Calls Try.prog 45 #[.int .u16 s] w fun e w' => e = .returned (.int .i64 (cntN s)) ∧ ∃ m, w' = w.drewN m := by
  have H1 := Lib.hid (OnesCount16_q s w hs)
  go_enter Try.func45, Try.ntmps45
  go_wp2_with (go_at_call 54; refine H1.out.mono ?_; rintro e w' ⟨rfl, hb⟩)
  go_ret
  exact ⟨rfl, hb⟩

end Go.Proofs.Yteckeobhlfddlaa.Rib
