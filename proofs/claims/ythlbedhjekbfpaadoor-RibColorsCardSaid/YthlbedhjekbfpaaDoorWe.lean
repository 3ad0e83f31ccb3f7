/-
  The table that 'TrailingZeros16' reads, pure.
-/
import Derived.Test.YthlbedhjekbfpaaDoorWb
namespace Go.Proofs.YthlbedhjekbfpaaDoor
open Go.RowKit Go.Sort

def tab32 : List Int := [0, 1, 28, 2, 29, 14, 24, 3, 30, 22, 20, 15, 25, 17, 4, 8, 31, 27, 13, 23, 21, 19, 16, 7, 26, 12, 18, 6, 11, 5, 10, 9]
def tzAt (s : Nat) : Nat := ((s &&& (65536 - s)) * 125613361 % 4294967296) / 134217728
def tzOk (s : Nat) : Bool := decide (s = 0) || decide (tab32[tzAt s]?.getD 0 = (tzN s : Int))
set_option maxRecDepth 100000 in
theorem tz_all : ∀ a : Fin 256, ((List.range 256).all fun c => tzOk (a.val * 256 + c)) = true := by decide +kernel
theorem tz_at {s : Nat} (hs : s < 65536) (h0 : s ≠ 0) : tab32[tzAt s]?.getD 0 = (tzN s : Int) := by
  have h := List.all_eq_true.1 (tz_all ⟨s / 256, by omega⟩) (s % 256) (List.mem_range.2 (Nat.mod_lt _ (by omega)))
  simp only [] at h
  rw [show s / 256 * 256 + s % 256 = s by omega, tzOk, decide_eq_false h0, Bool.false_or, decide_eq_true_iff] at h
  exact h
theorem tzAt_lt (s : Nat) : tzAt s < 32 := by
  unfold tzAt
  have : (s &&& (65536 - s)) * 125613361 % 4294967296 < 4294967296 := Nat.mod_lt _ (by omega)
  omega

end Go.Proofs.YthlbedhjekbfpaaDoor
