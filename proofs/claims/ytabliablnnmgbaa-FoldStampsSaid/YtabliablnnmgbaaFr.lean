/-
  The counts of one to nine segments of one length, carried out by the kernel.
-/
import Derived.Test.YtabliablnnmgbaaFq
namespace Go.Proofs.Ytabliablnnmgbaa

def stampZ : Nat → Int
  | 1 => 1 | 2 => 2 | 3 => 6 | 4 => 16 | 5 => 50 | 6 => 144 | 7 => 462 | 8 => 1392 | _ => 4536
theorem count1 : countN 1 1 (List.replicate 1 0) 1 = 1 := by decide +kernel
theorem count2 : countN 2 2 (List.replicate 2 0) 1 = 2 := by decide +kernel
theorem count3 : countN 3 3 (List.replicate 3 0) 1 = 6 := by decide +kernel
theorem count4 : countN 4 4 (List.replicate 4 0) 1 = 16 := by decide +kernel
theorem count5 : countN 5 5 (List.replicate 5 0) 1 = 50 := by decide +kernel
theorem count6 : countN 6 6 (List.replicate 6 0) 1 = 144 := by decide +kernel
theorem count7 : countN 7 7 (List.replicate 7 0) 1 = 462 := by decide +kernel
theorem count8 : countN 8 8 (List.replicate 8 0) 1 = 1392 := by decide +kernel
theorem count9 : countN 9 9 (List.replicate 9 0) 1 = 4536 := by decide +kernel

/-- How many orders fold n segments of length s. -/
theorem count_stamps (n : Nat) (s : Int) (hs : 1 ≤ s) (h1 : 1 ≤ n) (h9 : n ≤ 9) : ((placeAll (layCl (List.replicate n s)) n n (List.replicate n (-1)) []).length : Int) = stampZ n := by
  rw [count_one n s hs]
  match n, h1, h9 with
  | 1, _, _ => rw [count1]; rfl
  | 2, _, _ => rw [count2]; rfl
  | 3, _, _ => rw [count3]; rfl
  | 4, _, _ => rw [count4]; rfl
  | 5, _, _ => rw [count5]; rfl
  | 6, _, _ => rw [count6]; rfl
  | 7, _, _ => rw [count7]; rfl
  | 8, _, _ => rw [count8]; rfl
  | 9, _, _ => rw [count9]; rfl

end Go.Proofs.Ytabliablnnmgbaa
