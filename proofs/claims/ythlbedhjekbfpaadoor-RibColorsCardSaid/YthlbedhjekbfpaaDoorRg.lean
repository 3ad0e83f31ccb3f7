/-
  'graphOf': what it makes of edges, and its answer to a wrong number of nodes.
-/
import Derived.Test.YthlbedhjekbfpaaDoorRb
namespace Go.Proofs.YthlbedhjekbfpaaDoor
open Go.RowKit Go.Sort

/-- The graph without edges: every node is in its own set. -/
def startG (n : Nat) : List Nat := (List.range n).map (2 ^ ·)
/-- An edge more. -/
def addEdge (gs : List Nat) (A B : Nat) : List Nat :=
  let g1 := gs.set A ((gs[A]?.getD 0) ||| 2 ^ B)
  g1.set B ((g1[B]?.getD 0) ||| 2 ^ A)
/-- Whether an edge may not be added. -/
def badEdge (n : Nat) (gs : List Nat) (A B : Int) : Bool := decide (A < 0) || (decide (B ≤ A) || (decide ((n : Int) ≤ B) || (gs[A.toNat]?.getD 0).testBit B.toNat))
/-- The graph of some edges more, if they are valid. -/
def graphFrom (n : Nat) : List Nat → List (Int × Int) → Option (List Nat)
  | gs, [] => some gs
  | gs, (A, B) :: es => if badEdge n gs A B = true then none else graphFrom n (addEdge gs A.toNat B.toNat) es
def graphN (n : Int) (es : List (Int × Int)) : Option (List Nat) :=
  if 1 ≤ n ∧ n ≤ 12 then graphFrom n.toNat (startG n.toNat) es else none

theorem startG_len (n : Nat) : (startG n).length = n := by simp [startG]
theorem addEdge_len (gs : List Nat) (A B : Nat) : (addEdge gs A B).length = gs.length := by simp [addEdge]
theorem startG_lt {n : Nat} (hn : n ≤ 12) (i : Nat) (hi : i < n) : (startG n)[i]?.getD 0 < 65536 := by
  have : (startG n)[i]?.getD 0 = 2 ^ i := by simp [startG, hi]
  rw [this]
  exact Nat.pow_lt_pow_right (n := 16) (by omega) (by omega)
theorem set_lt {gs : List Nat} (h : ∀ i, i < gs.length → gs[i]?.getD 0 < 65536) (A x : Nat) (hx : x < 65536) : ∀ i, i < (gs.set A x).length → (gs.set A x)[i]?.getD 0 < 65536 := by
  intro i hi
  rw [List.length_set] at hi
  rw [List.getElem?_set]
  by_cases e : A = i
  · subst e; simp [hi, hx]
  · simp only [e, if_false]; exact h i hi
theorem get_lt {gs : List Nat} (h : ∀ i, i < gs.length → gs[i]?.getD 0 < 65536) (A : Nat) : gs[A]?.getD 0 < 65536 := by
  by_cases e : A < gs.length
  · exact h A e
  · rw [List.getElem?_eq_none (by omega)]; simp
theorem addEdge_lt {gs : List Nat} (h : ∀ i, i < gs.length → gs[i]?.getD 0 < 65536) (A B : Nat) (hA : A < 16) (hB : B < 16) : ∀ i, i < (addEdge gs A B).length → (addEdge gs A B)[i]?.getD 0 < 65536 := by
  have pA : 2 ^ A < 2 ^ 16 := Nat.pow_lt_pow_right (by omega) hA
  have pB : 2 ^ B < 2 ^ 16 := Nat.pow_lt_pow_right (by omega) hB
  have h1 := set_lt h A ((gs[A]?.getD 0) ||| 2 ^ B) (Nat.or_lt_two_pow (n := 16) (get_lt h A) pB)
  exact set_lt h1 B _ (Nat.or_lt_two_pow (n := 16) (get_lt h1 B) pA)

theorem graphOf_bad (v : Value) (z : Int) (w : World) (hz : z < 1 ∨ 12 < z) :
    Calls Tryd.prog 33 #[.int .i64 z, v] w fun e w' => e = .returned (.tuple #[.slice none 0 0, .bool false]) ∧ w = w' := by
  by_cases h : z < 1
  · clear hz
    go_enter Tryd.func33, Tryd.ntmps33
    go_wp2
    go_ret2
    exact ⟨rfl, rfl⟩
  · have h2 : 12 < z := by omega
    clear hz
    go_enter Tryd.func33, Tryd.ntmps33
    go_wp2
    go_ret2
    exact ⟨rfl, rfl⟩

end Go.Proofs.YthlbedhjekbfpaaDoor
