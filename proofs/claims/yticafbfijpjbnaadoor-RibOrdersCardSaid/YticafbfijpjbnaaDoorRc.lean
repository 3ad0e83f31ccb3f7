/-
  The walks of 'areNodes', 'isPermutation', 'isEliminatedBy', 'eliminable'.
-/
import Derived.Test.YticafbfijpjbnaaDoorRb
namespace Go.Proofs.YticafbfijpjbnaaDoor
open Go.RowKit Go.Sort

def nodeB (n : Nat) (z : Int) : Bool := decide (0 ≤ z) && decide (z < n)
theorem all_take_next {α : Type} (p : α → Bool) (l : List α) (k : Nat) (h : k < l.length) (ha : (l.take k).all p = true) (hp : p l[k] = true) : (l.take (k + 1)).all p = true := by
  rw [List.take_succ_eq_append_getElem h, List.all_append, ha]; simp [hp]
theorem all_at_false {α : Type} (p : α → Bool) (l : List α) (k : Nat) (h : k < l.length) (hp : p l[k] = false) : l.all p = false := by
  rw [Bool.eq_false_iff]; intro hc
  rw [List.all_eq_true] at hc
  have := hc _ (List.getElem_mem h)
  rw [hp] at this; cases this

theorem nodes_nat {n : Nat} {os : List Int} (h : os.all (nodeB n) = true) : os = (os.map Int.toNat).map (fun (x : Nat) => (x : Int)) ∧ ∀ x ∈ os.map Int.toNat, x < n := by
  rw [List.all_eq_true] at h
  refine ⟨?_, fun x hx => ?_⟩
  · rw [List.map_map]
    conv => lhs; rw [← List.map_id os]
    refine List.map_congr_left fun z hz => ?_
    have := h z hz
    simp only [nodeB, Bool.and_eq_true, decide_eq_true_eq] at this
    simp only [id, Function.comp]; omega
  · obtain ⟨z, hz, rfl⟩ := List.mem_map.1 hx
    have := h z hz
    simp only [nodeB, Bool.and_eq_true, decide_eq_true_eq] at this
    omega

/-- Whether numbers are each node once. -/
def permG (n : Nat) (os : List Int) : Bool := decide (os.length = n) && (os.all (nodeB n) && (setN' (os.map Int.toNat) == 2 ^ n - 1))
theorem pow_small {n : Nat} (hn : n ≤ 12) : 2 ^ n - 1 < 65536 := by
  have := Nat.pow_le_pow_right (n := 2) (by omega) hn
  omega

/-- Whether an order eliminates what is left, node by node. -/
def elimFrom (gs : List Nat) : Nat → List Nat → Bool
  | _, [] => true
  | left, v :: O => cliqueB gs (gs[v]?.getD 0 &&& left) && elimFrom gs (left &&& (65535 - 2 ^ v)) O

end Go.Proofs.YticafbfijpjbnaaDoor
