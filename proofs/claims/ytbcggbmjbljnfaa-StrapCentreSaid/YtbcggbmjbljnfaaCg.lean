/-
  strap: matrices of polynomials: how wide polynomials are; the product, entry by entry.
-/
import Derived.Test.YtbcggbmjbljnfaaCf
namespace Go.Proofs.Ytbcggbmjbljnfaa
open Go.RowKit Go.Sort

/-- The powers lie from A to B. -/
def Wi (A B : Int) (p : Pol) : Prop := A ≤ p.1 ∧ p.1 + p.2.length ≤ B
theorem Wi.zero {A B : Int} (ha : A ≤ 0) (hb : 0 ≤ B) : Wi A B (0, []) := ⟨ha, by simpa using hb⟩
theorem entL_wi : ∀ (low : Int) (cs : List Int), low ≤ (entL low cs).1 ∧ (entL low cs).1 + (entL low cs).2.length = low + cs.length
  | low, [] => by simp [entL]
  | low, c :: cs => by
    unfold entL
    split
    · have := entL_wi (low + 1) cs; simp only [List.length_cons]; omega
    · simp
theorem trimR_len : ∀ (k : Nat) (cs : List Int), (trimR k cs).length ≤ cs.length
  | 0, cs => Nat.le_refl _
  | k + 1, cs => by
    unfold trimR
    split
    · have := trimR_len k (cs.take k); simp at this; omega
    · exact Nat.le_refl _
theorem entN_wi {A B low : Int} {cs : List Int} (ha : A ≤ 0) (hb : 0 ≤ B) (h1 : A ≤ low) (h2 : low + cs.length ≤ B) : Wi A B (entN low cs) := by
  unfold entN
  have h3 := entL_wi low cs
  have h4 := trimR_len (entL low cs).2.length (entL low cs).2
  split
  · exact Wi.zero ha hb
  · exact ⟨by simp only []; omega, by simp only []; omega⟩
theorem plusN_wi {A B : Int} {e f : Pol} (ha : A ≤ 0) (hb : 0 ≤ B) (he : Wi A B e) (hf : Wi A B f) : Wi A B (plusN e f) := by
  obtain ⟨e1, e2⟩ := he
  obtain ⟨f1, f2⟩ := hf
  refine entN_wi ha hb (by omega) ?_
  rw [addTo_len, addTo_len, List.length_replicate]
  omega
theorem timesN_wi {A B A' B' : Int} {e f : Pol} (ha : A ≤ 0) (hb : 0 ≤ B) (ha' : A' ≤ 0) (hb' : 0 ≤ B') (he : Wi A B e) (hf : Wi A' B' f) : Wi (A + A') (B + B') (timesN e f) := by
  obtain ⟨e1, e2⟩ := he
  obtain ⟨f1, f2⟩ := hf
  unfold timesN
  split
  · exact Wi.zero (by omega) (by omega)
  · refine entN_wi (by omega) (by omega) (by omega) ?_
    rw [mulTo_len, List.length_replicate]
    omega
/-- The first terms of an entry of the product. -/
def mulAcc (M O : Nat → Nat → Pol) (i j k : Nat) : Pol := (List.range k).foldl (fun acc x => plusN acc (timesN (M i x) (O x j))) (0, [])
theorem mulAcc_succ (M O : Nat → Nat → Pol) (i j k : Nat) : mulAcc M O i j (k + 1) = plusN (mulAcc M O i j k) (timesN (M i k) (O k j)) := by simp [mulAcc, List.range_succ, List.foldl_append]
theorem mulAcc_wi {A B A' B' : Int} {M O : Nat → Nat → Pol} (ha : A ≤ 0) (hb : 0 ≤ B) (ha' : A' ≤ 0) (hb' : 0 ≤ B') {n : Nat} (hM : ∀ i, i < n → ∀ j, j < n → Wi A B (M i j)) (hO : ∀ i, i < n → ∀ j, j < n → Wi A' B' (O i j)) {i j : Nat} (hi : i < n) (hj : j < n) : ∀ {k}, k ≤ n → Wi (A + A') (B + B') (mulAcc M O i j k)
  | 0, _ => Wi.zero (by omega) (by omega)
  | k + 1, hk => by
    rw [mulAcc_succ]
    exact plusN_wi (by omega) (by omega) (mulAcc_wi ha hb ha' hb' hM hO hi hj (by omega)) (timesN_wi ha hb ha' hb' (hM i hi k hk) (hO k hk j hj))
/-- The product. -/
def mulM (n : Nat) (M O : Nat → Nat → Pol) : Nat → Nat → Pol := fun i j => mulAcc M O i j n
/-- The product, as far as the loops have come. -/
def mulP (n : Nat) (M O : Nat → Nat → Pol) (i j k : Nat) : Nat → Nat → Pol := fun a b => if a < i ∨ (a = i ∧ b < j) then mulAcc M O a b n else if a = i ∧ b = j then mulAcc M O a b k else (0, [])
theorem mulP_next (n : Nat) (M O : Nat → Nat → Pol) (i j k : Nat) : updM (mulP n M O i j k) i j (mulAcc M O i j (k + 1)) = mulP n M O i j (k + 1) := by
  funext a b
  simp only [updM, mulP]
  by_cases h : a = i ∧ b = j
  · obtain ⟨rfl, rfl⟩ := h
    rw [if_pos ⟨rfl, rfl⟩, if_neg (by omega), if_pos ⟨rfl, rfl⟩]
  · rw [if_neg h]
    by_cases h2 : a < i ∨ (a = i ∧ b < j)
    · rw [if_pos h2, if_pos h2]
    · rw [if_neg h2, if_neg h2, if_neg h, if_neg h]
theorem mulP_col (n : Nat) (M O : Nat → Nat → Pol) (i j : Nat) : mulP n M O i j n = mulP n M O i (j + 1) 0 := by
  funext a b
  simp only [mulP]
  by_cases h : a < i ∨ (a = i ∧ b < j)
  · rw [if_pos h, if_pos (by omega)]
  · rw [if_neg h]
    by_cases h2 : a = i ∧ b = j
    · obtain ⟨rfl, rfl⟩ := h2
      rw [if_pos ⟨rfl, rfl⟩, if_pos (by omega)]
    · rw [if_neg h2, if_neg (by omega)]
      split
      · rfl
      · rfl
theorem mulP_row (n : Nat) (M O : Nat → Nat → Pol) (i : Nat) (a b : Nat) (hb : b < n) : mulP n M O i n 0 a b = mulP n M O (i + 1) 0 0 a b := by
  simp only [mulP]
  by_cases h : a < i ∨ (a = i ∧ b < n)
  · rw [if_pos h, if_pos (by omega)]
  · rw [if_neg h, if_neg (by omega), if_neg (by omega)]
    split
    · rfl
    · rfl

end Go.Proofs.Ytbcggbmjbljnfaa
