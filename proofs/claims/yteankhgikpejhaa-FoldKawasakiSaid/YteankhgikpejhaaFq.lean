/-
  How many orders fold a strip of n segments of one length: a count that the kernel carries out quickly, and that it is the number of all orders.
-/
import Derived.Test.YteankhgikpejhaaFa
namespace Go.Proofs.Yteankhgikpejhaa

def xorB (a b : Bool) : Bool := match a with | true => not b | false => b
theorem xorB_ne (a b : Bool) : (xorB a b = true) ↔ a ≠ b := by cases a <;> cases b <;> simp [xorB]
def pairX (m : Nat) : List Nat → Bool
  | a :: b :: t => or (xorB (Nat.blt m a) (Nat.blt m b)) (pairX m t)
  | _ => false
def nth : List Nat → Nat → Nat
  | [], _ => 0
  | a :: _, 0 => a
  | _ :: t, k + 1 => nth t k
def setN : List Nat → Nat → Nat → List Nat
  | [], _, _ => []
  | _ :: t, 0, x => x :: t
  | a :: t, k + 1, x => a :: setN t k x
def okN (M T : List Nat) (p : Nat) (c : Bool) : Bool := or (Nat.beq p 0) (not (pairX p (cond c M T)))
def prevN (M : List Nat) : Nat → Nat
  | 0 => 0
  | r + 1 => nth M r
def fitN (M : List Nat) (s : Nat) : Bool := and (Nat.beq (nth M s) 0) (and (okN M M.tail (prevN M s) (Nat.beq (Nat.mod s 2) 1)) (okN M M.tail (nth M (Nat.succ s)) (Nat.beq (Nat.mod s 2) 0)))
noncomputable def countN : Nat → Nat → List Nat → Nat → Nat
  | _, 0, _, _ => 1
  | n, k + 1, M, d => Nat.rec (motive := fun _ => Nat) 0 (fun s acc => cond (fitN M s) (Nat.add (countN n k (setN M s d) (Nat.succ d)) acc) acc) n

theorem pairX_iff (m : Nat) : ∀ M : List Nat, pairX m M = true ↔ ∃ i, i % 2 = 0 ∧ i + 1 < M.length ∧ Nat.blt m (nth M i) ≠ Nat.blt m (nth M (i + 1))
  | [] => by simp [pairX]
  | [a] => by simp [pairX]
  | a :: b :: t => by
    rw [pairX, Bool.or_eq_true, xorB_ne, pairX_iff m t]
    constructor
    · rintro (h | ⟨i, h1, h2, h3⟩)
      · exact ⟨0, rfl, by simp, h⟩
      · exact ⟨i + 2, by omega, by simp only [List.length_cons]; omega, h3⟩
    · rintro ⟨i, h1, h2, h3⟩
      match i, h1, h2, h3 with
      | 0, _, _, h3 => exact .inl h3
      | i + 2, h1, h2, h3 => exact .inr ⟨i, by omega, by simp only [List.length_cons] at h2; omega, h3⟩

theorem nth_tail (M : List Nat) (i : Nat) : nth M.tail i = nth M (i + 1) := by cases M <;> simp [nth]
theorem pairX_side (m : Nat) (M : List Nat) (a : Nat) : pairX m (cond (Nat.beq (a % 2) 1) M M.tail) = true ↔ ∃ i, (i + 1) % 2 = a % 2 ∧ i + 1 < M.length ∧ Nat.blt m (nth M i) ≠ Nat.blt m (nth M (i + 1)) := by
  rcases Nat.mod_two_eq_zero_or_one a with h | h
  · rw [h, show Nat.beq 0 1 = false from rfl, cond_false, pairX_iff]
    constructor
    · rintro ⟨i, h1, h2, h3⟩
      rw [nth_tail, nth_tail] at h3
      exact ⟨i + 1, by omega, by simp at h2; omega, h3⟩
    · rintro ⟨i, h1, h2, h3⟩
      obtain ⟨j, rfl⟩ : ∃ j, i = j + 1 := ⟨i - 1, by omega⟩
      exact ⟨j, by omega, by simp; omega, by rw [nth_tail, nth_tail]; exact h3⟩
  · rw [h, show Nat.beq 1 1 = true from rfl, cond_true, pairX_iff]
    constructor
    · rintro ⟨i, h1, h2, h3⟩; exact ⟨i, by omega, h2, h3⟩
    · rintro ⟨i, h1, h2, h3⟩; exact ⟨i, by omega, h2, h3⟩

theorem okN_iff (M T : List Nat) (p : Nat) (c : Bool) : okN M T p c = true ↔ p = 0 ∨ pairX p (cond c M T) = false := by
  rw [okN, Bool.or_eq_true, Nat.beq_eq, Bool.not_eq_true']

/-- The layers as numbers from 1 on, 0 for none. -/
def Rep (L : List Int) (M : List Nat) : Prop := L = M.map fun (x : Nat) => (x : Int) - 1
theorem nth_get : ∀ (M : List Nat) (i : Nat) (h : i < M.length), nth M i = M[i]
  | a :: t, 0, h => rfl
  | a :: t, i + 1, h => by simpa [nth] using nth_get t i (by simpa using h)
theorem nth_out : ∀ (M : List Nat) (i : Nat), M.length ≤ i → nth M i = 0
  | [], _, _ => rfl
  | a :: t, i + 1, h => by simpa [nth] using nth_out t i (by simpa using h)
theorem setN_set : ∀ (M : List Nat) (i x : Nat), setN M i x = M.set i x
  | [], _, _ => rfl
  | a :: t, 0, x => rfl
  | a :: t, i + 1, x => by simp [setN, setN_set t i x]
theorem Rep.at {L : List Int} {M : List Nat} (h : Rep L M) {i : Nat} (hi : i < M.length) : L[i]?.getD 0 = (nth M i : Int) - 1 := by
  rw [h, nth_get M i hi]; simp [hi]

theorem posAt_one (n : Nat) (s : Int) : ∀ k, k ≤ n → posAt (List.replicate n s) k = if k % 2 = 1 then s else 0
  | 0, _ => rfl
  | k + 1, h => by
    rw [posAt, posAt_one n s k (by omega)]
    have e : (List.replicate n s)[k]?.getD 0 = s := by simp [show k < n by omega]
    rw [e]
    rcases Nat.mod_two_eq_zero_or_one k with h | h
    · simp [h, show (k + 1) % 2 = 1 by omega]
    · simp [h, show (k + 1) % 2 = 0 by omega]

theorem low_one (n : Nat) (s : Int) (hs : 1 ≤ s) (j : Nat) (hj : j < n) : (layCl (List.replicate n s)).low[j]?.getD 0 = 0 := by
  simp [layCl, lowsTo, hj, posAt_one n s j (by omega), posAt_one n s (j + 1) (by omega)]
  rcases Nat.mod_two_eq_zero_or_one j with h | h
  · simp [h, show (j + 1) % 2 = 1 by omega]; omega
  · simp [h, show (j + 1) % 2 = 0 by omega]; omega
theorem high_one (n : Nat) (s : Int) (hs : 1 ≤ s) (j : Nat) (hj : j < n) : (layCl (List.replicate n s)).high[j]?.getD 0 = s := by
  simp [layCl, highsTo, hj, posAt_one n s j (by omega), posAt_one n s (j + 1) (by omega)]
  rcases Nat.mod_two_eq_zero_or_one j with h | h
  · simp [h, show (j + 1) % 2 = 1 by omega]; omega
  · simp [h, show (j + 1) % 2 = 0 by omega]; omega

/-- The crease behind segment a. -/
def crAt (s : Int) (a : Nat) : Cr := ⟨a, a + 1, if (a + 1) % 2 = 1 then s else 0⟩
theorem crs_one (n : Nat) (s : Int) : (layCl (List.replicate n s)).crs = (List.range (n - 1)).map (crAt s) := by
  simp only [layCl, crsTo, List.length_replicate]
  refine List.map_congr_left fun i hi => ?_
  rw [posAt_one n s (i + 1) (by have := List.mem_range.1 hi; omega)]; rfl

theorem crossed_one {n : Nat} {s : Int} {L : List Int} {M : List Nat} (h : Rep L M) (hn : M.length = n) (a : Nat) (ha : a + 1 < n) (m : Nat) (hm : max (nth M a) (nth M (a + 1)) = m) :
    crossedB ((List.range (n - 1)).map (crAt s)) L (crAt s a) = pairX m (cond (Nat.beq ((a + 1) % 2) 1) M M.tail) := by
  have e : max (L[a]?.getD 0) (L[a + 1]?.getD 0) = (m : Int) - 1 := by rw [h.at (by omega), h.at (by omega)]; omega
  rw [Bool.eq_iff_iff, pairX_side, crossedB, List.any_map, List.any_eq_true]
  simp only [crAt, e, Function.comp, crossB, Cr.beside, Bool.and_eq_true, decide_eq_true_eq, bne_iff_ne, List.mem_range]
  have key : ∀ i, i + 1 < n → ((decide ((m : Int) - 1 < L[i]?.getD 0) ≠ decide ((m : Int) - 1 < L[i + 1]?.getD 0)) ↔ Nat.blt m (nth M i) ≠ Nat.blt m (nth M (i + 1))) := by
    intro i hi
    have b : ∀ x : Nat, decide ((m : Int) - 1 < (x : Int) - 1) = Nat.blt m x := by
      intro x; rw [Bool.eq_iff_iff, decide_eq_true_eq, Nat.blt_eq]; omega
    rw [h.at (by omega), h.at (by omega), b, b]
  constructor
  · rintro ⟨i, hi, ⟨_, hp⟩, hx⟩
    exact ⟨i, of_decide_eq_true hp, by omega, (key i (by omega)).1 hx⟩
  · rintro ⟨i, hp, hi, hx⟩
    exact ⟨i, by omega, ⟨by simp [hp], by simp [hp]⟩, (key i (by omega)).2 hx⟩

theorem fits_one {n : Nat} {s : Int} (hs : 1 ≤ s) {L : List Int} {M : List Nat} (h : Rep L M) (hn : M.length = n) (j : Nat) (hj : j < n) :
    (L[j]?.getD 0 == -1 && fitsB (layCl (List.replicate n s)) L j) = fitN M j := by
  have e0 : (L[j]?.getD 0 == -1) = Nat.beq (nth M j) 0 := by
    rw [h.at (by omega), Bool.eq_iff_iff, Nat.beq_eq, beq_iff_eq]; omega
  rw [fitN, e0]
  cases hz : Nat.beq (nth M j) 0 with
  | false => rfl
  | true =>
    rw [Nat.beq_eq] at hz
    rw [Bool.true_and, Bool.true_and, fitsB, crs_one]
    have hf : ∀ a, a + 1 < n → (fitB ((List.range (n - 1)).map (crAt s)) (layCl (List.replicate n s)).low (layCl (List.replicate n s)).high L j (crAt s a) = true ↔
        ((nth M a = 0 ↔ nth M (a + 1) = 0) ∨ ¬ (j = a ∨ j = a + 1) ∨ pairX (max (nth M a) (nth M (a + 1))) (cond (Nat.beq ((a + 1) % 2) 1) M M.tail) = false)) := by
      intro a ha
      have hp : (decide ((0 : Int) < (crAt s a).pos) && decide ((crAt s a).pos < s)) = false := by
        simp only [crAt]; split <;> simp
      have b : ∀ x : Nat, ((x : Int) - 1 == -1) = decide (x = 0) := by intro x; rw [Bool.eq_iff_iff, beq_iff_eq, decide_eq_true_eq]; omega
      rw [fitB, low_one n s hs j hj, high_one n s hs j hj, hp, crossed_one h hn a ha _ rfl]
      simp only [crAt, h.at (show a < M.length by omega), h.at (show a + 1 < M.length by omega), b]
      by_cases h1 : nth M a = 0 <;> by_cases h2 : nth M (a + 1) = 0 <;> simp [h1, h2]
      all_goals by_cases h3 : j = a <;> by_cases h4 : j = a + 1 <;> simp [h3, h4]
    have par : Nat.beq ((j + 1) % 2) 1 = Nat.beq (j % 2) 0 := by
      rw [Bool.eq_iff_iff, Nat.beq_eq, Nat.beq_eq]; omega
    rw [Bool.eq_iff_iff, List.all_map, List.all_eq_true, Bool.and_eq_true, okN_iff, okN_iff]
    simp only [List.mem_range, Function.comp]
    show _ ↔ (_ ∨ pairX _ (cond (Nat.beq (j % 2) 1) _ _) = false) ∧ (nth M (j + 1) = 0 ∨ pairX (nth M (j + 1)) (cond (Nat.beq (j % 2) 0) _ _) = false)
    rw [← par]
    constructor
    · intro H
      constructor
      · match j, hj, hz, H with
        | 0, _, _, _ => exact .inl rfl
        | r + 1, hj, hz, H =>
          show nth M r = 0 ∨ pairX (nth M r) _ = false
          by_cases hr : nth M r = 0
          · exact .inl hr
          · refine .inr ?_
            rcases (hf r hj).1 (H r (by omega)) with h1 | h1 | h1
            · exact absurd (h1.2 hz) hr
            · exact absurd (.inr rfl) h1
            · rw [hz, Nat.max_eq_left (Nat.zero_le _)] at h1; exact h1
      · by_cases hr : nth M (j + 1) = 0
        · exact .inl hr
        · refine .inr ?_
          have hj1 : j + 1 < n := by
            refine Nat.lt_of_not_le fun hc => hr (nth_out M _ (by omega))
          rcases (hf j hj1).1 (H j (by omega)) with h1 | h1 | h1
          · exact absurd (h1.1 hz) hr
          · exact absurd (.inl rfl) h1
          · rw [hz, Nat.max_eq_right (Nat.zero_le _)] at h1; exact h1
    · rintro ⟨h1, h2⟩ a ha
      refine (hf a (by omega)).2 ?_
      by_cases hja : j = a
      · subst hja
        rcases h2 with h2 | h2
        · exact .inl ⟨fun _ => h2, fun _ => hz⟩
        · refine .inr (.inr ?_)
          rw [hz, Nat.max_eq_right (Nat.zero_le _)]; exact h2
      · by_cases hjb : j = a + 1
        · subst hjb
          rcases h1 with h1 | h1
          · exact .inl ⟨fun _ => hz, fun _ => h1⟩
          · refine .inr (.inr ?_)
            rw [hz, Nat.max_eq_left (Nat.zero_le _)]; exact h1
        · exact .inr (.inl (by omega))

theorem rec_length {α : Type} (t : Nat → Bool) (v : Nat → Nat) (T : Nat → Bool) (V : Nat → List α) : ∀ n, (∀ s, s < n → T s = t s) → (∀ s, s < n → t s = true → (V s).length = v s) →
    ((List.range n).flatMap fun s => if T s = true then V s else []).length = Nat.rec (motive := fun _ => Nat) 0 (fun s acc => cond (t s) (Nat.add (v s) acc) acc) n
  | 0, _, _ => rfl
  | n + 1, h1, h2 => by
    rw [List.range_succ, List.flatMap_append, List.length_append, rec_length t v T V n (fun s hs => h1 s (by omega)) (fun s hs => h2 s (by omega))]
    have := h1 n (by omega)
    cases ht : t n with
    | false => simp [ht, this]
    | true => simp [ht, this, h2 n (by omega) ht]; omega

theorem place_count (n : Nat) (s : Int) (hs : 1 ≤ s) : ∀ (k : Nat) (L : List Int) (M : List Nat) (O : List Nat), Rep L M → M.length = n → (placeAll (layCl (List.replicate n s)) n k L O).length = countN n k M (O.length + 1)
  | 0, L, M, O, _, _ => rfl
  | k + 1, L, M, O, h, hn => by
    rw [placeAll, countN]
    refine rec_length (fitN M) _ _ _ n (fun j hj => fits_one hs h hn j hj) (fun j hj _ => ?_)
    have := place_count n s hs k (L.set j O.length) (setN M j (O.length + 1)) (O ++ [j]) (by rw [Rep, setN_set, h, List.map_set]; simp) (by rw [setN_set]; simpa using hn)
    rw [this]; simp

theorem count_one (n : Nat) (s : Int) (hs : 1 ≤ s) : (placeAll (layCl (List.replicate n s)) n n (List.replicate n (-1)) []).length = countN n n (List.replicate n 0) 1 :=
  place_count n s hs n _ _ [] (by simp [Rep]) (by simp)

end Go.Proofs.Yteankhgikpejhaa
