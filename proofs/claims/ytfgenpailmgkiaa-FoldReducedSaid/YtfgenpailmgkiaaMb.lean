/-
  A strip that no step reduces does not fold (lists and numbers alone): the shortest segments spiral into one another.
-/
import Derived.Test.YtfgenpailmgkiaaMa
namespace Go.Proofs.Ytfgenpailmgkiaa

/-- A run of creases with one letter, whose inner segments have one length and whose outer ones are longer, does not fold. -/
theorem no_spiral {n : Nat} {p A : Nat → Int} (hi : Inj n A) (hn : NC n p A) (a m : Nat) (hm : 2 ≤ m) (ham : a + m < n) (σ : Prop)
    (hs : ∀ k, a ≤ k → k < a + m → ((k % 2 = 0 ↔ A k < A (k + 1)) ↔ σ)) (hpl : ∀ k, a + 1 ≤ k → k + 2 ≤ a + m → p (k + 2) = p k)
    (h0 : Btw (p (a + 2)) (p a) (p (a + 1))) (h1 : Btw (p (a + m - 1)) (p (a + m)) (p (a + m + 1))) : False := by
  have key : ∀ j, j + 2 ≤ m → Btw (A (a + j + 2)) (A (a + j)) (A (a + j + 1)) := by
    intro j
    induction j with
    | zero =>
      intro hj
      have q := hn.seg (a + 1) a (by omega) (by omega) h0
      have s0 := hs a (by omega) (by omega)
      have s1 := hs (a + 1) (by omega) (by omega)
      have n0 := hi.ne (show a < n by omega) (show a + 1 < n by omega) (by omega)
      have n1 := hi.ne (show a + 1 < n by omega) (show a + 2 < n by omega) (by omega)
      have n2 := hi.ne (show a < n by omega) (show a + 2 < n by omega) (by omega)
      have s1' : ((a + 1) % 2 = 0 ↔ A (a + 1) < A (a + 2)) ↔ σ := s1
      have q' : ¬ Btw (A a) (A (a + 1)) (A (a + 2)) := q
      show Btw (A (a + 2)) (A a) (A (a + 1))
      unfold Btw at *
      by_cases hσ : σ
      · simp only [hσ, iff_true] at s0 s1'
        omega
      · simp only [hσ, iff_false] at s0 s1'
        omega
    | succ j ih =>
      intro hj
      have q := ih (by omega)
      have e := hpl (a + j + 1) (by omega) (by omega)
      have c := hn.cr (a + j + 2) (a + j) (by omega) (by omega) e (by omega)
      have s0 := hs (a + j + 1) (by omega) (by omega)
      have s1 := hs (a + j + 2) (by omega) (by omega)
      have n0 := hi.ne (show a + j + 2 < n by omega) (show a + j + 3 < n by omega) (by omega)
      have n1 := hi.ne (show a + j + 1 < n by omega) (show a + j + 2 < n by omega) (by omega)
      have s0' : ((a + j + 1) % 2 = 0 ↔ A (a + j + 1) < A (a + j + 2)) ↔ σ := s0
      have s1' : ((a + j + 2) % 2 = 0 ↔ A (a + j + 2) < A (a + j + 3)) ↔ σ := s1
      have c' : Btw (A (a + j + 2)) (A (a + j)) (A (a + j + 1)) ↔ Btw (A (a + j + 3)) (A (a + j)) (A (a + j + 1)) := c
      show Btw (A (a + j + 3)) (A (a + j + 1)) (A (a + j + 2))
      have d := c'.1 q
      clear c c' hs hpl hn ih hi s0 s1
      unfold Btw at *
      by_cases hσ : σ
      · simp only [hσ, iff_true] at s0' s1'
        omega
      · simp only [hσ, iff_false] at s0' s1'
        omega
  obtain ⟨j, rfl⟩ : ∃ j, m = j + 2 := ⟨m - 2, by omega⟩
  have q := key j (by omega)
  exact hn.seg (a + j) (a + (j + 2)) (by omega) (by omega) h1 q

theorem last_of (f : Nat → Prop) [DecidablePred f] : ∀ t, f 0 → ¬ f t → ∃ a, a < t ∧ f a ∧ ∀ i, a < i → i ≤ t → ¬ f i
  | 0, h0, ht => absurd h0 ht
  | t + 1, h0, ht => by
    by_cases h : f t
    · exact ⟨t, by omega, h, fun i h1 h2 => by rw [show i = t + 1 by omega]; exact ht⟩
    · obtain ⟨a, h1, h2, h3⟩ := last_of f t h0 h
      refine ⟨a, by omega, h2, fun i h4 h5 => ?_⟩
      by_cases e : i = t + 1
      · rw [e]; exact ht
      · exact h3 i h4 (by omega)
theorem first_of (f : Nat → Prop) [DecidablePred f] (t : Nat) : ∀ d, f (t + d) → ¬ f t → ∃ b, t < b ∧ b ≤ t + d ∧ f b ∧ ∀ i, t ≤ i → i < b → ¬ f i
  | 0, h0, ht => absurd h0 ht
  | d + 1, h0, ht => by
    by_cases h : f (t + d)
    · obtain ⟨b, h1, h2, h3⟩ := first_of f t d h ht
      exact ⟨b, h1, by omega, h3⟩
    · by_cases h' : ∃ b, t < b ∧ b ≤ t + d ∧ f b ∧ ∀ i, t ≤ i → i < b → ¬ f i
      · obtain ⟨b, h1, h2, h3⟩ := h'
        exact ⟨b, h1, by omega, h3⟩
      · by_cases hall : ∀ i, t ≤ i → i ≤ t + d → ¬ f i
        · exact ⟨t + d + 1, by omega, by omega, h0, fun i h1 h2 => hall i h1 (by omega)⟩
        · exfalso
          have : ∃ i, t ≤ i ∧ i ≤ t + d ∧ f i := by
            exact Classical.byContradiction fun hc => hall fun i h1 h2 h3 => hc ⟨i, h1, h2, h3⟩
          obtain ⟨i, h1, h2, h3⟩ := this
          have hne : i ≠ t := fun e => ht (e ▸ h3)
          obtain ⟨e, rfl⟩ : ∃ e, i = t + e := ⟨i - t, by omega⟩
          obtain ⟨b, q1, q2, q3⟩ := first_of f t e h3 ht
          exact h' ⟨b, q1, by omega, q3⟩
termination_by d => d
decreasing_by all_goals omega

theorem least_of (l : Nat → Int) : ∀ n, 0 < n → ∃ t, t < n ∧ ∀ i, i < n → l t ≤ l i
  | 1, _ => ⟨0, by omega, fun i h => by rw [show i = 0 by omega]; exact Int.le_refl _⟩
  | n + 2, _ => by
    obtain ⟨t, h1, h2⟩ := least_of l (n + 1) (by omega)
    by_cases h : l t ≤ l (n + 1)
    · refine ⟨t, by omega, fun i hi => ?_⟩
      by_cases e : i = n + 1
      · rw [e]; exact h
      · exact h2 i (by omega)
    · refine ⟨n + 1, by omega, fun i hi => ?_⟩
      by_cases e : i = n + 1
      · rw [e]; exact Int.le_refl _
      · have := h2 i (by omega)
        omega

/-- To and fro: the positions of lengths, from any position on, in either direction. -/
def Zig (n : Nat) (p l : Nat → Int) : Prop := ∀ i, i < n → p (i + 1) = if i % 2 = 0 then p i + l i else p i - l i

theorem not_fd {n : Nat} {p l : Nat → Int} {c : Nat → Bool} (hz : Zig n p l) (hl : ∀ i, i < n → 0 < l i) (h2 : 2 ≤ n) (hf : l 1 < l 0) (hb : l (n - 2) < l (n - 1))
    (hc : ∀ i, i + 2 < n → l (i + 1) ≤ l i → l (i + 1) ≤ l (i + 2) → c i = c (i + 1)) : ¬ Fd n p c := by
  rintro ⟨A, hi, hn, hp⟩
  obtain ⟨t, ht, hmin⟩ := least_of l n (by omega)
  have f0 := hmin 1 (by omega)
  have f1 := hmin (n - 2) (by omega)
  obtain ⟨a, ha, hla, hap⟩ := last_of (fun i => l t < l i) t (show l t < l 0 by omega) (Int.lt_irrefl _)
  have htn : t ≠ n - 1 := fun e => by rw [e] at f1; omega
  obtain ⟨b, hb1, hb2, hlb, hbp⟩ := first_of (fun i => l t < l i) t (n - 1 - t) (by show l t < l (t + (n - 1 - t)); rw [show t + (n - 1 - t) = n - 1 by omega]; omega) (Int.lt_irrefl _)
  have heq : ∀ i, a < i → i < b → l i = l t := by
    intro i h1 h2
    have q := hmin i (by omega)
    by_cases h : i ≤ t
    · have : ¬ l t < l i := hap i h1 h
      omega
    · have : ¬ l t < l i := hbp i (by omega) h2
      omega
  have hcc : ∀ d, a + d < b → c (a + d) = c a := by
    intro d
    induction d with
    | zero => intro _; rfl
    | succ d ih =>
      intro h
      rw [← ih (by omega)]
      have e1 := heq (a + d + 1) (by omega) (by omega)
      have e2 := hmin (a + d) (by omega)
      have e3 := hmin (a + d + 2) (by omega)
      exact (hc (a + d) (by omega) (by omega) (by omega)).symm
  obtain ⟨m, rfl⟩ : ∃ m, b = a + m := ⟨b - a, by omega⟩
  have z : ∀ i, i < n → (p (i + 1) = p i + l i ∧ i % 2 = 0) ∨ (p (i + 1) = p i - l i ∧ i % 2 = 1) := by
    intro i h
    have := hz i h
    split at this
    · exact .inl ⟨this, by assumption⟩
    · exact .inr ⟨this, by omega⟩
  refine no_spiral hi hn a m (by omega) (by omega) (c a = true) ?_ ?_ ?_ ?_
  · intro k h1 h2
    obtain ⟨d, rfl⟩ : ∃ d, k = a + d := ⟨k - a, by omega⟩
    rw [← hp (a + d) (by omega), hcc d (by omega)]
  · intro k h1 h2
    have e1 := heq k (by omega) (by omega)
    have e2 := heq (k + 1) (by omega) (by omega)
    have z1 := z k (by omega)
    have z2 : (p (k + 2) = p (k + 1) + l (k + 1) ∧ (k + 1) % 2 = 0) ∨ (p (k + 2) = p (k + 1) - l (k + 1) ∧ (k + 1) % 2 = 1) := z (k + 1) (by omega)
    omega
  · have e1 := heq (a + 1) (by omega) (by omega)
    have q1 := hl t (by omega)
    have z1 := z a (by omega)
    have z2 : (p (a + 2) = p (a + 1) + l (a + 1) ∧ (a + 1) % 2 = 0) ∨ (p (a + 2) = p (a + 1) - l (a + 1) ∧ (a + 1) % 2 = 1) := z (a + 1) (by omega)
    unfold Btw
    omega
  · obtain ⟨k, hk⟩ : ∃ k, a + m = k + 1 := ⟨a + m - 1, by omega⟩
    have e1 := heq k (by omega) (by omega)
    have q1 := hl t (by omega)
    rw [hk] at hlb ⊢
    rw [show k + 1 - 1 = k by omega]
    have z1 := z k (by omega)
    have z2 := z (k + 1) (by omega)
    unfold Btw
    omega

end Go.Proofs.Ytfgenpailmgkiaa
