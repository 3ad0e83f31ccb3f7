/-
  Foldings of strips by positions and layers: what one removed end segment does (lists and numbers alone).
  A strip that no step reduces does not fold (lists and numbers alone): the shortest segments spiral into one another.
-/
import Derived.Test.YtfgenpailmgkiaaFa
namespace Go.Proofs.Ytfgenpailmgkiaa

/-- Strictly between. -/
def Btw (x a b : Int) : Prop := min a b < x ∧ x < max a b

/-- Nothing crosses: segment i reaches from p i to p (i + 1), and lies in the layer A i; crease k joins the segments k and k + 1. -/
structure NC (n : Nat) (p A : Nat → Int) : Prop where
  seg : ∀ k i, k + 1 < n → i < n → Btw (p (k + 1)) (p i) (p (i + 1)) → ¬ Btw (A i) (A k) (A (k + 1))
  cr : ∀ j k, j + 1 < n → k + 1 < n → p (j + 1) = p (k + 1) → j % 2 = k % 2 → (Btw (A j) (A k) (A (k + 1)) ↔ Btw (A (j + 1)) (A k) (A (k + 1)))
/-- Layers differ. -/
def Inj (n : Nat) (A : Nat → Int) : Prop := ∀ i j, i < n → j < n → A i = A j → i = j
/-- The letters of the creases: true is V. -/
def Pt (n : Nat) (c : Nat → Bool) (A : Nat → Int) : Prop := ∀ k, k + 1 < n → (c k = true ↔ (k % 2 = 0 ↔ A k < A (k + 1)))
/-- Some layers fold with the letters. -/
def Fd (n : Nat) (p : Nat → Int) (c : Nat → Bool) : Prop := ∃ A, Inj n A ∧ NC n p A ∧ Pt n c A

theorem Inj.ne {n : Nat} {A : Nat → Int} (h : Inj n A) {i j : Nat} (hi : i < n) (hj : j < n) (hne : i ≠ j) : A i ≠ A j := fun e => hne (h i j hi hj e)

theorem Fd.one (p : Nat → Int) (c : Nat → Bool) : Fd 1 p c :=
  ⟨fun _ => 0, fun i j hi hj _ => by omega, ⟨fun k i hk => by omega, fun j k hj => by omega⟩, fun k hk => by omega⟩

/-- The first segment is removed. -/
theorem fd_first_down {n : Nat} {p : Nat → Int} {c : Nat → Bool} (p' : Nat → Int) (s : Int) (hp : ∀ i, i ≤ n → p' i = s - p (i + 1)) (h : Fd (n + 1) p c) : Fd n p' (fun k => c (k + 1)) := by
  obtain ⟨A, hi, hn, hc⟩ := h
  refine ⟨fun i => - A (i + 1), fun i j h1 h2 (e : - A (i + 1) = - A (j + 1)) => by have := hi (i + 1) (j + 1) (by omega) (by omega) (by omega); omega, ⟨?_, ?_⟩, ?_⟩
  · intro k i hk hi' hb
    have := hn.seg (k + 1) (i + 1) (by omega) (by omega)
    have e1 := hp (k + 1) (by omega)
    have e2 := hp i (by omega)
    have e3 := hp (i + 1) (by omega)
    unfold Btw at *
    omega
  · intro j k hj hk e hm
    have e1 := hp (k + 1) (by omega)
    have e2 := hp (j + 1) (by omega)
    have := hn.cr (j + 1) (k + 1) (by omega) (by omega) (by omega) (by omega)
    unfold Btw at *
    omega
  · intro k hk
    show c (k + 1) = true ↔ _
    rw [hc (k + 1) (by omega)]
    show _ ↔ (k % 2 = 0 ↔ - A (k + 1) < - A (k + 1 + 1))
    have := hi.ne (show k + 1 < n + 1 by omega) (show k + 1 + 1 < n + 1 by omega) (by omega)
    omega
theorem fd_first_up {n : Nat} {p : Nat → Int} {c : Nat → Bool} (p' : Nat → Int) (s : Int) (hn1 : 1 ≤ n) (hp : ∀ i, i ≤ n → p' i = s - p (i + 1)) (hin : min (p 1) (p 2) ≤ p 0 ∧ p 0 ≤ max (p 1) (p 2)) (h : Fd n p' (fun k => c (k + 1))) : Fd (n + 1) p c := by
  obtain ⟨A, hi, hn, hc⟩ := h
  obtain ⟨t, ht⟩ : ∃ t : Int, (c 0 = true → t = -1) ∧ (¬ c 0 = true → t = 1) := by
    by_cases hc0 : c 0 = true
    · exact ⟨-1, fun _ => rfl, fun h => absurd hc0 h⟩
    · exact ⟨1, fun h => absurd h hc0, fun _ => rfl⟩
  have ht1 : t = -1 ∨ t = 1 := by
    by_cases hc0 : c 0 = true
    · exact .inl (ht.1 hc0)
    · exact .inr (ht.2 hc0)
  obtain ⟨B, hB0, hBs⟩ : ∃ B : Nat → Int, B 0 = -2 * A 0 + t ∧ ∀ i, B (i + 1) = -2 * A i :=
    ⟨fun i => match i with | 0 => -2 * A 0 + t | i + 1 => -2 * A i, rfl, fun _ => rfl⟩
  refine ⟨B, ?_, ⟨?_, ?_⟩, ?_⟩
  · intro i j h1 h2 e
    match i, j with
    | 0, 0 => rfl
    | 0, j + 1 => rw [hB0, hBs] at e; omega
    | i + 1, 0 => rw [hB0, hBs] at e; omega
    | i + 1, j + 1 => rw [hBs, hBs] at e; have := hi i j (by omega) (by omega) (by omega); omega
  · intro k i hk hi' hb
    match k, i with
    | 0, i => 
      rw [hBs, hB0]
      unfold Btw; omega
    | k + 1, i + 1 =>
      rw [hBs, hBs, hBs]
      have := hn.seg k i (by omega) (by omega)
      have e1 := hp (k + 1) (by omega)
      have e2 := hp i (by omega)
      have e3 := hp (i + 1) (by omega)
      unfold Btw at *
      omega
    | k + 1, 0 =>
      rw [hBs, hBs, hB0]
      rcases Nat.eq_zero_or_pos k with rfl | hk0
      · have b : ¬ Btw (p 2) (p 0) (p 1) := by unfold Btw; omega
        exact absurd hb b
      · have := hn.seg k 0 (by omega) (by omega)
        have n1 := hi.ne (show k < n by omega) (show 0 < n by omega) (by omega)
        have n2 := hi.ne (show k + 1 < n by omega) (show 0 < n by omega) (by omega)
        have e1 := hp (k + 1) (by omega)
        have e2 := hp 0 (by omega)
        have e3 : p' 1 = s - p 2 := hp 1 (by omega)
        have e2 : p' 0 = s - p 1 := hp 0 (by omega)
        have hb : Btw (p (k + 1 + 1)) (p 0) (p 1) := hb
        have : Btw (p' (k + 1)) (p' 0) (p' 1) → ¬ Btw (A 0) (A k) (A (k + 1)) := this
        unfold Btw at *
        omega
  · intro j k hj hk e hm
    match j, k with
    | j, 0 =>
      rw [hBs, hB0]
      unfold Btw; omega
    | 0, k + 1 =>
      rw [hBs, hBs, hBs, hB0]
      have n1 := hi.ne (show k < n by omega) (show 0 < n by omega) (by omega)
      have n2 := hi.ne (show k + 1 < n by omega) (show 0 < n by omega) (by omega)
      unfold Btw; omega
    | j + 1, k + 1 =>
      rw [hBs, hBs, hBs, hBs]
      have e1 := hp (k + 1) (by omega)
      have e2 := hp (j + 1) (by omega)
      have := hn.cr j k (by omega) (by omega) (by omega) (by omega)
      unfold Btw at *
      omega
  · intro k hk
    match k with
    | 0 => 
      rw [hBs, hB0]
      by_cases hc0 : c 0 = true
      · have := ht.1 hc0
        exact ⟨fun _ => by omega, fun _ => hc0⟩
      · have := ht.2 hc0
        exact ⟨fun h => absurd h hc0, fun h => by omega⟩
    | k + 1 =>
      rw [hBs, hBs]
      have := hc k (by omega)
      have n1 := hi.ne (show k < n by omega) (show k + 1 < n by omega) (by omega)
      show c (k + 1) = true ↔ _
      rw [this]
      omega

/-- The last segment is removed. -/
theorem fd_last_down {n : Nat} {p : Nat → Int} {c : Nat → Bool} (h : Fd (n + 1) p c) : Fd n p c := by
  obtain ⟨A, hi, hn, hc⟩ := h
  exact ⟨A, fun i j h1 h2 e => hi i j (by omega) (by omega) e, ⟨fun k i hk hi' => hn.seg k i (by omega) (by omega), fun j k hj hk => hn.cr j k (by omega) (by omega)⟩, fun k hk => hc k (by omega)⟩
theorem fd_last_up {n : Nat} {p : Nat → Int} {c : Nat → Bool} (hin : min (p n) (p (n + 1)) ≤ p (n + 1 + 1) ∧ p (n + 1 + 1) ≤ max (p n) (p (n + 1))) (h : Fd (n + 1) p c) : Fd (n + 2) p c := by
  obtain ⟨A, hi, hn, hc⟩ := h
  obtain ⟨t, ht1, ht⟩ : ∃ t : Int, (t = -1 ∨ t = 1) ∧ (c n = true ↔ (n % 2 = 0 ↔ t = 1)) := by
    by_cases hc0 : c n = true <;> by_cases hp : n % 2 = 0
    · exact ⟨1, .inr rfl, by simp [hc0, hp]⟩
    · exact ⟨-1, .inl rfl, by simp [hc0, hp]⟩
    · exact ⟨-1, .inl rfl, by simp [hc0, hp]⟩
    · exact ⟨1, .inr rfl, by simp [hc0, hp]⟩
  obtain ⟨B, hB0, hBs⟩ : ∃ B : Nat → Int, B (n + 1) = 2 * A n + t ∧ ∀ i, i ≤ n → B i = 2 * A i :=
    ⟨fun i => if i = n + 1 then 2 * A n + t else 2 * A i, if_pos rfl, fun i h => if_neg (by omega)⟩
  refine ⟨B, ?_, ⟨?_, ?_⟩, ?_⟩
  · intro i j h1 h2 e
    by_cases ei : i = n + 1 <;> by_cases ej : j = n + 1
    · omega
    · rw [ei, hB0, hBs j (by omega)] at e; omega
    · rw [ej, hB0, hBs i (by omega)] at e; omega
    · rw [hBs i (by omega), hBs j (by omega)] at e; exact hi i j (by omega) (by omega) (by omega)
  · intro k i hk hi' hb
    by_cases ek : k = n
    · subst ek
      rw [hB0, hBs k (by omega)]
      unfold Btw; omega
    · rw [hBs k (by omega), hBs (k + 1) (by omega)]
      by_cases ei : i = n + 1
      · subst ei
        rw [hB0]
        by_cases ek1 : k + 1 = n
        · have b : ¬ Btw (p (k + 1)) (p (n + 1)) (p (n + 1 + 1)) := by rw [ek1]; unfold Btw; omega
          exact absurd hb b
        · have := hn.seg k n (by omega) (by omega)
          have n1 := hi.ne (show k < n + 1 by omega) (show n < n + 1 by omega) (by omega)
          have n2 := hi.ne (show k + 1 < n + 1 by omega) (show n < n + 1 by omega) (by omega)
          unfold Btw at *
          omega
      · rw [hBs i (by omega)]
        have := hn.seg k i (by omega) (by omega) hb
        unfold Btw at *
        omega
  · intro j k hj hk e hm
    by_cases ek : k = n
    · subst ek
      rw [hB0, hBs k (by omega)]
      unfold Btw; omega
    · rw [hBs k (by omega), hBs (k + 1) (by omega)]
      by_cases ej : j = n
      · subst ej
        rw [hB0, hBs j (by omega)]
        have n1 := hi.ne (show k < j + 1 by omega) (show j < j + 1 by omega) (by omega)
        have n2 := hi.ne (show k + 1 < j + 1 by omega) (show j < j + 1 by omega) (by omega)
        unfold Btw; omega
      · rw [hBs j (by omega), hBs (j + 1) (by omega)]
        have := hn.cr j k (by omega) (by omega) e hm
        unfold Btw at *
        omega
  · intro k hk
    by_cases ek : k = n
    · subst ek
      rw [hB0, hBs k (by omega), ht]
      omega
    · rw [hBs k (by omega), hBs (k + 1) (by omega), hc k (by omega)]
      omega

end Go.Proofs.Ytfgenpailmgkiaa

namespace Go.Proofs.Ytfgenpailmgkiaa

/-- A run of creases with one letter, whose inner segments have one length and whose outer ones are longer, does not fold. -/
theorem no_spiral {n : Nat} {p A : Nat → Int} (hi : Inj n A) (hn : NC n p A) (a m : Nat) (hm : 2 ≤ m) (ham : a + m < n) (σ : Prop)
    (hs : ∀ k, a ≤ k → k < a + m → ((k % 2 = 0 ↔ A k < A (k + 1)) ↔ σ)) (hpl : ∀ k, a + 1 ≤ k → k + 2 ≤ a + m → p (k + 2) = p k)
    (h0 : Btw (p (a + 2)) (p a) (p (a + 1))) (h1 : Btw (p (a + m - 1)) (p (a + m)) (p (a + m + 1))) : False := by
  have key : ∀ j, j + 2 ≤ m → Btw (A (a + j + 2)) (A (a + j)) (A (a + j + 1)) := by
    intro j
    induction j with
    | zero =>
      intro hj
      have q := hn.seg (a + 1) a (by omega) (by omega) h0
      have s0 := hs a (by omega) (by omega)
      have s1 := hs (a + 1) (by omega) (by omega)
      have n0 := hi.ne (show a < n by omega) (show a + 1 < n by omega) (by omega)
      have n1 := hi.ne (show a + 1 < n by omega) (show a + 2 < n by omega) (by omega)
      have n2 := hi.ne (show a < n by omega) (show a + 2 < n by omega) (by omega)
      have s1' : ((a + 1) % 2 = 0 ↔ A (a + 1) < A (a + 2)) ↔ σ := s1
      have q' : ¬ Btw (A a) (A (a + 1)) (A (a + 2)) := q
      show Btw (A (a + 2)) (A a) (A (a + 1))
      unfold Btw at *
      by_cases hσ : σ
      · simp only [hσ, iff_true] at s0 s1'
        omega
      · simp only [hσ, iff_false] at s0 s1'
        omega
    | succ j ih =>
      intro hj
      have q := ih (by omega)
      have e := hpl (a + j + 1) (by omega) (by omega)
      have c := hn.cr (a + j + 2) (a + j) (by omega) (by omega) e (by omega)
      have s0 := hs (a + j + 1) (by omega) (by omega)
      have s1 := hs (a + j + 2) (by omega) (by omega)
      have n0 := hi.ne (show a + j + 2 < n by omega) (show a + j + 3 < n by omega) (by omega)
      have n1 := hi.ne (show a + j + 1 < n by omega) (show a + j + 2 < n by omega) (by omega)
      have s0' : ((a + j + 1) % 2 = 0 ↔ A (a + j + 1) < A (a + j + 2)) ↔ σ := s0
      have s1' : ((a + j + 2) % 2 = 0 ↔ A (a + j + 2) < A (a + j + 3)) ↔ σ := s1
      have c' : Btw (A (a + j + 2)) (A (a + j)) (A (a + j + 1)) ↔ Btw (A (a + j + 3)) (A (a + j)) (A (a + j + 1)) := c
      show Btw (A (a + j + 3)) (A (a + j + 1)) (A (a + j + 2))
      have d := c'.1 q
      clear c c' hs hpl hn ih hi s0 s1
      unfold Btw at *
      by_cases hσ : σ
      · simp only [hσ, iff_true] at s0' s1'
        omega
      · simp only [hσ, iff_false] at s0' s1'
        omega
  obtain ⟨j, rfl⟩ : ∃ j, m = j + 2 := ⟨m - 2, by omega⟩
  have q := key j (by omega)
  exact hn.seg (a + j) (a + (j + 2)) (by omega) (by omega) h1 q

theorem last_of (f : Nat → Prop) [DecidablePred f] : ∀ t, f 0 → ¬ f t → ∃ a, a < t ∧ f a ∧ ∀ i, a < i → i ≤ t → ¬ f i
  | 0, h0, ht => absurd h0 ht
  | t + 1, h0, ht => by
    by_cases h : f t
    · exact ⟨t, by omega, h, fun i h1 h2 => by rw [show i = t + 1 by omega]; exact ht⟩
    · obtain ⟨a, h1, h2, h3⟩ := last_of f t h0 h
      refine ⟨a, by omega, h2, fun i h4 h5 => ?_⟩
      by_cases e : i = t + 1
      · rw [e]; exact ht
      · exact h3 i h4 (by omega)
theorem first_of (f : Nat → Prop) [DecidablePred f] (t : Nat) : ∀ d, f (t + d) → ¬ f t → ∃ b, t < b ∧ b ≤ t + d ∧ f b ∧ ∀ i, t ≤ i → i < b → ¬ f i
  | 0, h0, ht => absurd h0 ht
  | d + 1, h0, ht => by
    by_cases h : f (t + d)
    · obtain ⟨b, h1, h2, h3⟩ := first_of f t d h ht
      exact ⟨b, h1, by omega, h3⟩
    · by_cases h' : ∃ b, t < b ∧ b ≤ t + d ∧ f b ∧ ∀ i, t ≤ i → i < b → ¬ f i
      · obtain ⟨b, h1, h2, h3⟩ := h'
        exact ⟨b, h1, by omega, h3⟩
      · by_cases hall : ∀ i, t ≤ i → i ≤ t + d → ¬ f i
        · exact ⟨t + d + 1, by omega, by omega, h0, fun i h1 h2 => hall i h1 (by omega)⟩
        · exfalso
          have : ∃ i, t ≤ i ∧ i ≤ t + d ∧ f i := by
            exact Classical.byContradiction fun hc => hall fun i h1 h2 h3 => hc ⟨i, h1, h2, h3⟩
          obtain ⟨i, h1, h2, h3⟩ := this
          have hne : i ≠ t := fun e => ht (e ▸ h3)
          obtain ⟨e, rfl⟩ : ∃ e, i = t + e := ⟨i - t, by omega⟩
          obtain ⟨b, q1, q2, q3⟩ := first_of f t e h3 ht
          exact h' ⟨b, q1, by omega, q3⟩
termination_by d => d
decreasing_by all_goals omega

theorem least_of (l : Nat → Int) : ∀ n, 0 < n → ∃ t, t < n ∧ ∀ i, i < n → l t ≤ l i
  | 1, _ => ⟨0, by omega, fun i h => by rw [show i = 0 by omega]; exact Int.le_refl _⟩
  | n + 2, _ => by
    obtain ⟨t, h1, h2⟩ := least_of l (n + 1) (by omega)
    by_cases h : l t ≤ l (n + 1)
    · refine ⟨t, by omega, fun i hi => ?_⟩
      by_cases e : i = n + 1
      · rw [e]; exact h
      · exact h2 i (by omega)
    · refine ⟨n + 1, by omega, fun i hi => ?_⟩
      by_cases e : i = n + 1
      · rw [e]; exact Int.le_refl _
      · have := h2 i (by omega)
        omega

/-- To and fro: the positions of lengths, from any position on, in either direction. -/
def Zig (n : Nat) (p l : Nat → Int) : Prop := ∀ i, i < n → p (i + 1) = if i % 2 = 0 then p i + l i else p i - l i

theorem not_fd {n : Nat} {p l : Nat → Int} {c : Nat → Bool} (hz : Zig n p l) (hl : ∀ i, i < n → 0 < l i) (h2 : 2 ≤ n) (hf : l 1 < l 0) (hb : l (n - 2) < l (n - 1))
    (hc : ∀ i, i + 2 < n → l (i + 1) ≤ l i → l (i + 1) ≤ l (i + 2) → c i = c (i + 1)) : ¬ Fd n p c := by
  rintro ⟨A, hi, hn, hp⟩
  obtain ⟨t, ht, hmin⟩ := least_of l n (by omega)
  have f0 := hmin 1 (by omega)
  have f1 := hmin (n - 2) (by omega)
  obtain ⟨a, ha, hla, hap⟩ := last_of (fun i => l t < l i) t (show l t < l 0 by omega) (Int.lt_irrefl _)
  have htn : t ≠ n - 1 := fun e => by rw [e] at f1; omega
  obtain ⟨b, hb1, hb2, hlb, hbp⟩ := first_of (fun i => l t < l i) t (n - 1 - t) (by show l t < l (t + (n - 1 - t)); rw [show t + (n - 1 - t) = n - 1 by omega]; omega) (Int.lt_irrefl _)
  have heq : ∀ i, a < i → i < b → l i = l t := by
    intro i h1 h2
    have q := hmin i (by omega)
    by_cases h : i ≤ t
    · have : ¬ l t < l i := hap i h1 h
      omega
    · have : ¬ l t < l i := hbp i (by omega) h2
      omega
  have hcc : ∀ d, a + d < b → c (a + d) = c a := by
    intro d
    induction d with
    | zero => intro _; rfl
    | succ d ih =>
      intro h
      rw [← ih (by omega)]
      have e1 := heq (a + d + 1) (by omega) (by omega)
      have e2 := hmin (a + d) (by omega)
      have e3 := hmin (a + d + 2) (by omega)
      exact (hc (a + d) (by omega) (by omega) (by omega)).symm
  obtain ⟨m, rfl⟩ : ∃ m, b = a + m := ⟨b - a, by omega⟩
  have z : ∀ i, i < n → (p (i + 1) = p i + l i ∧ i % 2 = 0) ∨ (p (i + 1) = p i - l i ∧ i % 2 = 1) := by
    intro i h
    have := hz i h
    split at this
    · exact .inl ⟨this, by assumption⟩
    · exact .inr ⟨this, by omega⟩
  refine no_spiral hi hn a m (by omega) (by omega) (c a = true) ?_ ?_ ?_ ?_
  · intro k h1 h2
    obtain ⟨d, rfl⟩ : ∃ d, k = a + d := ⟨k - a, by omega⟩
    rw [← hp (a + d) (by omega), hcc d (by omega)]
  · intro k h1 h2
    have e1 := heq k (by omega) (by omega)
    have e2 := heq (k + 1) (by omega) (by omega)
    have z1 := z k (by omega)
    have z2 : (p (k + 2) = p (k + 1) + l (k + 1) ∧ (k + 1) % 2 = 0) ∨ (p (k + 2) = p (k + 1) - l (k + 1) ∧ (k + 1) % 2 = 1) := z (k + 1) (by omega)
    omega
  · have e1 := heq (a + 1) (by omega) (by omega)
    have q1 := hl t (by omega)
    have z1 := z a (by omega)
    have z2 : (p (a + 2) = p (a + 1) + l (a + 1) ∧ (a + 1) % 2 = 0) ∨ (p (a + 2) = p (a + 1) - l (a + 1) ∧ (a + 1) % 2 = 1) := z (a + 1) (by omega)
    unfold Btw
    omega
  · obtain ⟨k, hk⟩ : ∃ k, a + m = k + 1 := ⟨a + m - 1, by omega⟩
    have e1 := heq k (by omega) (by omega)
    have q1 := hl t (by omega)
    rw [hk] at hlb ⊢
    rw [show k + 1 - 1 = k by omega]
    have z1 := z k (by omega)
    have z2 := z (k + 1) (by omega)
    unfold Btw
    omega

end Go.Proofs.Ytfgenpailmgkiaa

