/-
  Foldings of strips by positions and layers: what one removed end segment does (lists and numbers alone).
-/
import Derived.Test.YtfgenpailmgkiaaFa
namespace Go.Proofs.Ytfgenpailmgkiaa

/-- Strictly between. -/
def Btw (x a b : Int) : Prop := min a b < x ∧ x < max a b

/-- Nothing crosses: segment i reaches from p i to p (i + 1), and lies in the layer A i; crease k joins the segments k and k + 1. -/
structure NC (n : Nat) (p A : Nat → Int) : Prop where
  seg : ∀ k i, k + 1 < n → i < n → Btw (p (k + 1)) (p i) (p (i + 1)) → ¬ Btw (A i) (A k) (A (k + 1))
  cr : ∀ j k, j + 1 < n → k + 1 < n → p (j + 1) = p (k + 1) → j % 2 = k % 2 → (Btw (A j) (A k) (A (k + 1)) ↔ Btw (A (j + 1)) (A k) (A (k + 1)))
/-- Layers differ. -/
def Inj (n : Nat) (A : Nat → Int) : Prop := ∀ i j, i < n → j < n → A i = A j → i = j
/-- The letters of the creases: true is V. -/
def Pt (n : Nat) (c : Nat → Bool) (A : Nat → Int) : Prop := ∀ k, k + 1 < n → (c k = true ↔ (k % 2 = 0 ↔ A k < A (k + 1)))
/-- Some layers fold with the letters. -/
def Fd (n : Nat) (p : Nat → Int) (c : Nat → Bool) : Prop := ∃ A, Inj n A ∧ NC n p A ∧ Pt n c A

theorem Inj.ne {n : Nat} {A : Nat → Int} (h : Inj n A) {i j : Nat} (hi : i < n) (hj : j < n) (hne : i ≠ j) : A i ≠ A j := fun e => hne (h i j hi hj e)

theorem Fd.one (p : Nat → Int) (c : Nat → Bool) : Fd 1 p c :=
  ⟨fun _ => 0, fun i j hi hj _ => by omega, ⟨fun k i hk => by omega, fun j k hj => by omega⟩, fun k hk => by omega⟩

/-- The first segment is removed. -/
theorem fd_first_down {n : Nat} {p : Nat → Int} {c : Nat → Bool} (p' : Nat → Int) (s : Int) (hp : ∀ i, i ≤ n → p' i = s - p (i + 1)) (h : Fd (n + 1) p c) : Fd n p' (fun k => c (k + 1)) := by
  obtain ⟨A, hi, hn, hc⟩ := h
  refine ⟨fun i => - A (i + 1), fun i j h1 h2 (e : - A (i + 1) = - A (j + 1)) => by have := hi (i + 1) (j + 1) (by omega) (by omega) (by omega); omega, ⟨?_, ?_⟩, ?_⟩
  · intro k i hk hi' hb
    have := hn.seg (k + 1) (i + 1) (by omega) (by omega)
    have e1 := hp (k + 1) (by omega)
    have e2 := hp i (by omega)
    have e3 := hp (i + 1) (by omega)
    unfold Btw at *
    omega
  · intro j k hj hk e hm
    have e1 := hp (k + 1) (by omega)
    have e2 := hp (j + 1) (by omega)
    have := hn.cr (j + 1) (k + 1) (by omega) (by omega) (by omega) (by omega)
    unfold Btw at *
    omega
  · intro k hk
    show c (k + 1) = true ↔ _
    rw [hc (k + 1) (by omega)]
    show _ ↔ (k % 2 = 0 ↔ - A (k + 1) < - A (k + 1 + 1))
    have := hi.ne (show k + 1 < n + 1 by omega) (show k + 1 + 1 < n + 1 by omega) (by omega)
    omega
theorem fd_first_up {n : Nat} {p : Nat → Int} {c : Nat → Bool} (p' : Nat → Int) (s : Int) (hn1 : 1 ≤ n) (hp : ∀ i, i ≤ n → p' i = s - p (i + 1)) (hin : min (p 1) (p 2) ≤ p 0 ∧ p 0 ≤ max (p 1) (p 2)) (h : Fd n p' (fun k => c (k + 1))) : Fd (n + 1) p c := by
  obtain ⟨A, hi, hn, hc⟩ := h
  obtain ⟨t, ht⟩ : ∃ t : Int, (c 0 = true → t = -1) ∧ (¬ c 0 = true → t = 1) := by
    by_cases hc0 : c 0 = true
    · exact ⟨-1, fun _ => rfl, fun h => absurd hc0 h⟩
    · exact ⟨1, fun h => absurd h hc0, fun _ => rfl⟩
  have ht1 : t = -1 ∨ t = 1 := by
    by_cases hc0 : c 0 = true
    · exact .inl (ht.1 hc0)
    · exact .inr (ht.2 hc0)
  obtain ⟨B, hB0, hBs⟩ : ∃ B : Nat → Int, B 0 = -2 * A 0 + t ∧ ∀ i, B (i + 1) = -2 * A i :=
    ⟨fun i => match i with | 0 => -2 * A 0 + t | i + 1 => -2 * A i, rfl, fun _ => rfl⟩
  refine ⟨B, ?_, ⟨?_, ?_⟩, ?_⟩
  · intro i j h1 h2 e
    match i, j with
    | 0, 0 => rfl
    | 0, j + 1 => rw [hB0, hBs] at e; omega
    | i + 1, 0 => rw [hB0, hBs] at e; omega
    | i + 1, j + 1 => rw [hBs, hBs] at e; have := hi i j (by omega) (by omega) (by omega); omega
  · intro k i hk hi' hb
    match k, i with
    | 0, i => 
      rw [hBs, hB0]
      unfold Btw; omega
    | k + 1, i + 1 =>
      rw [hBs, hBs, hBs]
      have := hn.seg k i (by omega) (by omega)
      have e1 := hp (k + 1) (by omega)
      have e2 := hp i (by omega)
      have e3 := hp (i + 1) (by omega)
      unfold Btw at *
      omega
    | k + 1, 0 =>
      rw [hBs, hBs, hB0]
      rcases Nat.eq_zero_or_pos k with rfl | hk0
      · have b : ¬ Btw (p 2) (p 0) (p 1) := by unfold Btw; omega
        exact absurd hb b
      · have := hn.seg k 0 (by omega) (by omega)
        have n1 := hi.ne (show k < n by omega) (show 0 < n by omega) (by omega)
        have n2 := hi.ne (show k + 1 < n by omega) (show 0 < n by omega) (by omega)
        have e1 := hp (k + 1) (by omega)
        have e2 := hp 0 (by omega)
        have e3 : p' 1 = s - p 2 := hp 1 (by omega)
        have e2 : p' 0 = s - p 1 := hp 0 (by omega)
        have hb : Btw (p (k + 1 + 1)) (p 0) (p 1) := hb
        have : Btw (p' (k + 1)) (p' 0) (p' 1) → ¬ Btw (A 0) (A k) (A (k + 1)) := this
        unfold Btw at *
        omega
  · intro j k hj hk e hm
    match j, k with
    | j, 0 =>
      rw [hBs, hB0]
      unfold Btw; omega
    | 0, k + 1 =>
      rw [hBs, hBs, hBs, hB0]
      have n1 := hi.ne (show k < n by omega) (show 0 < n by omega) (by omega)
      have n2 := hi.ne (show k + 1 < n by omega) (show 0 < n by omega) (by omega)
      unfold Btw; omega
    | j + 1, k + 1 =>
      rw [hBs, hBs, hBs, hBs]
      have e1 := hp (k + 1) (by omega)
      have e2 := hp (j + 1) (by omega)
      have := hn.cr j k (by omega) (by omega) (by omega) (by omega)
      unfold Btw at *
      omega
  · intro k hk
    match k with
    | 0 => 
      rw [hBs, hB0]
      by_cases hc0 : c 0 = true
      · have := ht.1 hc0
        exact ⟨fun _ => by omega, fun _ => hc0⟩
      · have := ht.2 hc0
        exact ⟨fun h => absurd h hc0, fun h => by omega⟩
    | k + 1 =>
      rw [hBs, hBs]
      have := hc k (by omega)
      have n1 := hi.ne (show k < n by omega) (show k + 1 < n by omega) (by omega)
      show c (k + 1) = true ↔ _
      rw [this]
      omega

/-- The last segment is removed. -/
theorem fd_last_down {n : Nat} {p : Nat → Int} {c : Nat → Bool} (h : Fd (n + 1) p c) : Fd n p c := by
  obtain ⟨A, hi, hn, hc⟩ := h
  exact ⟨A, fun i j h1 h2 e => hi i j (by omega) (by omega) e, ⟨fun k i hk hi' => hn.seg k i (by omega) (by omega), fun j k hj hk => hn.cr j k (by omega) (by omega)⟩, fun k hk => hc k (by omega)⟩
theorem fd_last_up {n : Nat} {p : Nat → Int} {c : Nat → Bool} (hin : min (p n) (p (n + 1)) ≤ p (n + 1 + 1) ∧ p (n + 1 + 1) ≤ max (p n) (p (n + 1))) (h : Fd (n + 1) p c) : Fd (n + 2) p c := by
  obtain ⟨A, hi, hn, hc⟩ := h
  obtain ⟨t, ht1, ht⟩ : ∃ t : Int, (t = -1 ∨ t = 1) ∧ (c n = true ↔ (n % 2 = 0 ↔ t = 1)) := by
    by_cases hc0 : c n = true <;> by_cases hp : n % 2 = 0
    · exact ⟨1, .inr rfl, by simp [hc0, hp]⟩
    · exact ⟨-1, .inl rfl, by simp [hc0, hp]⟩
    · exact ⟨-1, .inl rfl, by simp [hc0, hp]⟩
    · exact ⟨1, .inr rfl, by simp [hc0, hp]⟩
  obtain ⟨B, hB0, hBs⟩ : ∃ B : Nat → Int, B (n + 1) = 2 * A n + t ∧ ∀ i, i ≤ n → B i = 2 * A i :=
    ⟨fun i => if i = n + 1 then 2 * A n + t else 2 * A i, if_pos rfl, fun i h => if_neg (by omega)⟩
  refine ⟨B, ?_, ⟨?_, ?_⟩, ?_⟩
  · intro i j h1 h2 e
    by_cases ei : i = n + 1 <;> by_cases ej : j = n + 1
    · omega
    · rw [ei, hB0, hBs j (by omega)] at e; omega
    · rw [ej, hB0, hBs i (by omega)] at e; omega
    · rw [hBs i (by omega), hBs j (by omega)] at e; exact hi i j (by omega) (by omega) (by omega)
  · intro k i hk hi' hb
    by_cases ek : k = n
    · subst ek
      rw [hB0, hBs k (by omega)]
      unfold Btw; omega
    · rw [hBs k (by omega), hBs (k + 1) (by omega)]
      by_cases ei : i = n + 1
      · subst ei
        rw [hB0]
        by_cases ek1 : k + 1 = n
        · have b : ¬ Btw (p (k + 1)) (p (n + 1)) (p (n + 1 + 1)) := by rw [ek1]; unfold Btw; omega
          exact absurd hb b
        · have := hn.seg k n (by omega) (by omega)
          have n1 := hi.ne (show k < n + 1 by omega) (show n < n + 1 by omega) (by omega)
          have n2 := hi.ne (show k + 1 < n + 1 by omega) (show n < n + 1 by omega) (by omega)
          unfold Btw at *
          omega
      · rw [hBs i (by omega)]
        have := hn.seg k i (by omega) (by omega) hb
        unfold Btw at *
        omega
  · intro j k hj hk e hm
    by_cases ek : k = n
    · subst ek
      rw [hB0, hBs k (by omega)]
      unfold Btw; omega
    · rw [hBs k (by omega), hBs (k + 1) (by omega)]
      by_cases ej : j = n
      · subst ej
        rw [hB0, hBs j (by omega)]
        have n1 := hi.ne (show k < j + 1 by omega) (show j < j + 1 by omega) (by omega)
        have n2 := hi.ne (show k + 1 < j + 1 by omega) (show j < j + 1 by omega) (by omega)
        unfold Btw; omega
      · rw [hBs j (by omega), hBs (j + 1) (by omega)]
        have := hn.cr j k (by omega) (by omega) e hm
        unfold Btw at *
        omega
  · intro k hk
    by_cases ek : k = n
    · subst ek
      rw [hB0, hBs k (by omega), ht]
      omega
    · rw [hBs k (by omega), hBs (k + 1) (by omega), hc k (by omega)]
      omega

end Go.Proofs.Ytfgenpailmgkiaa
