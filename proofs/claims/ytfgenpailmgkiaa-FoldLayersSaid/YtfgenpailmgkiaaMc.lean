/-
  A segment that is folded in between its neighbours: if the shorter strip folds, the longer one does (lists and numbers alone).
-/
import Derived.Test.YtfgenpailmgkiaaMa
namespace Go.Proofs.Ytfgenpailmgkiaa

theorem btw_scale {x y z d e f : Int} (h1 : x ≠ y) (h2 : x ≠ z) (hd : -1 ≤ d ∧ d ≤ 1) (he : -1 ≤ e ∧ e ≤ 1) (hf : -1 ≤ f ∧ f ≤ 1) : Btw (3 * x + d) (3 * y + e) (3 * z + f) ↔ Btw x y z := by unfold Btw; omega
theorem btw_l (x y : Int) : ¬ Btw x x y := by unfold Btw; omega
theorem btw_r (x y : Int) : ¬ Btw x y x := by unfold Btw; omega
theorem btw_wide {z a b c d : Int} (h : Btw z a b) (h1 : min c d ≤ min a b) (h2 : max a b ≤ max c d) : Btw z c d := by unfold Btw at *; omega

theorem par_ne {a b : Nat} (h : a % 2 = b % 2) : a ≠ b + 1 := by omega
theorem par_ne' {a b : Nat} (h : a % 2 = b % 2) : a + 1 ≠ b := by omega
theorem edge1 {a b t : Int} (ht : t = -1 ∨ t = 1) (h : a ≠ b) : Btw (3 * a - t) (3 * a + t) (3 * b) ↔ Btw (3 * a) (3 * a + t) (3 * b) := by
  unfold Btw
  rcases ht with rfl | rfl <;> rcases Int.lt_or_gt_of_ne h with h | h <;> omega
theorem edge2 {a b t : Int} (ht : t = -1 ∨ t = 1) (h : a ≠ b) : Btw (3 * a) (3 * b) (3 * a - t) ↔ Btw (3 * a + t) (3 * b) (3 * a - t) := by
  unfold Btw
  rcases ht with rfl | rfl <;> rcases Int.lt_or_gt_of_ne h with h | h <;> omega

set_option maxHeartbeats 1000000 in
theorem crimp_up {n j : Nat} {p p' : Nat → Int} {c : Nat → Bool} (hj : j < n) (hin : (p j ≤ p (j + 2) ∧ p (j + 2) ≤ p (j + 1) ∧ p (j + 1) ≤ p (j + 3)) ∨ (p (j + 3) ≤ p (j + 1) ∧ p (j + 1) ≤ p (j + 2) ∧ p (j + 2) ≤ p j))
    (hp1 : ∀ i, i ≤ j → p' i = p i) (hp2 : ∀ i, j < i → i ≤ n → p' i = p (i + 2)) (hcj : c j ≠ c (j + 1)) (h : Fd n p' (fun k => if k < j then c k else c (k + 2))) : Fd (n + 2) p c := by
  obtain ⟨A, hi, hn, hc⟩ := h
  obtain ⟨t, ht1, ht⟩ : ∃ t : Int, (t = -1 ∨ t = 1) ∧ (c j = true ↔ (j % 2 = 0 ↔ t = 1)) := by
    by_cases hc0 : c j = true <;> by_cases hp : j % 2 = 0
    · exact ⟨1, .inr rfl, by simp [hc0, hp]⟩
    · exact ⟨-1, .inl rfl, by simp [hc0, hp]⟩
    · exact ⟨-1, .inl rfl, by simp [hc0, hp]⟩
    · exact ⟨1, .inr rfl, by simp [hc0, hp]⟩
  have htt : (c (j + 1) = true ↔ ((j + 1) % 2 = 0 ↔ t = 1)) := by
    have e : c (j + 1) = true ↔ ¬ c j = true := by
      revert hcj
      cases c j <;> cases c (j + 1) <;> simp
    rw [e, ht]; omega
  obtain ⟨B, hB1, hB2, hB3, hB4, hB5⟩ : ∃ B : Nat → Int, (∀ i, i < j → B i = 3 * A i) ∧ B j = 3 * A j - t ∧ B (j + 1) = 3 * A j ∧ B (j + 2) = 3 * A j + t ∧ ∀ i, j < i → B (i + 2) = 3 * A i :=
    ⟨fun i => if i < j then 3 * A i else if i = j then 3 * A j - t else if i = j + 1 then 3 * A j else if i = j + 2 then 3 * A j + t else 3 * A (i - 2),
      fun i h => if_pos h, by show (if j < j then _ else if j = j then _ else _) = _; rw [if_neg (by omega), if_pos rfl], by show (if j + 1 < j then _ else if j + 1 = j then _ else if j + 1 = j + 1 then _ else _) = _; rw [if_neg (by omega), if_neg (by omega), if_pos rfl], by show (if j + 2 < j then _ else if j + 2 = j then _ else if j + 2 = j + 1 then _ else if j + 2 = j + 2 then _ else _) = _; rw [if_neg (by omega), if_neg (by omega), if_neg (by omega), if_pos rfl], fun i h => by
        show (if i + 2 < j then _ else _) = _
        rw [if_neg (by omega), if_neg (by omega), if_neg (by omega), if_neg (by omega), Nat.add_sub_cancel]⟩
  have qj := hp1 j (by omega)
  have qj1 : p' (j + 1) = p (j + 3) := hp2 (j + 1) (by omega) (by omega)
  obtain ⟨f, hf1, hf2, hf3⟩ : ∃ f : Nat → Nat, (∀ i, i ≤ j → f i = i) ∧ f (j + 1) = j ∧ ∀ i, j ≤ i → f (i + 2) = i :=
    ⟨fun i => if i ≤ j then i else if i = j + 1 then j else i - 2, fun i h => if_pos h, by show (if j + 1 ≤ j then _ else if j + 1 = j + 1 then _ else _) = _; rw [if_neg (by omega), if_pos rfl], fun i h => by show (if i + 2 ≤ j then _ else if i + 2 = j + 1 then _ else _) = _; rw [if_neg (by omega), if_neg (by omega)]; omega⟩
  have fc : ∀ i, (i ≤ j ∧ f i = i) ∨ (i = j + 1 ∧ f i = j) ∨ (j + 2 ≤ i ∧ f i + 2 = i) := by
    intro i
    by_cases h1 : i ≤ j
    · exact .inl ⟨h1, hf1 i h1⟩
    · by_cases h2 : i = j + 1
      · exact .inr (.inl ⟨h2, by rw [h2]; exact hf2⟩)
      · obtain ⟨u, rfl⟩ : ∃ u, i = u + 2 := ⟨i - 2, by omega⟩
        exact .inr (.inr ⟨by omega, by rw [hf3 u (by omega)]⟩)
  have el : ∀ i, i < n + 2 → f i < n ∧ (∃ d : Int, (-1 ≤ d ∧ d ≤ 1) ∧ B i = 3 * A (f i) + d) ∧ min (p' (f i)) (p' (f i + 1)) ≤ min (p i) (p (i + 1)) ∧ max (p i) (p (i + 1)) ≤ max (p' (f i)) (p' (f i + 1)) := by
    intro i hi'
    by_cases h1 : i < j
    · rw [hf1 i (by omega), hp1 i (by omega), hp1 (i + 1) (by omega), hB1 i h1]
      exact ⟨by omega, ⟨0, by omega, by omega⟩, Int.le_refl _, Int.le_refl _⟩
    · by_cases h2 : i = j
      · subst h2
        rw [hf1 i (by omega), hB2, qj, qj1]
        exact ⟨hj, ⟨-t, by omega, by omega⟩, by omega, by omega⟩
      · by_cases h3 : i = j + 1
        · subst h3
          rw [hf2, hB3, qj, qj1]
          refine ⟨hj, ⟨0, by omega, by omega⟩, ?_, ?_⟩
          · show _ ≤ min (p (j + 1)) (p (j + 2)); omega
          · show max (p (j + 1)) (p (j + 2)) ≤ _; omega
        · by_cases h4 : i = j + 2
          · subst h4
            rw [hf3 j (by omega), hB4, qj, qj1]
            refine ⟨hj, ⟨t, by omega, by omega⟩, ?_, ?_⟩
            · show _ ≤ min (p (j + 2)) (p (j + 3)); omega
            · show max (p (j + 2)) (p (j + 3)) ≤ _; omega
          · obtain ⟨u, rfl⟩ : ∃ u, i = u + 2 := ⟨i - 2, by omega⟩
            rw [hf3 u (by omega), hB5 u (by omega), hp2 u (by omega) (by omega), hp2 (u + 1) (by omega) (by omega), show u + 1 + 2 = u + 2 + 1 by omega]
            exact ⟨by omega, ⟨0, by omega, by omega⟩, Int.le_refl _, Int.le_refl _⟩
  -- a crease of the longer strip that is one of the shorter strip
  have cz : ∀ k, k + 1 < n + 2 → ¬ (k = j ∨ k = j + 1) → f (k + 1) = f k + 1 ∧ p (k + 1) = p' (f k + 1) ∧ f k % 2 = k % 2 := by
    intro k hk h
    by_cases h1 : k < j
    · rw [hf1 k (by omega), hf1 (k + 1) (by omega), hp1 (k + 1) (by omega)]
      exact ⟨rfl, rfl, rfl⟩
    · obtain ⟨u, rfl⟩ : ∃ u, k = u + 2 := ⟨k - 2, by omega⟩
      rw [hf3 u (by omega), show u + 2 + 1 = (u + 1) + 2 by omega, hf3 (u + 1) (by omega), hp2 (u + 1) (by omega) (by omega)]
      exact ⟨rfl, rfl, by omega⟩
  have adj : ∀ k i, (k = j ∨ k = j + 1) → ¬ Btw (B i) (B k) (B (k + 1)) := by
    intro k i h
    rcases h with rfl | rfl
    · rw [hB2, hB3]; unfold Btw; omega
    · show ¬ Btw (B i) (B (j + 1)) (B (j + 2))
      rw [hB3, hB4]; unfold Btw; omega
  refine ⟨B, ?_, ⟨?_, ?_⟩, ?_⟩
  · clear ht htt hcj hc hin
    intro a b ha hb e
    obtain ⟨hu, ⟨d, d1, eu⟩, _, _⟩ := el a ha
    obtain ⟨hv, ⟨g, g1, ev⟩, _, _⟩ := el b hb
    have : A (f a) = A (f b) := by omega
    have huv := hi _ _ hu hv this
    clear eu ev this el d1 g1
    by_cases hab : a = b
    · exact hab
    · exfalso
      have fa := fc a
      have fb := fc b
      have ha' : a = j ∨ a = j + 1 ∨ a = j + 2 := by omega
      have hb' : b = j ∨ b = j + 1 ∨ b = j + 2 := by omega
      rcases ha' with rfl | rfl | rfl <;> rcases hb' with h | h | h <;> (try subst h) <;> omega
  · clear ht htt hcj hc hin
    intro k i hk hi' hb
    by_cases hkj : k = j ∨ k = j + 1
    · exact adj k i hkj
    · obtain ⟨ha, ⟨d, d1, ea⟩, _, _⟩ := el k (by omega)
      obtain ⟨hb', ⟨f', f1, eb⟩, _, _⟩ := el (k + 1) hk
      obtain ⟨hu, ⟨g, g1, eu⟩, l1, l2⟩ := el i hi'
      obtain ⟨z1, z2, _⟩ := cz k hk hkj
      rw [z1] at hb' eb
      rw [z2] at hb
      have hbz := btw_wide hb l1 l2
      have q := hn.seg (f k) (f i) hb' hu hbz
      rw [ea, eb, eu]
      by_cases h1 : f i = f k
      · rw [h1] at hbz
        exact absurd hbz (btw_r _ _)
      · by_cases h2 : f i = f k + 1
        · rw [h2] at hbz
          exact absurd hbz (btw_l _ _)
        · exact fun h => q ((btw_scale (hi.ne hu ha h1) (hi.ne hu hb' h2) g1 d1 f1).1 h)
  · clear ht htt hcj hc hin
    intro m k hm hk e hpar
    by_cases hkj : k = j ∨ k = j + 1
    · exact ⟨fun h => absurd h (adj k _ hkj), fun h => absurd h (adj k _ hkj)⟩
    · obtain ⟨ha, ⟨d, d1, ea⟩, _, _⟩ := el k (by omega)
      obtain ⟨hb', ⟨f', f1, eb⟩, _, _⟩ := el (k + 1) hk
      obtain ⟨hu, ⟨g, g1, eu⟩, _, _⟩ := el m (by omega)
      obtain ⟨hv, ⟨o, o1, ev⟩, _, _⟩ := el (m + 1) hm
      obtain ⟨z1, z2, z3⟩ := cz k hk hkj
      rw [z1] at hb' eb
      by_cases hmj : m = j ∨ m = j + 1
      · have fm : f m = j := by
          rcases hmj with rfl | rfl
          · exact hf1 m (by omega)
          · exact hf2
        have fm1 : f (m + 1) = j := by
          rcases hmj with rfl | rfl
          · exact hf2
          · exact hf3 j (by omega)
        rw [fm] at hu eu
        rw [fm1] at hv ev
        by_cases e1 : j = f k
        · have hkc := fc k
          have k1 : k = j + 2 := by clear ea eb eu ev d1 f1 g1 o1 ht1; rcases hkc with h | h | h <;> omega
          have m1 : m = j := by clear ea eb eu ev d1 f1 g1 o1 ht1 hkc; omega
          subst k1 m1
          have n1 := hi.ne hu hb' (by omega)
          show Btw (B m) (B (m + 2)) (B (m + 2 + 1)) ↔ Btw (B (m + 1)) (B (m + 2)) (B (m + 2 + 1))
          have e3 : B (m + 2 + 1) = 3 * A (m + 1) := by
            rw [show m + 2 + 1 = (m + 1) + 2 by omega, hB5 (m + 1) (by omega)]
          rw [hB2, hB3, hB4, e3]
          rw [← e1] at n1
          exact edge1 ht1 n1
        · by_cases e2 : j = f k + 1
          · have hkc := fc k
            have k1 : k + 1 = j := by clear ea eb eu ev d1 f1 g1 o1 ht1; rcases hkc with h | h | h <;> omega
            have m1 : m = j + 1 := by clear ea eb eu ev d1 f1 g1 o1 ht1 hkc; omega
            subst m1
            subst k1
            have fk : f k = k := by omega
            have n1 := hi.ne hu ha (by omega)
            show Btw (B (k + 1 + 1)) (B k) (B (k + 1)) ↔ Btw (B (k + 1 + 2)) (B k) (B (k + 1))
            rw [hB2, hB3, hB4, hB1 k (by omega)]
            rw [fk] at n1
            exact edge2 ht1 n1
          · have n1 := hi.ne hu ha e1
            have n2 := hi.ne hu hb' e2
            rw [ea, eb, eu, ev, btw_scale n1 n2 g1 d1 f1, btw_scale n1 n2 o1 d1 f1]
      · obtain ⟨y1, y2, y3⟩ := cz m hm hmj
        rw [y1] at hv ev
        have hp2' : f m % 2 = f k % 2 := by rw [y3, z3]; exact hpar
        have q := hn.cr (f m) (f k) hv hb' (by rw [← y2, ← z2]; exact e) hp2'
        by_cases e1 : f m = f k
        · rw [e1]  at q hu hv eu ev
          by_cases mk : m = k
          · subst mk
            exact ⟨fun h => absurd h (btw_l _ _), fun h => absurd h (btw_r _ _)⟩
          · exfalso
            have hkc := fc k
            have hmc := fc m
            clear ea eb eu ev d1 f1 g1 o1 ht1 el e q hp2' y1 y2 y3 z1 z2 z3 hu hv ha hb' hm hk hj qj qj1
            rcases hkc with h | h | h <;> rcases hmc with g | g | g <;> omega
        · have n1 := hi.ne hu ha e1
          have n2 := hi.ne hu hb' (par_ne hp2')
          have n3 := hi.ne hv ha (par_ne' hp2')
          have n4 := hi.ne hv hb' (fun h => e1 (Nat.succ.inj h))
          rw [ea, eb, eu, ev, btw_scale n1 n2 g1 d1 f1, btw_scale n3 n4 o1 d1 f1]
          exact q
  · intro k hk
    by_cases h1 : k = j
    · subst h1
      rw [hB2, hB3, ht]
      omega
    · by_cases h2 : k = j + 1
      · subst h2
        rw [htt]
        show _ ↔ (_ ↔ B (j + 1) < B (j + 2))
        rw [hB3, hB4]
        omega
      · clear ht htt hcj hin
        obtain ⟨ha, ⟨d, d1, ea⟩, _, _⟩ := el k (by omega)
        obtain ⟨hb', ⟨f', f1, eb⟩, _, _⟩ := el (k + 1) hk
        obtain ⟨z1, z2, z3⟩ := cz k hk (by omega)
        rw [z1] at hb' eb
        have q : (if f k < j then c (f k) else c (f k + 2)) = true ↔ (f k % 2 = 0 ↔ A (f k) < A (f k + 1)) := hc (f k) hb'
        have n1 := hi.ne ha hb' (by omega)
        rw [ea, eb]
        have e1 : (if f k < j then c (f k) else c (f k + 2)) = c k := by
          rcases fc k with ⟨h, e⟩ | ⟨h, e⟩ | ⟨h, e⟩
          · rw [if_pos (by omega), e]
          · omega
          · rw [if_neg (by omega), e]
        rw [e1] at q
        rw [q, z3]
        clear fc el hn q
        omega

end Go.Proofs.Ytfgenpailmgkiaa
