/-
  The walk around a least set that is not chordal, pure: its nodes in turn are a ring.
-/
import Derived.Test.YticafbfijpjbnaaWc
namespace Go.Proofs.Yticafbfijpjbnaa

/-- The least number of a set; 16 of the empty one. -/
def tzN (s : Nat) : Nat := ((List.range 16).find? fun i => s.testBit i).getD 16
theorem tzN_bit {s : Nat} (hs : s < 65536) (h0 : s ≠ 0) : s.testBit (tzN s) = true ∧ tzN s < 16 := by
  obtain ⟨b, hb⟩ := some_bit h0
  have hb16 : b < 16 := bit_lt (n := 16) hs hb
  rw [tzN]
  cases hf : (List.range 16).find? fun i => s.testBit i with
  | none =>
    rw [List.find?_eq_none] at hf
    exact absurd hb (hf b (List.mem_range.2 hb16))
  | some c => exact ⟨List.find?_some (p := fun i => s.testBit i) hf, List.mem_range.1 (List.mem_of_find?_eq_some hf)⟩
/-- What 'around' collects. -/
def aroundN (gs : List Nat) : Nat → Nat → Nat → List Nat
  | 0, _, _ => []
  | f + 1, R, nx => if nx = 0 then [] else tzN nx :: aroundN gs f (R &&& (65535 - 2 ^ tzN nx)) ((gs[tzN nx]?.getD 0) &&& (R &&& (65535 - 2 ^ tzN nx)))

/-- Each node has two neighbours, which are no neighbours of each other, and no more. -/
def Two (E : Nat → Nat → Prop) (L : Nat) : Prop := ∀ v, L.testBit v = true → (∃ a b, L.testBit a = true ∧ L.testBit b = true ∧ a ≠ b ∧ E v a ∧ E v b) ∧
  ∀ a b, L.testBit a = true → L.testBit b = true → E v a → E v b → a ≠ b → ¬ E a b ∧ ∀ c, L.testBit c = true → E v c → c = a ∨ c = b
theorem two_from {E : Nat → Nat → Prop} (hsym : ∀ a b, E a b → E b a) {L : Nat} (h : ∀ v, L.testBit v = true → ∃ x y, L.testBit x = true ∧ L.testBit y = true ∧ x ≠ y ∧ ¬ E x y ∧ E v x ∧ E v y ∧ ∀ w, L.testBit w = true → E v w → w = x ∨ w = y) : Two E L := by
  intro v hv
  obtain ⟨x, y, hx, hy, hxy, hne, hvx, hvy, hall⟩ := h v hv
  refine ⟨⟨x, y, hx, hy, hxy, hvx, hvy⟩, fun a b ha hb hva hvb hab => ?_⟩
  rcases hall a ha hva with rfl | rfl
  · rcases hall b hb hvb with rfl | rfl
    · exact absurd rfl hab
    · exact ⟨hne, hall⟩
  · rcases hall b hb hvb with rfl | rfl
    · exact ⟨fun h => hne (hsym _ _ h), fun c hc hvc => (hall c hc hvc).symm⟩
    · exact absurd rfl hab

def atL (P : List Nat) (i : Nat) : Nat := P[i]?.getD 0
theorem atL_mem {P : List Nat} {i : Nat} (h : i < P.length) : atL P i ∈ P := by
  rw [atL, List.getElem?_eq_getElem h]; exact List.getElem_mem h
theorem atL_old {P : List Nat} {v i : Nat} (h : i < P.length) : atL (P ++ [v]) i = atL P i := by
  rw [atL, List.getElem?_append_left h]; rfl
theorem atL_new {P : List Nat} {v : Nat} : atL (P ++ [v]) P.length = v := by
  rw [atL, List.getElem?_append_right (Nat.le_refl _), Nat.sub_self]; rfl
theorem mem_atL {P : List Nat} {x : Nat} (h : x ∈ P) : ∃ i, i < P.length ∧ atL P i = x := by
  obtain ⟨i, hi, rfl⟩ := List.getElem_of_mem h
  exact ⟨i, hi, by rw [atL, List.getElem?_eq_getElem hi]; rfl⟩

/-- A ring. -/
def RingL (E : Nat → Nat → Prop) (l : List Nat) : Prop := 4 ≤ l.length ∧ ∀ i k, k < i → i < l.length → atL l i ≠ atL l k ∧ (E (atL l i) (atL l k) ↔ i = k + 1 ∨ (k = 0 ∧ i + 1 = l.length))
/-- A way so far: only its ends may be neighbours besides. -/
structure Way (E : Nat → Nat → Prop) (L : Nat) (P : List Nat) : Prop where
  mem : ∀ x ∈ P, L.testBit x = true
  dif : ∀ i k, k < i → i < P.length → atL P i ≠ atL P k
  yes : ∀ k, k + 1 < P.length → E (atL P (k + 1)) (atL P k)
  no : ∀ i k, k + 1 < i → i < P.length → ¬ (k = 0 ∧ i + 1 = P.length) → ¬ E (atL P i) (atL P k)

theorem way_step {E : Nat → Nat → Prop} (hsym : ∀ a b, E a b → E b a) {L : Nat} (two : Two E L) {P : List Nat} {m v : Nat} (hP : P.length = m + 1) (h : Way E L P) (hv : L.testBit v = true) (hvP : v ∉ P) (he : E (atL P m) v) : Way E L (P ++ [v]) := by
  have old : ∀ {i}, i < m + 1 → atL (P ++ [v]) i = atL P i := fun {i} hi => atL_old (by omega)
  have new : atL (P ++ [v]) (m + 1) = v := by rw [← hP]; exact atL_new
  have inP : ∀ {i}, i < m + 1 → atL P i ∈ P := fun {i} hi => atL_mem (by omega)
  have inL : ∀ {i}, i < m + 1 → L.testBit (atL P i) = true := fun {i} hi => h.mem _ (inP hi)
  have ne : ∀ {i}, i < m + 1 → v ≠ atL P i := fun {i} hi e => hvP (e ▸ inP hi)
  have hl : (P ++ [v]).length = m + 2 := by rw [List.length_append, hP]; rfl
  refine ⟨fun x hx => ?_, fun i k hki hi => ?_, fun k hk => ?_, fun i k hki hi hno => ?_⟩
  · rcases List.mem_append.1 hx with h' | h'
    · exact h.mem x h'
    · rw [List.mem_singleton.1 h']; exact hv
  · rw [hl] at hi
    rcases Nat.lt_or_ge i (m + 1) with h1 | h1
    · rw [old h1, old (by omega)]; exact h.dif i k hki (by omega)
    · obtain rfl : i = m + 1 := by omega
      rw [new, old (by omega)]; exact ne (by omega)
  · rw [hl] at hk
    rcases Nat.lt_or_ge k m with h1 | h1
    · rw [old (by omega), old (by omega)]; exact h.yes k (by omega)
    · obtain rfl : k = m := by omega
      rw [new, old (by omega)]; exact hsym _ _ he
  · rw [hl] at hi hno
    rcases Nat.lt_or_ge i (m + 1) with h1 | h1
    · rw [old h1, old (by omega)]
      by_cases hend : k = 0 ∧ i + 1 = P.length
      · obtain ⟨rfl, hi2⟩ := hend
        obtain rfl : i = m := by omega
        intro hE
        obtain ⟨j, rfl⟩ : ∃ j, i = j + 1 := ⟨i - 1, by omega⟩
        have hy := h.yes j (by omega)
        rcases ((two _ (inL h1)).2 _ _ (inL (show j < j + 1 + 1 by omega)) (inL (show 0 < j + 1 + 1 by omega)) hy hE (h.dif j 0 (by omega) (by omega))).2 v hv he with e | e
        · exact ne (by omega) e
        · exact ne (by omega) e
      · exact h.no i k hki (by omega) hend
    · obtain rfl : i = m + 1 := by omega
      rw [new, old (by omega)]
      intro hE
      obtain ⟨j, rfl⟩ : ∃ j, k = j + 1 := ⟨k - 1, by omega⟩
      have h1 := hsym _ _ (h.yes (j + 1) (by omega))
      have h2 := h.yes j (by omega)
      rcases ((two _ (inL (show j + 1 < m + 1 by omega))).2 _ _ (inL (show j + 1 + 1 < m + 1 by omega)) (inL (show j < m + 1 by omega)) h1 h2 (h.dif _ _ (by omega) (by omega))).2 v hv (hsym _ _ hE) with e | e
      · exact ne (by omega) e
      · exact ne (by omega) e

theorem way_end {E : Nat → Nat → Prop} (hsym : ∀ a b, E a b → E b a) (hirr : ∀ a, ¬ E a a) {L : Nat} (two : Two E L) {P : List Nat} {m : Nat} (hP : P.length = m + 1) (h : Way E L P) (hend : ∀ v, L.testBit v = true → E (atL P m) v → v ∈ P) : RingL E P := by
  have inL : ∀ {i}, i < m + 1 → L.testBit (atL P i) = true := fun {i} hi => h.mem _ (atL_mem (by omega))
  obtain ⟨⟨x, y, hx, hy, hxy, hmx, hmy⟩, _⟩ := two _ (inL (show m < m + 1 by omega))
  have close : ∀ a, a < m + 1 → E (atL P m) (atL P a) → a + 1 = m ∨ (a = 0 ∧ 2 ≤ m) := by
    intro a ha hE
    have : a ≠ m := fun e => hirr _ (e ▸ hE)
    by_cases h1 : a + 1 = m
    · exact .inl h1
    · by_cases h2 : a = 0 ∧ m + 1 = P.length
      · exact .inr ⟨h2.1, by omega⟩
      · exact absurd hE (h.no m a (by omega) (by omega) h2)
  obtain ⟨a, ha, hax⟩ := mem_atL (hend x hx hmx)
  obtain ⟨b, hb, hby⟩ := mem_atL (hend y hy hmy)
  rw [← hax] at hmx
  rw [← hby] at hmy
  have hab : a ≠ b := fun e => hxy (by rw [← hax, ← hby, e])
  have h0 : E (atL P m) (atL P 0) ∧ 2 ≤ m := by
    rcases close a (by omega) hmx with h1 | ⟨rfl, h1⟩
    · rcases close b (by omega) hmy with h2 | ⟨rfl, h2⟩
      · omega
      · exact ⟨hmy, h2⟩
    · exact ⟨hmx, h1⟩
  have h3 : 3 ≤ m := by
    rcases Nat.lt_or_ge m 3 with hlt | hge
    · obtain rfl : m = 2 := by omega
      exact absurd (hsym _ _ h0.1) ((two _ (inL (show 1 < 3 by omega))).2 _ _ (inL (show 0 < 3 by omega)) (inL (show 2 < 3 by omega)) (h.yes 0 (by omega)) (hsym _ _ (h.yes 1 (by omega))) fun e => h.dif 2 0 (by omega) (by omega) e.symm).1
    · exact hge
  refine ⟨by omega, fun i k hki hi => ⟨h.dif i k hki hi, fun hE => ?_, fun hE => ?_⟩⟩
  · by_cases h1 : i = k + 1
    · exact .inl h1
    · by_cases h2 : k = 0 ∧ i + 1 = P.length
      · exact .inr h2
      · exact absurd hE (h.no i k (by omega) hi h2)
  · rcases hE with rfl | ⟨rfl, h1⟩
    · exact h.yes k hi
    · obtain rfl : i = m := by omega
      exact h0.1

/-- From a way on, the walk makes a ring. -/
theorem around_from {n : Nat} {gs : List Nat} {es : List (Int × Int)} (h : Adj n gs es) (hn : n ≤ 12) {L : Nat} (hL : L < 2 ^ n) (two : Two (fun a b : Nat => nearB es a b = true) L) : ∀ (f R m : Nat) (P : List Nat), P.length = m + 1 → Way (fun a b : Nat => nearB es a b = true) L P → (∀ b, R.testBit b = true ↔ L.testBit b = true ∧ b ∉ P) → R < f →
    RingL (fun a b : Nat => nearB es a b = true) (P ++ aroundN gs f R ((gs[atL P m]?.getD 0) &&& R)) ∧ ∀ x ∈ P ++ aroundN gs f R ((gs[atL P m]?.getD 0) &&& R), x < n
  | 0, R, m, P, _, _, _, hf => by omega
  | f + 1, R, m, P, hP, hw, hR, hf => by
    have hsym : ∀ a b : Nat, nearB es a b = true → nearB es b a = true := fun a b hab => by rw [nearB_comm]; exact hab
    have hirr : ∀ a : Nat, ¬ nearB es a a = true := fun a => by rw [nearB_self]; simp
    have inP : atL P m ∈ P := atL_mem (by omega)
    have hmn : atL P m < n := bit_lt hL (hw.mem _ inP)
    have hRL : Sub R L := fun b hb => ((hR b).1 hb).1
    have hR2 : R < 2 ^ n := Nat.lt_of_le_of_lt hRL.le hL
    have h16 : 2 ^ n ≤ 65536 := Nat.le_trans (Nat.pow_le_pow_right (by omega) hn) (by decide)
    have bit : ∀ b, ((gs[atL P m]?.getD 0) &&& R).testBit b = true ↔ nearB es (atL P m) b = true ∧ L.testBit b = true ∧ b ∉ P := by
      intro b
      rw [Nat.testBit_and, Bool.and_eq_true, h.bit _ b hmn, hR]
      constructor
      · rintro ⟨h1, h2⟩
        refine ⟨?_, h2⟩
        rw [Bool.or_eq_true, decide_eq_true_iff] at h1
        exact h1.resolve_left fun e => h2.2 (e ▸ inP)
      · rintro ⟨h1, h2⟩
        exact ⟨by rw [h1, Bool.or_true], h2⟩
    obtain ⟨nx, hnx⟩ : ∃ nx, (gs[atL P m]?.getD 0) &&& R = nx := ⟨_, rfl⟩
    rw [hnx] at bit ⊢
    have hnx2 : nx < 65536 := by rw [← hnx]; exact Nat.lt_of_le_of_lt Nat.and_le_right (by omega)
    by_cases h0 : nx = 0
    · rw [aroundN, if_pos h0, List.append_nil]
      refine ⟨way_end (E := fun a b : Nat => nearB es a b = true) hsym hirr two hP hw fun v hv hE => Classical.byContradiction fun hvP => not_zero ((bit v).2 ⟨hE, hv, hvP⟩) h0, fun x hx => bit_lt hL (hw.mem x hx)⟩
    · rw [aroundN, if_neg h0]
      obtain ⟨hb, _⟩ := tzN_bit hnx2 h0
      obtain ⟨v, hv⟩ : ∃ v, tzN nx = v := ⟨_, rfl⟩
      rw [hv] at hb ⊢
      have hb' := (bit v).1 hb
      have hvn : v < n := bit_lt hL hb'.2.1
      have hvR : R.testBit v = true := (hR v).2 hb'.2
      have hlt := less_without (v := v) (by omega) hvR
      have := around_from h hn hL two f (R &&& (65535 - 2 ^ v)) (m + 1) (P ++ [v]) (by rw [List.length_append, hP]; rfl) (way_step (E := fun a b : Nat => nearB es a b = true) hsym two hP hw hb'.2.1 hb'.2.2 hb'.1) (fun b => by
        rw [without_bit (by omega) (by omega), Bool.and_eq_true, hR, List.mem_append, List.mem_singleton]
        simp only [Bool.not_eq_true', decide_eq_false_iff_not]
        constructor
        · rintro ⟨⟨h1, h2⟩, h3⟩; exact ⟨h1, fun h => h.elim h2 fun e => h3 e.symm⟩
        · rintro ⟨h1, h2⟩; exact ⟨⟨h1, fun h => h2 (.inl h)⟩, fun e => h2 (.inr e.symm)⟩) (by omega)
      rw [show atL (P ++ [v]) (m + 1) = v by rw [← hP]; exact atL_new, List.append_assoc, List.singleton_append] at this
      exact this
theorem around_ring {n : Nat} {gs : List Nat} {es : List (Int × Int)} (h : Adj n gs es) (hn : n ≤ 12) {L f : Nat} (hL : L < 2 ^ n) (h0 : L ≠ 0) (two : Two (fun a b : Nat => nearB es a b = true) L) (hf : L < f) :
    RingL (fun a b : Nat => nearB es a b = true) (aroundN gs f L L) ∧ ∀ x ∈ aroundN gs f L L, x < n := by
  obtain ⟨f, rfl⟩ : ∃ k, f = k + 1 := ⟨f - 1, by omega⟩
  have h16 : 2 ^ n ≤ 65536 := Nat.le_trans (Nat.pow_le_pow_right (by omega) hn) (by decide)
  rw [aroundN, if_neg h0]
  obtain ⟨hb, _⟩ := tzN_bit (by omega) h0
  obtain ⟨v, hv⟩ : ∃ v, tzN L = v := ⟨_, rfl⟩
  rw [hv] at hb ⊢
  have hvn : v < n := bit_lt hL hb
  have hlt := less_without (v := v) (by omega) hb
  exact around_from h hn hL two f (L &&& (65535 - 2 ^ v)) 0 [v] rfl ⟨fun x hx => by rw [List.mem_singleton.1 hx]; exact hb, fun i k h1 h2 => by simp at h2; omega, fun k hk => by simp at hk, fun i k h1 h2 => by simp at h2; omega⟩ (fun b => by
    rw [without_bit (by omega) (by omega), Bool.and_eq_true, List.mem_singleton]
    simp only [Bool.not_eq_true', decide_eq_false_iff_not]
    exact ⟨fun ⟨h1, h2⟩ => ⟨h1, fun e => h2 e.symm⟩, fun ⟨h1, h2⟩ => ⟨h1, fun e => h2 e.symm⟩⟩) (by omega)
theorem ringR_of {es : List (Int × Int)} {l : List Nat} (h : RingL (fun a b : Nat => nearB es a b = true) l) : ringR es (l.map fun (x : Nat) => (x : Int)) = true := by
  have get : ∀ i, i < l.length → (l.map fun (x : Nat) => (x : Int))[i]?.getD 0 = ((atL l i : Nat) : Int) := fun i hi => by
    rw [atL, List.getElem?_map, List.getElem?_eq_getElem hi]; rfl
  rw [ringR, List.length_map, decide_eq_true h.1, Bool.true_and, List.all_eq_true]
  intro i hi
  rw [List.mem_range] at hi
  rw [List.all_eq_true]
  intro k hk
  rw [List.mem_range] at hk
  obtain ⟨h1, h2⟩ := h.2 i k hk hi
  rw [ringRAt, get i hi, get k (by omega), List.length_map, Bool.and_eq_true]
  refine ⟨by rw [Bool.not_eq_true', beq_eq_false_iff_ne]; omega, ?_⟩
  rw [beq_iff_eq, Bool.eq_iff_iff, nextR]
  simp only [] at h2
  rw [h2]
  simp

end Go.Proofs.Yticafbfijpjbnaa
