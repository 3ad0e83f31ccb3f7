/-
  Chordal, pure: the reference eliminates what the program eliminates.
-/
import Derived.Test.YthlbedhjekbfpaaDoorUa
namespace Go.Proofs.YthlbedhjekbfpaaDoor
open Go.RowKit Go.Sort

theorem bitsR_le (s n : Nat) : (bitsR s n).length ≤ n := by
  rw [bitsR, List.length_map]
  exact Nat.le_trans (List.length_filter_le _ _) (by simp)
/-- The nodes of a set, as naturals. -/
def bitsN (s n : Nat) : List Nat := (List.range n).filter fun i => s.testBit i
theorem bitsR_N (s n : Nat) : bitsR s n = (bitsN s n).map fun (x : Nat) => (x : Int) := rfl
theorem bitsN_nodup (s n : Nat) : (bitsN s n).Nodup := List.nodup_range.sublist List.filter_sublist
theorem bitsR_get (s n i : Nat) (hi : i < (bitsN s n).length) : (bitsR s n)[i]?.getD 0 = (((bitsN s n)[i] : Nat) : Int) := by
  rw [bitsR_N, List.getElem?_map, List.getElem?_eq_getElem hi]; rfl
theorem find_at {p : Nat → Bool} (q : Nat → Bool) : ∀ (l : List Nat), (∀ (i : Nat) (h : i < l.length), q i = p l[i]) → (∀ i, (List.range l.length).find? q = some i → ∃ h : i < l.length, l.find? p = some l[i]) ∧ ((List.range l.length).find? q = none → l.find? p = none) := by
  intro l hq
  constructor
  · intro i h
    obtain ⟨h1, k, hk, e, h2⟩ := List.find?_eq_some_iff_getElem.1 h
    rw [List.length_range] at hk
    rw [List.getElem_range] at e
    subst e
    refine ⟨hk, List.find?_eq_some_iff_getElem.2 ⟨by rw [← hq k hk]; exact h1, k, hk, rfl, fun j hj => ?_⟩⟩
    have := h2 j hj
    rw [List.getElem_range, hq j (by omega)] at this
    exact this
  · intro h
    rw [List.find?_eq_none] at h ⊢
    intro x hx
    obtain ⟨i, hi, rfl⟩ := List.getElem_of_mem hx
    rw [← hq i hi]
    exact h i (List.mem_range.2 hi)
theorem clean_same {n : Nat} {gs : List Nat} {es : List (Int × Int)} (h : Adj n gs es) (hn : n ≤ 12) {s : Nat} (hs : s < 2 ^ n) {i : Nat} (hi : i < (bitsN s n).length) : cleanAt es (bitsR s n) i = cliqueB gs (gs[(bitsN s n)[i]]?.getD 0 &&& s) := by
  obtain ⟨v, hv⟩ : ∃ v, (bitsN s n)[i] = v := ⟨_, rfl⟩
  have hm : v ∈ bitsN s n := hv ▸ List.getElem_mem hi
  rw [bitsN, List.mem_filter, List.mem_range] at hm
  have hvn := hm.1
  rw [cleanAt, nearTo, List.take_length, bitsR_get s n i hi, hv, Bool.eq_iff_iff, cliqueB_iff h hn (by rw [Nat.and_comm]; exact and_lt_pow hs), cliqueR_mem ((bitsR_nodup s n).sublist List.filter_sublist)]
  have key : ∀ b : Nat, (gs[v]?.getD 0 &&& s).testBit b = true ↔ (v = b ∨ nearB es v b = true) ∧ s.testBit b = true := by
    intro b
    rw [Nat.testBit_and, h.bit v b hvn]
    simp [Bool.and_eq_true, Bool.or_eq_true]
  have hlt : ∀ b : Nat, s.testBit b = true → b < n := by
    intro b hb
    rcases Nat.lt_or_ge b n with h' | h'
    · exact h'
    · rw [Nat.testBit_lt_two_pow (Nat.lt_of_lt_of_le hs (Nat.pow_le_pow_right (by omega) h'))] at hb
      cases hb
  constructor
  · intro h1 a b ha hb hab
    obtain ⟨ha1, ha2⟩ := (key a).1 ha
    obtain ⟨hb1, hb2⟩ := (key b).1 hb
    rcases ha1 with rfl | ha1
    · rcases hb1 with rfl | hb1
      · exact absurd rfl hab
      · exact hb1
    · rcases hb1 with rfl | hb1
      · rw [nearB_comm]; exact ha1
      · exact h1 a (List.mem_filter.2 ⟨mem_bitsR.2 ⟨a, rfl, hlt a ha2, ha2⟩, ha1⟩) b (List.mem_filter.2 ⟨mem_bitsR.2 ⟨b, rfl, hlt b hb2, hb2⟩, hb1⟩) (by omega)
  · intro h1 a ha b hb hab
    obtain ⟨ha1, ha2⟩ := List.mem_filter.1 ha
    obtain ⟨hb1, hb2⟩ := List.mem_filter.1 hb
    obtain ⟨x, rfl, _, hx⟩ := mem_bitsR.1 ha1
    obtain ⟨y, rfl, _, hy⟩ := mem_bitsR.1 hb1
    exact h1 x y ((key x).2 ⟨.inr ha2, hx⟩) ((key y).2 ⟨.inr hb2, hy⟩) (by omega)
theorem elimOf_find {n : Nat} {gs : List Nat} {es : List (Int × Int)} (h : Adj n gs es) (s : Nat) : elimOf gs s = (bitsN s n).find? fun v => cliqueB gs (gs[v]?.getD 0 &&& s) := by
  rw [elimOf, bitsN, List.find?_filter, h.len]
  congr 1
  funext v
  rw [elimAt]
  simp
theorem at_same {n : Nat} {gs : List Nat} {es : List (Int × Int)} (h : Adj n gs es) (hn : n ≤ 12) {s : Nat} (hs : s < 2 ^ n) : (∀ i, atR es (bitsR s n) = some i → ∃ hi : i < (bitsN s n).length, elimOf gs s = some (bitsN s n)[i]) ∧ (atR es (bitsR s n) = none → elimOf gs s = none) := by
  rw [elimOf_find h, atR, show (bitsR s n).length = (bitsN s n).length by rw [bitsR_N, List.length_map]]
  exact find_at (cleanAt es (bitsR s n)) (bitsN s n) fun i hi => clean_same h hn hs hi
theorem filter_ne_at {l : List Nat} (hnd : l.Nodup) {i : Nat} (hi : i < l.length) : (l.filter fun x => decide (x ≠ l[i])) = l.take i ++ l.drop (i + 1) := by
  have e : l = l.take i ++ l[i] :: l.drop (i + 1) := by rw [← List.drop_eq_getElem_cons hi, List.take_append_drop]
  obtain ⟨x, hx⟩ : ∃ x, l[i] = x := ⟨_, rfl⟩
  rw [hx] at e ⊢
  obtain ⟨A, hA⟩ : ∃ A, l.take i = A := ⟨_, rfl⟩
  obtain ⟨B, hB⟩ : ∃ B, l.drop (i + 1) = B := ⟨_, rfl⟩
  rw [hA, hB] at e ⊢
  rw [e] at hnd ⊢
  rw [List.nodup_append] at hnd
  obtain ⟨_, h2, h3⟩ := hnd
  rw [List.filter_append, List.filter_cons, if_neg (by simp)]
  congr 1
  · rw [List.filter_eq_self]
    intro a ha
    exact decide_eq_true (h3 a ha x (by simp))
  · rw [List.filter_eq_self]
    intro a ha
    exact decide_eq_true fun e => (List.nodup_cons.1 h2).1 (e ▸ ha)
theorem without_same {s n i : Nat} (hn : n ≤ 12) (hi : i < (bitsN s n).length) : without (bitsR s n) i = bitsR (s &&& (65535 - 2 ^ (bitsN s n)[i])) n := by
  have hm : (bitsN s n)[i] ∈ bitsN s n := List.getElem_mem hi
  rw [without, bitsR_N, ← List.map_take, ← List.map_drop, ← List.map_append, ← filter_ne_at (bitsN_nodup s n) hi, bitsR_N]
  congr 1
  obtain ⟨v, hv⟩ : ∃ v, (bitsN s n)[i] = v := ⟨_, rfl⟩
  rw [hv] at hm ⊢
  rw [bitsN, List.mem_filter, List.mem_range] at hm
  have hp : 2 ^ v < 65536 := Nat.pow_lt_pow_right (m := v) (n := 16) (by omega) (by omega)
  rw [bitsN, List.filter_filter, bitsN]
  refine List.filter_congr fun b hb => ?_
  rw [List.mem_range] at hb
  rw [Nat.testBit_and, testBit_comp hp, Nat.testBit_two_pow]
  by_cases e : b = v
  · subst e; simp
  · have e2 : ¬ v = b := fun h => e h.symm
    simp [e, e2]; omega

theorem bit_lt {n s b : Nat} (hs : s < 2 ^ n) (hb : s.testBit b = true) : b < n := by
  rcases Nat.lt_or_ge b n with h' | h'
  · exact h'
  · rw [Nat.testBit_lt_two_pow (Nat.lt_of_lt_of_le hs (Nat.pow_le_pow_right (by omega) h'))] at hb; cases hb
/-- The reference's 'Chordal' from a set on. -/
theorem chord_from {n : Nat} {gs : List Nat} {es : List (Int × Int)} (h : Adj n gs es) (hn : n ≤ 12) : ∀ (q s f : Nat), s < 2 ^ n → (bitsN s n).length = q → s < f → chordL es q (bitsR s n) = decide ((elimAll gs f s).length = q)
  | 0, s, f, hs, hq, hf => by
    have e0 : elimOf gs s = none := by rw [elimOf_find h, List.length_eq_zero_iff.1 hq]; rfl
    obtain ⟨f, rfl⟩ : ∃ k, f = k + 1 := ⟨f - 1, by omega⟩
    rw [chordL, elimAll, e0]; rfl
  | q + 1, s, f, hs, hq, hf => by
    obtain ⟨f, rfl⟩ : ∃ k, f = k + 1 := ⟨f - 1, by omega⟩
    cases ha : atR es (bitsR s n) with
    | none =>
      rw [chordL_none ha, elimAll, (at_same h hn hs).2 ha]
      simp
    | some i =>
      obtain ⟨hi, he⟩ := (at_same h hn hs).1 i ha
      have hv := elimOf_some he
      have hl := less_without (v := (bitsN s n)[i]) (by have := hv.1; rw [h.len] at this; omega) hv.2
      rw [chordL_some ha, elimAll, he, without_same hn hi]
      have hw := congrArg List.length (without_same hn hi)
      rw [without_len _ _ (by rw [bitsR_N, List.length_map]; exact hi), bitsR_N, bitsR_N, List.length_map, List.length_map, hq] at hw
      rw [chord_from h hn q _ f (Nat.lt_trans hl hs) (by omega) (by omega)]
      simp
theorem chord_same {n : Nat} {gs : List Nat} {es : List (Int × Int)} (h : Adj n gs es) (hn : n ≤ 12) : chordR es n = decide ((ordN n gs).length = n) := by
  have e : bitsN (2 ^ n - 1) n = List.range n := by
    rw [bitsN, List.filter_eq_self]
    intro b hb
    rw [Nat.testBit_two_pow_sub_one]
    exact decide_eq_true (List.mem_range.1 hb)
  have := chord_from h hn n (2 ^ n - 1) (2 ^ n - 1 + 1) (Nat.sub_lt (Nat.pow_pos (by omega)) (by omega)) (by rw [e, List.length_range]) (by omega)
  rw [bitsR_N, e] at this
  rw [chordR, this, ordN]

end Go.Proofs.YthlbedhjekbfpaaDoor
