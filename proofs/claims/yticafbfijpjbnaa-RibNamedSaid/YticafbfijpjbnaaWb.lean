/-
  Sets that are stuck: no node of them can be eliminated. A set is chordal exactly if it contains none.
-/
import Derived.Test.YticafbfijpjbnaaUc
namespace Go.Proofs.Yticafbfijpjbnaa
open Go.RowKit Go.Sort

def Sub (T s : Nat) : Prop := ∀ b, T.testBit b = true → s.testBit b = true
theorem Sub.refl (s : Nat) : Sub s s := fun _ h => h
theorem Sub.trans {a b c : Nat} (h : Sub a b) (k : Sub b c) : Sub a c := fun x hx => k x (h x hx)
/-- What can be eliminated from a set can be eliminated from each of its parts. -/
theorem elim_sub {n : Nat} {gs : List Nat} {es : List (Int × Int)} (h : Adj n gs es) (hn : n ≤ 12) {s T v : Nat} (hs : s < 2 ^ n) (hT : T < 2 ^ n) (hsub : Sub T s) (hv : T.testBit v = true) (he : elimAt gs s v = true) : elimAt gs T v = true := by
  rw [elimAt, Bool.and_eq_true] at he ⊢
  refine ⟨hv, ?_⟩
  rw [cliqueB_iff h hn (by rw [Nat.and_comm]; exact and_lt_pow hT)]
  have h2 := he.2
  rw [cliqueB_iff h hn (by rw [Nat.and_comm]; exact and_lt_pow hs)] at h2
  have key : ∀ b, (gs[v]?.getD 0 &&& T).testBit b = true → (gs[v]?.getD 0 &&& s).testBit b = true := fun b hb => by
    rw [Nat.testBit_and, Bool.and_eq_true] at hb ⊢
    exact ⟨hb.1, hsub b hb.2⟩
  exact fun a b ha hb hab => h2 a b (key a ha) (key b hb) hab
theorem elimOf_at {gs : List Nat} {s v : Nat} (h : elimOf gs s = some v) : elimAt gs s v = true := List.find?_some h
theorem elimOf_none {n : Nat} {gs : List Nat} {es : List (Int × Int)} (h : Adj n gs es) {s : Nat} (hn : elimOf gs s = none) {v : Nat} (hv : v < n) : elimAt gs s v = false := by
  rw [elimOf, List.find?_eq_none] at hn
  have := hn v (List.mem_range.2 (by rw [h.len]; exact hv))
  simpa using this
theorem without_bit {s v b : Nat} (hv : v < 12) (hs : s < 65536) : (s &&& (65535 - 2 ^ v)).testBit b = (s.testBit b && !decide (v = b)) := by
  have hp : 2 ^ v < 65536 := Nat.pow_lt_pow_right (m := v) (n := 16) (by omega) (by omega)
  rw [Nat.testBit_and, testBit_comp hp, Nat.testBit_two_pow]
  cases hb : s.testBit b with
  | false => rfl
  | true =>
    have : b < 16 := by
      rcases Nat.lt_or_ge b 16 with h | h
      · exact h
      · rw [Nat.testBit_lt_two_pow (Nat.lt_of_lt_of_le hs (show 2 ^ 16 ≤ 2 ^ b from Nat.pow_le_pow_right (by omega) h))] at hb; cases hb
    simp [this]
/-- Of a set that contains a stuck one not all is eliminated. -/
theorem stuck_left {n : Nat} {gs : List Nat} {es : List (Int × Int)} (h : Adj n gs es) (hn : n ≤ 12) {T : Nat} (hT : T < 2 ^ n) (hst : elimOf gs T = none) : ∀ (f s : Nat), s < 2 ^ n → Sub T s → ∃ r, (elimAll gs f s).length + (bitsN r n).length ≤ (bitsN s n).length ∧ r < 2 ^ n ∧ Sub T r
  | 0, s, hs, hsub => ⟨s, by simp [elimAll], hs, hsub⟩
  | f + 1, s, hs, hsub => by
    rw [elimAll]
    cases he : elimOf gs s with
    | none => exact ⟨s, by simp, hs, hsub⟩
    | some v =>
      have hv := elimOf_some he
      rw [h.len] at hv
      have hTv : T.testBit v = false := by
        rw [Bool.eq_false_iff]
        intro hb
        have := elim_sub h hn hs hT hsub hb (elimOf_at he)
        rw [elimOf_none h hst hv.1] at this
        cases this
      have hs16 : s < 65536 := Nat.lt_of_lt_of_le hs (Nat.le_trans (Nat.pow_le_pow_right (by omega) hn) (by decide))
      obtain ⟨r, hr, hr2, hr3⟩ := stuck_left h hn hT hst f (s &&& (65535 - 2 ^ v)) (Nat.lt_of_le_of_lt Nat.and_le_left hs) fun b hb => by
        rw [without_bit (by omega) hs16, hsub b hb]
        have : ¬ v = b := fun e => by subst e; rw [hTv] at hb; cases hb
        simpa using this
      refine ⟨r, ?_, hr2, hr3⟩
      have hm : v ∈ bitsN s n := List.mem_filter.2 ⟨List.mem_range.2 hv.1, hv.2⟩
      obtain ⟨i, hi, e⟩ := List.getElem_of_mem hm
      have hw := congrArg List.length (without_same hn hi)
      rw [without_len _ _ (by rw [bitsR_N, List.length_map]; exact hi), bitsR_N, bitsR_N, List.length_map, List.length_map, e] at hw
      rw [List.length_cons]
      omega
theorem bits_pos {s n : Nat} (hs : s < 2 ^ n) (h0 : s ≠ 0) : 1 ≤ (bitsN s n).length := by
  refine List.length_pos_iff.2 fun e => h0 (Nat.eq_of_testBit_eq fun b => ?_)
  rw [Nat.zero_testBit, Bool.eq_false_iff]
  intro hb
  have : b ∈ bitsN s n := List.mem_filter.2 ⟨List.mem_range.2 (bit_lt hs hb), hb⟩
  rw [e] at this; simp at this
/-- A set is chordal exactly if no part of it is stuck. -/
theorem chordal_iff {n : Nat} {gs : List Nat} {es : List (Int × Int)} (h : Adj n gs es) (hn : n ≤ 12) {s f : Nat} (hs : s < 2 ^ n) (hf : s < f) : (elimAll gs f s).length = (bitsN s n).length ↔ ∀ T, T < 2 ^ n → T ≠ 0 → Sub T s → elimOf gs T ≠ none := by
  constructor
  · intro he T hT h0 hsub hst
    obtain ⟨r, hr, hr2, hr3⟩ := stuck_left h hn hT hst f s hs hsub
    have : r ≠ 0 := fun e => by
      subst e
      refine h0 (Nat.eq_of_testBit_eq fun b => ?_)
      rw [Nat.zero_testBit, Bool.eq_false_iff]
      intro hb
      have := hr3 b hb
      rw [Nat.zero_testBit] at this; cases this
    have := bits_pos hr2 this
    omega
  · intro hall
    have key : ∀ (f s : Nat), s < 2 ^ n → s < f → (∀ T, T < 2 ^ n → T ≠ 0 → Sub T s → elimOf gs T ≠ none) → (elimAll gs f s).length = (bitsN s n).length := by
      intro f
      induction f with
      | zero => intro s _ hf; omega
      | succ f ih =>
        intro s hs hf hall
        rw [elimAll]
        cases he : elimOf gs s with
        | none =>
          by_cases h0 : s = 0
          · subst h0
            have e0 : bitsN 0 n = [] := List.filter_eq_nil_iff.2 (by simp)
            rw [e0]
          · exact absurd he (hall s hs h0 (Sub.refl s))
        | some v =>
          have hv := elimOf_some he
          rw [h.len] at hv
          have hl := less_without (v := v) (by omega) hv.2
          have hs16 : s < 65536 := Nat.lt_of_lt_of_le hs (Nat.le_trans (Nat.pow_le_pow_right (by omega) hn) (by decide))
          have := ih (s &&& (65535 - 2 ^ v)) (Nat.lt_trans hl hs) (by omega) fun T hT h0 hsub => hall T hT h0 fun b hb => by
            have := hsub b hb
            rw [without_bit (by omega) hs16, Bool.and_eq_true] at this
            exact this.1
          have hm : v ∈ bitsN s n := List.mem_filter.2 ⟨List.mem_range.2 hv.1, hv.2⟩
          obtain ⟨i, hi, e⟩ := List.getElem_of_mem hm
          have hw := congrArg List.length (without_same hn hi)
          rw [without_len _ _ (by rw [bitsR_N, List.length_map]; exact hi), bitsR_N, bitsR_N, List.length_map, List.length_map, e] at hw
          rw [List.length_cons, this]
          have : 1 ≤ (bitsN s n).length := List.length_pos_iff.2 (List.ne_nil_of_mem hm)
          omega
    exact key f s hs hf hall

end Go.Proofs.Yticafbfijpjbnaa
