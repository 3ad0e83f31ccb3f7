/-
  The least set that is not chordal, which 'ring' keeps, pure; what 'Ring' hands back is a ring; the order of a chordal graph is an elimination order.
-/
import Derived.Test.YticafbfijpjbnaaWd
namespace Go.Proofs.Yticafbfijpjbnaa

def nearE (es : List (Int × Int)) : Nat → Nat → Prop := fun a b => nearB es (a : Int) (b : Int) = true
theorem nearE_sym (es : List (Int × Int)) : ∀ a b, nearE es a b → nearE es b a := fun a b h => by unfold nearE; rw [nearB_comm]; exact h
theorem nearE_irr (es : List (Int × Int)) : ∀ a, ¬ nearE es a a := fun a => by unfold nearE; rw [nearB_self]; simp
theorem elimAt_iff {n : Nat} {gs : List Nat} {es : List (Int × Int)} (h : Adj n gs es) (hn : n ≤ 12) {T v : Nat} (hT : T < 2 ^ n) : elimAt gs T v = true ↔ Simp (nearE es) T v := by
  rw [elimAt, Bool.and_eq_true, Simp]
  refine and_congr_right fun hv => ?_
  have hvn : v < n := bit_lt hT hv
  rw [cliqueB_iff h hn (by rw [Nat.and_comm]; exact and_lt_pow hT)]
  have bit : ∀ b, (gs[v]?.getD 0 &&& T).testBit b = true ↔ (v = b ∨ nearE es v b) ∧ T.testBit b = true := fun b => by
    rw [Nat.testBit_and, Bool.and_eq_true, h.bit v b hvn, Bool.or_eq_true, decide_eq_true_iff]; rfl
  constructor
  · exact fun h1 a b ha hb h2 h3 hab => h1 a b ((bit a).2 ⟨.inr h2, ha⟩) ((bit b).2 ⟨.inr h3, hb⟩) hab
  · intro h1 a b ha hb hab
    obtain ⟨ha1, ha2⟩ := (bit a).1 ha
    obtain ⟨hb1, hb2⟩ := (bit b).1 hb
    rcases ha1 with rfl | ha1
    · rcases hb1 with rfl | hb1
      · exact absurd rfl hab
      · exact hb1
    · rcases hb1 with rfl | hb1
      · exact nearE_sym es _ _ ha1
      · exact h1 a b ha2 hb2 ha1 hb1 hab
theorem elimOf_iff {n : Nat} {gs : List Nat} {es : List (Int × Int)} (h : Adj n gs es) (hn : n ≤ 12) {T : Nat} (hT : T < 2 ^ n) : elimOf gs T ≠ none ↔ ∃ v, Simp (nearE es) T v := by
  constructor
  · intro hne
    obtain ⟨v, hv⟩ := Option.ne_none_iff_exists'.1 hne
    exact ⟨v, (elimAt_iff h hn hT).1 (elimOf_at hv)⟩
  · rintro ⟨v, hv⟩ e
    have := elimOf_none h e (bit_lt hT hv.1)
    rw [(elimAt_iff h hn hT).2 hv] at this
    cases this
theorem filter_more (s n : Nat) (hs : s < 2 ^ n) : ∀ m, ((List.range (n + m)).filter fun i => s.testBit i).length = ((List.range n).filter fun i => s.testBit i).length
  | 0 => rfl
  | m + 1 => by
    have h0 : s.testBit (n + m) = false := Nat.testBit_lt_two_pow (Nat.lt_of_lt_of_le hs (Nat.pow_le_pow_right (by omega) (by omega)))
    rw [show n + (m + 1) = (n + m) + 1 by omega, List.range_succ, List.filter_append, List.length_append, filter_more s n hs m]
    simp [h0]
theorem cnt_bits {s n : Nat} (hs : s < 2 ^ n) (hn : n ≤ 16) : cntN s = (bitsN s n).length := by
  have := filter_more s n hs (16 - n)
  rw [show n + (16 - n) = 16 by omega] at this
  exact this
/-- Is a set chordal, as the program counts. -/
def chdB (gs : List Nat) (s : Nat) : Bool := decide ((elimAll gs (s + 1) s).length = cntN s)
theorem chdB_iff {n : Nat} {gs : List Nat} {es : List (Int × Int)} (h : Adj n gs es) (hn : n ≤ 12) {s : Nat} (hs : s < 2 ^ n) : chdB gs s = true ↔ Chd (nearE es) n s := by
  rw [chdB, decide_eq_true_iff, cnt_bits hs (by omega), chordal_iff h hn hs (Nat.lt_succ_self s)]
  exact ⟨fun k T hT h0 hsub => (elimOf_iff h hn hT).1 (k T hT h0 hsub), fun k T hT h0 hsub => (elimOf_iff h hn hT).2 (k T hT h0 hsub)⟩
/-- What 'ring' leaves out. -/
def dropB (gs : List Nat) (L v : Nat) : Nat := if chdB gs (L &&& (65535 - 2 ^ v)) = true then L else L &&& (65535 - 2 ^ v)
def ringTo (gs : List Nat) (F k : Nat) : Nat := (List.range k).foldl (dropB gs) F
theorem ringTo_succ (gs : List Nat) (F k : Nat) : ringTo gs F (k + 1) = dropB gs (ringTo gs F k) k := by rw [ringTo, List.range_succ, List.foldl_append]; rfl
theorem dropB_le (gs : List Nat) (L v : Nat) : dropB gs L v ≤ L := by
  unfold dropB
  split
  · exact Nat.le_refl _
  · exact Nat.and_le_left
theorem ringTo_le (gs : List Nat) (F : Nat) : ∀ k, ringTo gs F k ≤ F
  | 0 => Nat.le_refl _
  | k + 1 => by rw [ringTo_succ]; exact Nat.le_trans (dropB_le _ _ _) (ringTo_le gs F k)
theorem ring_inv {n : Nat} {gs : List Nat} {es : List (Int × Int)} (h : Adj n gs es) (hn : n ≤ 12) {F : Nat} (hF : F < 2 ^ n) (hno : ¬ Chd (nearE es) n F) : ∀ k, k ≤ n → ¬ Chd (nearE es) n (ringTo gs F k) ∧ ∀ v, v < k → (ringTo gs F k).testBit v = true → Chd (nearE es) n (ringTo gs F k &&& (65535 - 2 ^ v))
  | 0, _ => ⟨hno, fun v hv => by omega⟩
  | k + 1, hk => by
    obtain ⟨h1, h2⟩ := ring_inv h hn hF hno k (by omega)
    have hlt : ringTo gs F k < 2 ^ n := Nat.lt_of_le_of_lt (ringTo_le gs F k) hF
    have h16 : 2 ^ n ≤ 65536 := Nat.le_trans (Nat.pow_le_pow_right (by omega) hn) (by decide)
    rw [ringTo_succ]
    obtain ⟨L, hL⟩ : ∃ L, ringTo gs F k = L := ⟨_, rfl⟩
    rw [hL] at h1 h2 hlt ⊢
    have hiff := chdB_iff h hn (s := L &&& (65535 - 2 ^ k)) (Nat.lt_of_le_of_lt Nat.and_le_left hlt)
    unfold dropB
    by_cases hc : chdB gs (L &&& (65535 - 2 ^ k)) = true
    · rw [if_pos hc]
      refine ⟨h1, fun v hv hvL => ?_⟩
      rcases Nat.lt_or_ge v k with h' | h'
      · exact h2 v h' hvL
      · obtain rfl : v = k := by omega
        exact hiff.1 hc
    · rw [if_neg hc]
      refine ⟨fun k' => hc (hiff.2 k'), fun v hv hvL => ?_⟩
      rw [without_bit (by omega) (by omega), Bool.and_eq_true] at hvL
      have hvk : v ≠ k := fun e => by subst e; simp at hvL
      refine (h2 v (by omega) hvL.1).sub fun b hb => ?_
      have hlt2 : L &&& (65535 - 2 ^ k) < 65536 := Nat.lt_of_le_of_lt Nat.and_le_left (by omega)
      rw [without_bit (by omega) hlt2, without_bit (by omega) (by omega), Bool.and_eq_true, Bool.and_eq_true] at hb
      rw [without_bit (by omega) (by omega), Bool.and_eq_true]
      exact ⟨hb.1.1, hb.2⟩
theorem ring_two {n : Nat} {gs : List Nat} {es : List (Int × Int)} (h : Adj n gs es) (hn : n ≤ 12) {F : Nat} (hF : F < 2 ^ n) (hno : ¬ Chd (nearE es) n F) : ringTo gs F n < 2 ^ n ∧ ringTo gs F n ≠ 0 ∧ Two (nearE es) (ringTo gs F n) := by
  obtain ⟨h1, h2⟩ := ring_inv h hn hF hno n (Nat.le_refl _)
  have hlt : ringTo gs F n < 2 ^ n := Nat.lt_of_le_of_lt (ringTo_le gs F n) hF
  have h16 : 2 ^ n ≤ 65536 := Nat.le_trans (Nat.pow_le_pow_right (by omega) hn) (by decide)
  obtain ⟨L, hL⟩ : ∃ L, ringTo gs F n = L := ⟨_, rfl⟩
  rw [hL] at h1 h2 hlt ⊢
  have hmin : ∀ T, T < 2 ^ n → Sub T L → T ≠ L → Chd (nearE es) n T := by
    intro T hT hsub hne
    have : ∃ v, L.testBit v = true ∧ ¬ T.testBit v = true := by
      refine Classical.byContradiction fun hno => hne (Nat.eq_of_testBit_eq fun b => ?_)
      rw [Bool.eq_iff_iff]
      exact ⟨hsub b, fun hb => Classical.byContradiction fun hx => hno ⟨b, hb, hx⟩⟩
    obtain ⟨v, hv, hvT⟩ := this
    refine (h2 v (bit_lt hlt hv) hv).sub fun b hb => ?_
    have hvn := bit_lt hlt hv
    rw [without_bit (by omega) (by omega), hsub b hb]
    have : v ≠ b := fun e => hvT (e ▸ hb)
    simpa using this
  have hst : ∀ v, ¬ Simp (nearE es) L v := by
    intro v hv
    refine h1 fun T hT h0 hsub => ?_
    by_cases e : T = L
    · subst e; exact ⟨v, hv⟩
    · exact hmin T hT hsub e T hT h0 (Sub.refl T)
  refine ⟨hlt, fun e => h1 fun T hT h0 hsub => ?_, two_from (nearE_sym es) fun v hv => two_near (nearE_sym es) (nearE_irr es) hlt hst hmin hv⟩
  subst e
  obtain ⟨b, hb⟩ := some_bit h0
  have := hsub b hb
  rw [Nat.zero_testBit] at this; cases this
/-- What 'Ring' hands back. -/
def ringOf (n : Nat) (gs : List Nat) : List Nat := aroundN gs (ringTo gs (2 ^ n - 1) n + 1) (ringTo gs (2 ^ n - 1) n) (ringTo gs (2 ^ n - 1) n)
theorem full_lt (n : Nat) : 2 ^ n - 1 < 2 ^ n := Nat.sub_lt (Nat.pow_pos (by omega)) (by omega)
theorem ringL_len {E : Nat → Nat → Prop} {l : List Nat} {n : Nat} (h : RingL E l) (hlt : ∀ x ∈ l, x < n) : l.length ≤ n := by
  have hnd : l.Nodup := by
    rw [List.Nodup, List.pairwise_iff_getElem]
    intro i j hi hj hij
    have := (h.2 j i hij hj).1
    rw [atL, atL, List.getElem?_eq_getElem hi, List.getElem?_eq_getElem hj] at this
    exact fun e => this e.symm
  have := List.Nodup.length_le_of_subset hnd (l₂ := List.range n) fun x hx => List.mem_range.2 (hlt x hx)
  simpa using this
theorem ringOf_good {n : Nat} {gs : List Nat} {es : List (Int × Int)} (h : Adj n gs es) (hn : n ≤ 12) (hno : chdB gs (2 ^ n - 1) = false) : ringR es ((ringOf n gs).map fun (x : Nat) => (x : Int)) = true ∧ (∀ x ∈ ringOf n gs, x < n) ∧ (ringOf n gs).length ≤ n := by
  have hno' : ¬ Chd (nearE es) n (2 ^ n - 1) := fun k => by
    rw [(chdB_iff h hn (full_lt n)).2 k] at hno; cases hno
  obtain ⟨h1, h2, h3⟩ := ring_two h hn (full_lt n) hno'
  obtain ⟨k1, k2⟩ := around_ring h hn h1 h2 h3 (Nat.lt_succ_self _)
  exact ⟨ringR_of k1, k2, ringL_len k1 k2⟩
theorem aroundN_len (gs : List Nat) : ∀ (f R nx : Nat), (aroundN gs f R nx).length ≤ f
  | 0, _, _ => Nat.le_refl _
  | f + 1, R, nx => by
    rw [aroundN]
    split
    · simp
    · rw [List.length_cons]; have := aroundN_len gs f (R &&& (65535 - 2 ^ tzN nx)) ((gs[tzN nx]?.getD 0) &&& (R &&& (65535 - 2 ^ tzN nx))); omega
theorem full_bitsN (n : Nat) : bitsN (2 ^ n - 1) n = List.range n := by
  rw [bitsN, List.filter_eq_self]
  intro b hb
  rw [full_bits, decide_eq_true_iff]
  exact List.mem_range.1 hb
theorem chord_chdB {n : Nat} {gs : List Nat} {es : List (Int × Int)} (h : Adj n gs es) (hn : n ≤ 12) : chordR es n = chdB gs (2 ^ n - 1) := by
  rw [chord_same h hn, chdB, cnt_bits (full_lt n) (by omega), full_bitsN, List.length_range, ordN]
/-- The order is made of nodes that are left, each once, and each can be eliminated in its turn. -/
theorem elimAll_order {n : Nat} {gs : List Nat} {es : List (Int × Int)} (h : Adj n gs es) (hn : n ≤ 12) : ∀ (f s : Nat), s < 2 ^ n → (elimAll gs f s).Nodup ∧ (∀ x ∈ elimAll gs f s, s.testBit x = true) ∧ elimFrom gs s (elimAll gs f s) = true
  | 0, s, _ => ⟨List.nodup_nil, fun x hx => by simp [elimAll] at hx, rfl⟩
  | f + 1, s, hs => by
    rw [elimAll]
    cases he : elimOf gs s with
    | none => exact ⟨List.nodup_nil, fun x hx => by simp at hx, rfl⟩
    | some v =>
      have hv := elimOf_some he
      rw [h.len] at hv
      have hat := elimOf_at he
      rw [elimAt, Bool.and_eq_true] at hat
      have h16 : 2 ^ n ≤ 65536 := Nat.le_trans (Nat.pow_le_pow_right (by omega) hn) (by decide)
      obtain ⟨h1, h2, h3⟩ := elimAll_order h hn f (s &&& (65535 - 2 ^ v)) (Nat.lt_of_le_of_lt Nat.and_le_left hs)
      have bit : ∀ x ∈ elimAll gs f (s &&& (65535 - 2 ^ v)), s.testBit x = true ∧ v ≠ x := fun x hx => by
        have := h2 x hx
        rw [without_bit (by omega) (by omega), Bool.and_eq_true] at this
        exact ⟨this.1, by simpa using this.2⟩
      refine ⟨List.nodup_cons.2 ⟨fun hm => (bit v hm).2 rfl, h1⟩, fun x hx => ?_, ?_⟩
      · rcases List.mem_cons.1 hx with rfl | hx
        · exact hv.2
        · exact (bit x hx).1
      · rw [elimFrom, hat.2, h3]; rfl
theorem perm_nat {n : Nat} {O : List Nat} (hnd : O.Nodup) (hlt : ∀ x ∈ O, x < n) (hl : O.length = n) : permR (O.map fun (x : Nat) => (x : Int)) n = true := by
  have get : ∀ i (hi : i < O.length), (O.map fun (x : Nat) => (x : Int))[i]?.getD 0 = ((O[i] : Nat) : Int) := fun i hi => by
    rw [List.getElem?_map, List.getElem?_eq_getElem hi]; rfl
  simp only [permR, newR, inR, Bool.and_eq_true, List.all_eq_true, List.mem_range, decide_eq_true_eq, Bool.not_eq_true', beq_eq_false_iff_ne, List.length_map]
  refine ⟨fun i hi => ?_, by omega⟩
  have hx := hlt _ (List.getElem_mem hi)
  rw [get i hi]
  refine ⟨by omega, fun k hk => ?_⟩
  rw [get k (by omega)]
  intro e
  have := (List.getElem_inj (h₀ := show k < O.length by omega) (h₁ := hi) hnd).1 (by omega)
  omega
/-- The order of a chordal graph is a permutation, and an elimination order. -/
theorem order_good {n : Nat} {gs : List Nat} {es : List (Int × Int)} (h : Adj n gs es) (hn : n ≤ 12) (hc : (ordN n gs).length = n) : permR (ordI n gs) n = true ∧ elimR es (ordI n gs) = true := by
  obtain ⟨h1, h2, h3⟩ := elimAll_order h hn (2 ^ n - 1 + 1) (2 ^ n - 1) (full_lt n)
  have hlt : ∀ x ∈ ordN n gs, x < n := fun x hx => bit_lt (full_lt n) (h2 x hx)
  refine ⟨perm_nat h1 hlt hc, ?_⟩
  have := elim_same h hn (ordN n gs) (2 ^ n - 1) h1 hlt (full_lt n) fun b => by
    rw [full_bits, decide_eq_true_iff]
    refine ⟨fun hb => ?_, fun hb => hlt b hb⟩
    have hp := nodup_perm h1 (L := List.range n) (fun x hx => List.mem_range.2 (hlt x hx)) (by rw [List.length_range]; exact Nat.le_of_eq hc.symm)
    exact hp.mem_iff.2 (List.mem_range.2 hb)
  rw [← ordI] at this
  rw [← this]
  exact h3

end Go.Proofs.Yticafbfijpjbnaa
