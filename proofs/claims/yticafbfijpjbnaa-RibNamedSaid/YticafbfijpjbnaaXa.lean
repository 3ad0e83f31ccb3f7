/-
  Rows of cliques, pure: the search that 'after' makes; of an interval graph it finds a row; a chordal graph has at most as many maximal cliques as nodes.
-/
import Derived.Test.YticafbfijpjbnaaWf
namespace Go.Proofs.Yticafbfijpjbnaa

def atC (cs : List Nat) (i : Nat) : Nat := cs[i]?.getD 0
/-- What the cliques that a set names, and the others, contain together, up to the j-th one. -/
def befN (cs : List Nat) (S : Nat) : Nat → Nat
  | 0 => 0
  | j + 1 => if S.testBit j = true then befN cs S j ||| atC cs j else befN cs S j
def aftN (cs : List Nat) (S : Nat) : Nat → Nat
  | 0 => 0
  | j + 1 => if S.testBit j = true then aftN cs S j else aftN cs S j ||| atC cs j
def waitN (cs : List Nat) (S : Nat) : Nat := befN cs S cs.length &&& aftN cs S cs.length
theorem befN_bit (cs : List Nat) (S v : Nat) : ∀ j, (befN cs S j).testBit v = true ↔ ∃ i, i < j ∧ S.testBit i = true ∧ (atC cs i).testBit v = true
  | 0 => by simp [befN]
  | j + 1 => by
    rw [befN]
    by_cases hj : S.testBit j = true
    · rw [if_pos hj, Nat.testBit_or, Bool.or_eq_true, befN_bit cs S v j]
      constructor
      · rintro (⟨i, h1, h2, h3⟩ | h)
        · exact ⟨i, by omega, h2, h3⟩
        · exact ⟨j, by omega, hj, h⟩
      · rintro ⟨i, h1, h2, h3⟩
        by_cases e : i = j
        · subst e; exact .inr h3
        · exact .inl ⟨i, by omega, h2, h3⟩
    · rw [if_neg hj, befN_bit cs S v j]
      constructor
      · rintro ⟨i, h1, h2, h3⟩; exact ⟨i, by omega, h2, h3⟩
      · rintro ⟨i, h1, h2, h3⟩
        have : i ≠ j := fun e => hj (e ▸ h2)
        exact ⟨i, by omega, h2, h3⟩
theorem aftN_bit (cs : List Nat) (S v : Nat) : ∀ j, (aftN cs S j).testBit v = true ↔ ∃ i, i < j ∧ S.testBit i = false ∧ (atC cs i).testBit v = true
  | 0 => by simp [aftN]
  | j + 1 => by
    rw [aftN]
    by_cases hj : S.testBit j = true
    · rw [if_pos hj, aftN_bit cs S v j]
      constructor
      · rintro ⟨i, h1, h2, h3⟩; exact ⟨i, by omega, h2, h3⟩
      · rintro ⟨i, h1, h2, h3⟩
        have : i ≠ j := fun e => by subst e; rw [hj] at h2; cases h2
        exact ⟨i, by omega, h2, h3⟩
    · rw [if_neg hj, Nat.testBit_or, Bool.or_eq_true, aftN_bit cs S v j]
      constructor
      · rintro (⟨i, h1, h2, h3⟩ | h)
        · exact ⟨i, by omega, h2, h3⟩
        · exact ⟨j, by omega, by simpa using hj, h⟩
      · rintro ⟨i, h1, h2, h3⟩
        by_cases e : i = j
        · subst e; exact .inr h3
        · exact .inl ⟨i, by omega, h2, h3⟩
theorem atC_lt {cs : List Nat} {B : Nat} (hB : 0 < B) (h : ∀ x ∈ cs, x < B) (i : Nat) : atC cs i < B := by
  unfold atC
  rcases Nat.lt_or_ge i cs.length with hi | hi
  · rw [List.getElem?_eq_getElem hi]; exact h _ (List.getElem_mem hi)
  · rw [List.getElem?_eq_none hi]; exact hB
theorem befN_lt {cs : List Nat} {m : Nat} (h : ∀ x ∈ cs, x < 2 ^ m) (S : Nat) : ∀ j, befN cs S j < 2 ^ m
  | 0 => Nat.pow_pos (by omega)
  | j + 1 => by
    rw [befN]
    split
    · exact Nat.or_lt_two_pow (befN_lt h S j) (atC_lt (Nat.pow_pos (by omega)) h j)
    · exact befN_lt h S j
theorem aftN_lt {cs : List Nat} {m : Nat} (h : ∀ x ∈ cs, x < 2 ^ m) (S : Nat) : ∀ j, aftN cs S j < 2 ^ m
  | 0 => Nat.pow_pos (by omega)
  | j + 1 => by
    rw [aftN]
    split
    · exact aftN_lt h S j
    · exact Nat.or_lt_two_pow (aftN_lt h S j) (atC_lt (Nat.pow_pos (by omega)) h j)
theorem waitN_lt {cs : List Nat} {m : Nat} (h : ∀ x ∈ cs, x < 2 ^ m) (S : Nat) : waitN cs S < 2 ^ m := Nat.lt_of_le_of_lt Nat.and_le_left (befN_lt h S _)
def stepB (cs : List Nat) (S i : Nat) : Bool := !S.testBit i && subB (atC cs i) (waitN cs S)
/-- The search, without what it keeps. -/
def searchN (cs : List Nat) : Nat → Nat → Option (List Nat)
  | 0, S => if cntN S = cs.length then some [] else none
  | f + 1, S => if cntN S = cs.length then some [] else (List.range cs.length).findSome? fun i => if stepB cs S i = true then (searchN cs f (S ||| 2 ^ i)).map (atC cs i :: ·) else none
/-- One number's turn. -/
def turnN (cs : List Nat) (f S i : Nat) : Option (List Nat) := if stepB cs S i = true then (searchN cs f (S ||| 2 ^ i)).map (atC cs i :: ·) else none
theorem searchN_succ {cs : List Nat} {f S : Nat} (h : cntN S ≠ cs.length) : searchN cs (f + 1) S = (List.range cs.length).findSome? (turnN cs f S) := by rw [searchN, if_neg h]; rfl
theorem searchN_done {cs : List Nat} {f S : Nat} (h : cntN S = cs.length) : searchN cs f S = some [] := by cases f <;> rw [searchN, if_pos h]
theorem findSome_here {α : Type} (p : Nat → Option α) (n k : Nat) (r : α) (h : ∀ i, i < k → p i = none) (hk : k < n) (hp : p k = some r) : (List.range n).findSome? p = some r := by
  have e : List.range n = List.range k ++ k :: (List.range n).drop (k + 1) := by
    have h1 : (List.range n).take k = List.range k := by rw [List.take_range, Nat.min_eq_left (by omega)]
    have h2 : (List.range n).drop k = k :: (List.range n).drop (k + 1) := by
      rw [List.drop_eq_getElem_cons (by rw [List.length_range]; exact hk), List.getElem_range]
    rw [← h1, ← h2, List.take_append_drop]
  rw [e, List.findSome?_append, (List.findSome?_eq_none_iff).2 (fun x hx => h x (List.mem_range.1 hx)), List.findSome?_cons, hp]
  rfl
theorem findSome_none {α : Type} (p : Nat → Option α) (n : Nat) (h : ∀ i, i < n → p i = none) : (List.range n).findSome? p = none := List.findSome?_eq_none_iff.2 fun x hx => h x (List.mem_range.1 hx)
theorem cnt_or {S i : Nat} (hi : i < 16) (h : S.testBit i = false) : cntN (S ||| 2 ^ i) = cntN S + 1 := by
  have n1 : ((List.range 16).filter fun b => (S ||| 2 ^ i).testBit b).Nodup := List.nodup_range.sublist List.filter_sublist
  have n2 : (i :: (List.range 16).filter fun b => S.testBit b).Nodup := List.nodup_cons.2 ⟨fun hm => (by rw [(List.mem_filter.1 hm).2] at h; cases h), List.nodup_range.sublist List.filter_sublist⟩
  have hp : ((List.range 16).filter fun b => (S ||| 2 ^ i).testBit b).Perm (i :: (List.range 16).filter fun b => S.testBit b) := by
    refine (List.perm_ext_iff_of_nodup n1 n2).2 fun b => ?_
    rw [List.mem_filter, List.mem_cons, List.mem_filter, List.mem_range, Nat.testBit_or, Nat.testBit_two_pow, Bool.or_eq_true, decide_eq_true_iff]
    constructor
    · rintro ⟨h1, h2 | h2⟩
      · exact .inr ⟨h1, h2⟩
      · exact .inl h2.symm
    · rintro (rfl | ⟨h1, h2⟩)
      · exact ⟨hi, .inr rfl⟩
      · exact ⟨h1, .inl h2⟩
  have := hp.length_eq
  rw [List.length_cons] at this
  exact this
theorem least_of {f : Nat → Int} : ∀ (l : List Nat), l ≠ [] → ∃ u ∈ l, ∀ v ∈ l, f u ≤ f v
  | [], h => absurd rfl h
  | [a], _ => ⟨a, by simp, fun v hv => by rw [List.mem_singleton.1 hv]; exact Int.le_refl _⟩
  | a :: b :: l, _ => by
    obtain ⟨u, hu, h⟩ := least_of (b :: l) (by simp)
    by_cases hab : f a ≤ f u
    · refine ⟨a, by simp, fun v hv => ?_⟩
      rcases List.mem_cons.1 hv with rfl | hv
      · exact Int.le_refl _
      · exact Int.le_trans hab (h v hv)
    · refine ⟨u, List.mem_cons_of_mem _ hu, fun v hv => ?_⟩
      rcases List.mem_cons.1 hv with rfl | hv
      · omega
      · exact h v hv
/-- Where the cliques have places, and each node those of a stretch, the search finds a row. -/
theorem search_some {cs : List Nat} (hk : cs.length ≤ 16) (h16 : ∀ x ∈ cs, x < 65536) (rk : Nat → Int) (hinj : ∀ a b, a < cs.length → b < cs.length → rk a = rk b → a = b)
    (hcon : ∀ a b c v, a < cs.length → b < cs.length → c < cs.length → rk a < rk b → rk b ≤ rk c → (atC cs a).testBit v = true → (atC cs c).testBit v = true → (atC cs b).testBit v = true) :
    ∀ (f S : Nat), S < 2 ^ cs.length → cntN S + f = cs.length → (∀ a b, a < cs.length → b < cs.length → S.testBit a = true → S.testBit b = false → rk a < rk b) → searchN cs f S ≠ none
  | 0, S, _, hf, _ => by rw [searchN_done (by omega)]; simp
  | f + 1, S, hS, hf, hdown => by
    have h65 : ∀ x ∈ cs, x < 2 ^ 16 := h16
    have hne : ((List.range cs.length).filter fun i => !S.testBit i) ≠ [] := fun e => by
      have hall : ∀ i, i < cs.length → S.testBit i = true := fun i hi => by
        rw [List.filter_eq_nil_iff] at e
        simpa using e i (List.mem_range.2 hi)
      have : cs.length ≤ cntN S := by
        have := List.Nodup.length_le_of_subset (List.nodup_range (n := cs.length)) (l₂ := (List.range 16).filter fun i => S.testBit i) fun x hx => by
          have hx := List.mem_range.1 hx
          exact List.mem_filter.2 ⟨List.mem_range.2 (by omega), hall x hx⟩
        rwa [List.length_range] at this
      omega
    obtain ⟨i, hi, hmin⟩ := least_of (f := rk) _ hne
    rw [List.mem_filter, List.mem_range] at hi
    have hiS : S.testBit i = false := by simpa using hi.2
    have hmin' : ∀ b, b < cs.length → S.testBit b = false → rk i ≤ rk b := fun b hb hbS => hmin b (List.mem_filter.2 ⟨List.mem_range.2 hb, by simp [hbS]⟩)
    have hstep : stepB cs S i = true := by
      rw [stepB, hiS, Bool.not_false, Bool.true_and, subB_iff (atC_lt (by omega) h16 i) (waitN_lt (m := 16) h65 S)]
      intro v hv
      rw [waitN, Nat.testBit_and, Bool.and_eq_true, befN_bit, aftN_bit] at hv
      obtain ⟨⟨a, ha, haS, hav⟩, ⟨b, hb, hbS, hbv⟩⟩ := hv
      exact hcon a i b v ha hi.1 hb (hdown a i ha hi.1 haS hiS) (hmin' b hb hbS) hav hbv
    have hrec := search_some hk h16 rk hinj hcon f (S ||| 2 ^ i) (Nat.or_lt_two_pow hS (Nat.pow_lt_pow_right (by omega) hi.1)) (by rw [cnt_or (by omega) hiS]; omega) fun a b ha hb haS hbS => by
      rw [Nat.testBit_or, Nat.testBit_two_pow, Bool.or_eq_true, decide_eq_true_iff] at haS
      rw [Nat.testBit_or, Nat.testBit_two_pow, Bool.or_eq_false_iff, decide_eq_false_iff_not] at hbS
      rcases haS with haS | rfl
      · exact hdown a b ha hb haS hbS.1
      · have := hmin' b hb hbS.1
        have : rk i ≠ rk b := fun e => hbS.2 (hinj i b hi.1 hb e)
        omega
    rw [searchN_succ (by omega)]
    intro hnone
    have := List.findSome?_eq_none_iff.1 hnone i (List.mem_range.2 hi.1)
    rw [turnN, if_pos hstep, Option.map_eq_none_iff] at this
    exact hrec this

/-! ### Interval graphs -/
/-- Spans of the nodes: two nodes are neighbours exactly if their spans have a number in common. -/
structure Rep (es : List (Int × Int)) (n : Nat) (L H : Nat → Int) : Prop where
  le : ∀ a, a < n → L a ≤ H a
  near : ∀ a b, a < n → b < n → a ≠ b → (nearE es a b ↔ L a ≤ H b ∧ L b ≤ H a)
theorem clique_max {n : Nat} {gs : List Nat} {es : List (Int × Int)} (h : Adj n gs es) (hn : n ≤ 12) {C : Nat} (hC : C ∈ cliquesN gs) {v : Nat} (hv : v < n) : C.testBit v = true ↔ ∀ b, C.testBit b = true → v = b ∨ nearE es v b := by
  unfold cliquesN clsTo at hC
  rw [List.mem_filter, List.mem_range, h.len, maxAt, List.all_eq_true, h.len] at hC
  have h16 : 2 ^ n ≤ 65536 := Nat.le_trans (Nat.pow_le_pow_right (by omega) hn) (by decide)
  have hm := hC.2 v (List.mem_range.2 hv)
  rw [maxB, beq_iff_eq] at hm
  rw [hm, subB_iff (h.lt16 hn v) (by omega)]
  refine forall_congr' fun b => imp_congr_right fun _ => ?_
  rw [h.bit v b hv, Bool.or_eq_true, decide_eq_true_iff]; rfl
theorem clique_lt {n : Nat} {gs : List Nat} {es : List (Int × Int)} (h : Adj n gs es) {C : Nat} (hC : C ∈ cliquesN gs) : C < 2 ^ n := by
  have := cls_lt gs _ C hC
  rwa [h.len] at this
theorem clique_some {n : Nat} {gs : List Nat} {es : List (Int × Int)} (h : Adj n gs es) (hn : n ≤ 12) (h1 : 1 ≤ n) {C : Nat} (hC : C ∈ cliquesN gs) : C ≠ 0 := fun e => by
  subst e
  have := (clique_max h hn hC (v := 0) (by omega)).2 fun b hb => by rw [Nat.zero_testBit] at hb; cases hb
  rw [Nat.zero_testBit] at this; cases this
theorem bits_some {n C : Nat} (hC : C < 2 ^ n) (h0 : C ≠ 0) : bitsN C n ≠ [] := fun e => by
  have := bits_pos hC h0
  rw [e] at this; simp at this
theorem mem_bitsN {s n b : Nat} (hs : s < 2 ^ n) : b ∈ bitsN s n ↔ s.testBit b = true := by
  rw [bitsN, List.mem_filter, List.mem_range]
  exact ⟨fun h => h.2, fun h => ⟨bit_lt hs h, h⟩⟩
/-- A number that all spans of a clique contain. -/
theorem clique_point {n : Nat} {gs : List Nat} {es : List (Int × Int)} (h : Adj n gs es) (hn : n ≤ 12) (h1 : 1 ≤ n) {L H : Nat → Int} (hr : Rep es n L H) {C : Nat} (hC : C ∈ cliquesN gs) : ∃ r : Int, ∀ v, C.testBit v = true → L v ≤ r ∧ r ≤ H v := by
  have hlt := clique_lt h hC
  obtain ⟨u, hu, hmax⟩ := least_of (f := fun v => -L v) (bitsN C n) (bits_some hlt (clique_some h hn h1 hC))
  rw [mem_bitsN hlt] at hu
  refine ⟨L u, fun v hv => ⟨?_, ?_⟩⟩
  · have := hmax v ((mem_bitsN hlt).2 hv); omega
  · by_cases e : u = v
    · subst e; exact hr.le u (bit_lt hlt hu)
    · have hun := bit_lt hlt hu
      have hvn := bit_lt hlt hv
      rcases (clique_max h hn hC hun).1 hu v hv with e' | e'
      · exact absurd e' e
      · exact ((hr.near u v hun hvn e).1 e').1
theorem in_clique {n : Nat} {gs : List Nat} {es : List (Int × Int)} (h : Adj n gs es) (hn : n ≤ 12) {L H : Nat → Int} (hr : Rep es n L H) {C : Nat} (hC : C ∈ cliquesN gs) {r : Int} (hp : ∀ v, C.testBit v = true → L v ≤ r ∧ r ≤ H v) {v : Nat} (hv : v < n) (h1 : L v ≤ r) (h2 : r ≤ H v) : C.testBit v = true := by
  refine (clique_max h hn hC hv).2 fun b hb => ?_
  by_cases e : v = b
  · exact .inl e
  · have hbn := bit_lt (clique_lt h hC) hb
    have := hp b hb
    exact .inr ((hr.near v b hv hbn e).2 ⟨by omega, by omega⟩)
theorem srt_mem {gs : List Nat} {x : Nat} : x ∈ srtN (cliquesN gs) ↔ x ∈ cliquesN gs := (List.mergeSort_perm _ _).mem_iff
theorem srt_nodup (gs : List Nat) : (srtN (cliquesN gs)).Nodup := (List.mergeSort_perm _ _).nodup_iff.2 (List.nodup_range.sublist List.filter_sublist)
/-- The cliques of an interval graph can be put in a row. -/
theorem interval_row {n : Nat} {gs : List Nat} {es : List (Int × Int)} (h : Adj n gs es) (hn : n ≤ 12) (h1 : 1 ≤ n) {L H : Nat → Int} (hr : Rep es n L H) (hk : (srtN (cliquesN gs)).length ≤ 16) :
    searchN (srtN (cliquesN gs)) (srtN (cliquesN gs)).length 0 ≠ none := by
  have h16 : 2 ^ n ≤ 65536 := Nat.le_trans (Nat.pow_le_pow_right (by omega) hn) (by decide)
  obtain ⟨cs, hcs⟩ : ∃ cs, srtN (cliquesN gs) = cs := ⟨_, rfl⟩
  have hin : ∀ i, i < cs.length → atC cs i ∈ cliquesN gs := fun i hi => by
    rw [atC, List.getElem?_eq_getElem hi]
    exact srt_mem.1 (by rw [hcs]; exact List.getElem_mem hi)
  have hnd : cs.Nodup := hcs ▸ srt_nodup gs
  rw [hcs] at hk ⊢
  have hpt : ∀ i, ∃ r : Int, i < cs.length → ∀ v, (atC cs i).testBit v = true → L v ≤ r ∧ r ≤ H v := fun i => by
    by_cases hi : i < cs.length
    · obtain ⟨r, hr'⟩ := clique_point h hn h1 hr (hin i hi)
      exact ⟨r, fun _ => hr'⟩
    · exact ⟨0, fun h => absurd h hi⟩
  obtain ⟨rk, hrk⟩ := Classical.axiomOfChoice hpt
  refine search_some hk (fun x hx => Nat.lt_of_lt_of_le (clique_lt h (srt_mem.1 (by rw [hcs]; exact hx))) h16) rk (fun a b ha hb e => ?_) (fun a b c v ha hb hc h2 h3 hav hcv => ?_) cs.length 0 (Nat.pow_pos (by omega)) (by rw [show cntN 0 = 0 by decide]; omega) fun a b _ _ h0 => by rw [Nat.zero_testBit] at h0; cases h0
  · have hsub : ∀ {a b}, a < cs.length → b < cs.length → rk a = rk b → ∀ v, (atC cs b).testBit v = true → (atC cs a).testBit v = true := fun {a b} ha hb e v hv => by
      have := hrk b hb v hv
      rw [← e] at this
      exact in_clique h hn hr (hin a ha) (hrk a ha) (bit_lt (clique_lt h (hin b hb)) hv) this.1 this.2
    have heq : atC cs a = atC cs b := Nat.eq_of_testBit_eq fun v => by
      rw [Bool.eq_iff_iff]
      exact ⟨hsub hb ha e.symm v, hsub ha hb e v⟩
    rw [atC, atC, List.getElem?_eq_getElem ha, List.getElem?_eq_getElem hb] at heq
    exact (List.getElem_inj (h₀ := ha) (h₁ := hb) hnd).1 heq
  · have h4 := hrk a ha v hav
    have h5 := hrk c hc v hcv
    exact in_clique h hn hr (hin b hb) (hrk b hb) (bit_lt (clique_lt h (hin a ha)) hav) (by omega) (by omega)
/-- An interval graph is chordal. -/
theorem interval_chd {n : Nat} {es : List (Int × Int)} {L H : Nat → Int} (hr : Rep es n L H) : Chd (nearE es) n (2 ^ n - 1) := by
  intro T hT h0 _
  obtain ⟨v, hv, hmin⟩ := least_of (f := H) (bitsN T n) (bits_some hT h0)
  rw [mem_bitsN hT] at hv
  refine ⟨v, hv, fun a b ha hb hva hvb hab => ?_⟩
  have hvn := bit_lt hT hv
  have han := bit_lt hT ha
  have hbn := bit_lt hT hb
  have nva : v ≠ a := fun e => nearE_irr es a (e ▸ hva)
  have nvb : v ≠ b := fun e => nearE_irr es b (e ▸ hvb)
  have h1 := (hr.near v a hvn han nva).1 hva
  have h2 := (hr.near v b hvn hbn nvb).1 hvb
  have h3 := hmin a ((mem_bitsN hT).2 ha)
  have h4 := hmin b ((mem_bitsN hT).2 hb)
  exact (hr.near a b han hbn hab).2 ⟨by omega, by omega⟩

/-! ### A chordal graph has at most as many maximal cliques as nodes -/
theorem same_first {n : Nat} {gs : List Nat} {es : List (Int × Int)} (h : Adj n gs es) (hn : n ≤ 12) {C D : Nat} (hC : ∀ a b, C.testBit a = true → C.testBit b = true → a ≠ b → nearE es a b) (hD : ∀ a b, D.testBit a = true → D.testBit b = true → a ≠ b → nearE es a b) :
    ∀ (f s v : Nat), s < 2 ^ n → Sub C s → Sub D s → (elimAll gs f s).find? (fun b => C.testBit b) = some v → (elimAll gs f s).find? (fun b => D.testBit b) = some v → ∀ a b, C.testBit a = true → D.testBit b = true → a ≠ b → nearE es a b
  | 0, s, v, _, _, _, h1, _ => by simp [elimAll] at h1
  | f + 1, s, v, hs, hCs, hDs, h1, h2 => by
    rw [elimAll] at h1 h2
    cases he : elimOf gs s with
    | none => rw [he] at h1; simp at h1
    | some u =>
      rw [he] at h1 h2
      have hu := (elimAt_iff h hn hs).1 (elimOf_at he)
      have hun := bit_lt hs hu.1
      have h16 : 2 ^ n ≤ 65536 := Nat.le_trans (Nat.pow_le_pow_right (by omega) hn) (by decide)
      simp only [List.find?_cons] at h1 h2
      have hvC : C.testBit v = true := by
        split at h1
        · rename_i hh; cases h1; exact hh
        · exact List.find?_some (p := fun b => C.testBit b) h1
      have hvD : D.testBit v = true := by
        split at h2
        · rename_i hh; cases h2; exact hh
        · exact List.find?_some (p := fun b => D.testBit b) h2
      by_cases huC : C.testBit u = true
      · rw [huC] at h1
        have hvu : u = v := by simpa using h1
        subst hvu
        intro a b ha hb hab
        by_cases ea : a = u
        · subst ea; exact hD a b hvD hb hab
        · by_cases eb : b = u
          · subst eb; exact hC a b ha hvC hab
          · exact hu.2 a b (hCs a ha) (hDs b hb) (hC u a hvC ha (Ne.symm ea)) (hD u b hvD hb (Ne.symm eb)) hab
      · by_cases huD : D.testBit u = true
        · rw [huD] at h2
          have hvu : u = v := by simpa using h2
          subst hvu
          exact absurd hvC huC
        · rw [Bool.not_eq_true] at huC huD
          rw [huC] at h1
          rw [huD] at h2
          refine same_first h hn hC hD f (s &&& (65535 - 2 ^ u)) v (Nat.lt_of_le_of_lt Nat.and_le_left hs) (fun b hb => ?_) (fun b hb => ?_) h1 h2
          · rw [without_bit (by omega) (by omega), hCs b hb]
            have : u ≠ b := fun e => by subst e; rw [hb] at huC; cases huC
            simpa using this
          · rw [without_bit (by omega) (by omega), hDs b hb]
            have : u ≠ b := fun e => by subst e; rw [hb] at huD; cases huD
            simpa using this
theorem clique_pairs {n : Nat} {gs : List Nat} {es : List (Int × Int)} (h : Adj n gs es) (hn : n ≤ 12) {C : Nat} (hC : C ∈ cliquesN gs) : ∀ a b, C.testBit a = true → C.testBit b = true → a ≠ b → nearE es a b := fun _ b ha hb hab =>
  ((clique_max h hn hC (bit_lt (clique_lt h hC) ha)).1 ha b hb).resolve_left hab
theorem clique_few {n : Nat} {gs : List Nat} {es : List (Int × Int)} (h : Adj n gs es) (hn : n ≤ 12) (h1 : 1 ≤ n) (hc : (ordN n gs).length = n) : (cliquesN gs).length ≤ n := by
  obtain ⟨o1, o2, _⟩ := elimAll_order h hn (2 ^ n - 1 + 1) (2 ^ n - 1) (full_lt n)
  have hperm := nodup_perm o1 (L := List.range n) (fun x hx => List.mem_range.2 (bit_lt (full_lt n) (o2 x hx))) (by rw [List.length_range]; exact Nat.le_of_eq hc.symm)
  have hall : ∀ b, b < n → b ∈ ordN n gs := fun b hb => hperm.mem_iff.2 (List.mem_range.2 hb)
  have hsub : ∀ C ∈ cliquesN gs, Sub C (2 ^ n - 1) := fun C hC b hb => by rw [full_bits, decide_eq_true_iff]; exact bit_lt (clique_lt h hC) hb
  have hfind : ∀ C ∈ cliquesN gs, ∃ v, (ordN n gs).find? (fun b => C.testBit b) = some v := fun C hC => by
    obtain ⟨b, hb⟩ := some_bit (clique_some h hn h1 hC)
    cases hf : (ordN n gs).find? (fun b => C.testBit b) with
    | some v => exact ⟨v, rfl⟩
    | none => exact absurd hb (List.find?_eq_none.1 hf b (hall b (bit_lt (clique_lt h hC) hb)))
  have hnd : ((cliquesN gs).map fun C => ((ordN n gs).find? (fun b => C.testBit b)).getD 0).Nodup := by
    have hcl : (cliquesN gs).Nodup := List.nodup_range.sublist List.filter_sublist
    rw [List.Nodup, List.pairwise_map]
    refine List.Pairwise.imp_of_mem (fun {C D} hC hD hCD e => ?_) hcl
    obtain ⟨v, hv⟩ := hfind C hC
    obtain ⟨u, hu⟩ := hfind D hD
    simp only [hv, hu, Option.getD_some] at e
    subst e
    have hno := same_first h hn (clique_pairs h hn hC) (clique_pairs h hn hD) (2 ^ n - 1 + 1) (2 ^ n - 1) v (full_lt n) (hsub C hC) (hsub D hD) hv hu
    refine hCD (Nat.eq_of_testBit_eq fun b => ?_)
    rw [Bool.eq_iff_iff]
    constructor
    · intro hb
      refine (clique_max h hn hD (bit_lt (clique_lt h hC) hb)).2 fun c hc => ?_
      by_cases e : b = c
      · exact .inl e
      · exact .inr (hno b c hb hc e)
    · intro hb
      refine (clique_max h hn hC (bit_lt (clique_lt h hD) hb)).2 fun c hc => ?_
      by_cases e : b = c
      · exact .inl e
      · exact .inr (nearE_sym es _ _ (hno c b hc hb (Ne.symm e)))
  have := List.Nodup.length_le_of_subset hnd (l₂ := List.range n) fun x hx => by
    obtain ⟨C, hC, rfl⟩ := List.mem_map.1 hx
    obtain ⟨v, hv⟩ := hfind C hC
    rw [hv, Option.getD_some]
    exact List.mem_range.2 (bit_lt (clique_lt h hC) (List.find?_some (p := fun b => C.testBit b) hv))
  rwa [List.length_map, List.length_range] at this

end Go.Proofs.Yticafbfijpjbnaa
