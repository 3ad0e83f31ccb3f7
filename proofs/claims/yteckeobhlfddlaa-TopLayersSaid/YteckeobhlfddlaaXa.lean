/-
  Rows of cliques, spans, graphs without a node: pure.
-/
import Derived.Test.YteckeobhlfddlaaWb
namespace Go.Proofs.Yteckeobhlfddlaa.Rib

section
def atC (cs : List Nat) (i : Nat) : Nat := cs[i]?.getD 0
/-- What the cliques that a set names, and the others, contain together, up to the j-th one. -/
def befN (cs : List Nat) (S : Nat) : Nat → Nat
  | 0 => 0
  | j + 1 => if S.testBit j = true then befN cs S j ||| atC cs j else befN cs S j
def aftN (cs : List Nat) (S : Nat) : Nat → Nat
  | 0 => 0
  | j + 1 => if S.testBit j = true then aftN cs S j else aftN cs S j ||| atC cs j
def waitN (cs : List Nat) (S : Nat) : Nat := befN cs S cs.length &&& aftN cs S cs.length
theorem befN_bit (cs : List Nat) (S v : Nat) : ∀ j, (befN cs S j).testBit v = true ↔ ∃ i, i < j ∧ S.testBit i = true ∧ (atC cs i).testBit v = true
  | 0 => by simp [befN]
  | j + 1 => by
    rw [befN]
    by_cases hj : S.testBit j = true
    · rw [if_pos hj, Nat.testBit_or, Bool.or_eq_true, befN_bit cs S v j]
      constructor
      · rintro (⟨i, h1, h2, h3⟩ | h)
        · exact ⟨i, by omega, h2, h3⟩
        · exact ⟨j, by omega, hj, h⟩
      · rintro ⟨i, h1, h2, h3⟩
        by_cases e : i = j
        · subst e; exact .inr h3
        · exact .inl ⟨i, by omega, h2, h3⟩
    · rw [if_neg hj, befN_bit cs S v j]
      constructor
      · rintro ⟨i, h1, h2, h3⟩; exact ⟨i, by omega, h2, h3⟩
      · rintro ⟨i, h1, h2, h3⟩
        have : i ≠ j := fun e => hj (e ▸ h2)
        exact ⟨i, by omega, h2, h3⟩
theorem aftN_bit (cs : List Nat) (S v : Nat) : ∀ j, (aftN cs S j).testBit v = true ↔ ∃ i, i < j ∧ S.testBit i = false ∧ (atC cs i).testBit v = true
  | 0 => by simp [aftN]
  | j + 1 => by
    rw [aftN]
    by_cases hj : S.testBit j = true
    · rw [if_pos hj, aftN_bit cs S v j]
      constructor
      · rintro ⟨i, h1, h2, h3⟩; exact ⟨i, by omega, h2, h3⟩
      · rintro ⟨i, h1, h2, h3⟩
        have : i ≠ j := fun e => by subst e; rw [hj] at h2; cases h2
        exact ⟨i, by omega, h2, h3⟩
    · rw [if_neg hj, Nat.testBit_or, Bool.or_eq_true, aftN_bit cs S v j]
      constructor
      · rintro (⟨i, h1, h2, h3⟩ | h)
        · exact ⟨i, by omega, h2, h3⟩
        · exact ⟨j, by omega, by simpa using hj, h⟩
      · rintro ⟨i, h1, h2, h3⟩
        by_cases e : i = j
        · subst e; exact .inr h3
        · exact .inl ⟨i, by omega, h2, h3⟩
theorem atC_lt {cs : List Nat} {B : Nat} (hB : 0 < B) (h : ∀ x ∈ cs, x < B) (i : Nat) : atC cs i < B := by
  unfold atC
  rcases Nat.lt_or_ge i cs.length with hi | hi
  · rw [List.getElem?_eq_getElem hi]; exact h _ (List.getElem_mem hi)
  · rw [List.getElem?_eq_none hi]; exact hB
theorem befN_lt {cs : List Nat} {m : Nat} (h : ∀ x ∈ cs, x < 2 ^ m) (S : Nat) : ∀ j, befN cs S j < 2 ^ m
  | 0 => Nat.pow_pos (by omega)
  | j + 1 => by
    rw [befN]
    split
    · exact Nat.or_lt_two_pow (befN_lt h S j) (atC_lt (Nat.pow_pos (by omega)) h j)
    · exact befN_lt h S j
theorem aftN_lt {cs : List Nat} {m : Nat} (h : ∀ x ∈ cs, x < 2 ^ m) (S : Nat) : ∀ j, aftN cs S j < 2 ^ m
  | 0 => Nat.pow_pos (by omega)
  | j + 1 => by
    rw [aftN]
    split
    · exact aftN_lt h S j
    · exact Nat.or_lt_two_pow (aftN_lt h S j) (atC_lt (Nat.pow_pos (by omega)) h j)
theorem waitN_lt {cs : List Nat} {m : Nat} (h : ∀ x ∈ cs, x < 2 ^ m) (S : Nat) : waitN cs S < 2 ^ m := Nat.lt_of_le_of_lt Nat.and_le_left (befN_lt h S _)
def stepB (cs : List Nat) (S i : Nat) : Bool := !S.testBit i && subB (atC cs i) (waitN cs S)
/-- The search, without what it keeps. -/
def searchN (cs : List Nat) : Nat → Nat → Option (List Nat)
  | 0, S => if cntN S = cs.length then some [] else none
  | f + 1, S => if cntN S = cs.length then some [] else (List.range cs.length).findSome? fun i => if stepB cs S i = true then (searchN cs f (S ||| 2 ^ i)).map (atC cs i :: ·) else none
/-- One number's turn. -/
def turnN (cs : List Nat) (f S i : Nat) : Option (List Nat) := if stepB cs S i = true then (searchN cs f (S ||| 2 ^ i)).map (atC cs i :: ·) else none
theorem searchN_succ {cs : List Nat} {f S : Nat} (h : cntN S ≠ cs.length) : searchN cs (f + 1) S = (List.range cs.length).findSome? (turnN cs f S) := by rw [searchN, if_neg h]; rfl
theorem searchN_done {cs : List Nat} {f S : Nat} (h : cntN S = cs.length) : searchN cs f S = some [] := by cases f <;> rw [searchN, if_pos h]
theorem findSome_here {α : Type} (p : Nat → Option α) (n k : Nat) (r : α) (h : ∀ i, i < k → p i = none) (hk : k < n) (hp : p k = some r) : (List.range n).findSome? p = some r := by
  have e : List.range n = List.range k ++ k :: (List.range n).drop (k + 1) := by
    have h1 : (List.range n).take k = List.range k := by rw [List.take_range, Nat.min_eq_left (by omega)]
    have h2 : (List.range n).drop k = k :: (List.range n).drop (k + 1) := by
      rw [List.drop_eq_getElem_cons (by rw [List.length_range]; exact hk), List.getElem_range]
    rw [← h1, ← h2, List.take_append_drop]
  rw [e, List.findSome?_append, (List.findSome?_eq_none_iff).2 (fun x hx => h x (List.mem_range.1 hx)), List.findSome?_cons, hp]
  rfl
theorem findSome_none {α : Type} (p : Nat → Option α) (n : Nat) (h : ∀ i, i < n → p i = none) : (List.range n).findSome? p = none := List.findSome?_eq_none_iff.2 fun x hx => h x (List.mem_range.1 hx)
theorem cnt_or {S i : Nat} (hi : i < 16) (h : S.testBit i = false) : cntN (S ||| 2 ^ i) = cntN S + 1 := by
  have n1 : ((List.range 16).filter fun b => (S ||| 2 ^ i).testBit b).Nodup := List.nodup_range.sublist List.filter_sublist
  have n2 : (i :: (List.range 16).filter fun b => S.testBit b).Nodup := List.nodup_cons.2 ⟨fun hm => (by rw [(List.mem_filter.1 hm).2] at h; cases h), List.nodup_range.sublist List.filter_sublist⟩
  have hp : ((List.range 16).filter fun b => (S ||| 2 ^ i).testBit b).Perm (i :: (List.range 16).filter fun b => S.testBit b) := by
    refine (List.perm_ext_iff_of_nodup n1 n2).2 fun b => ?_
    rw [List.mem_filter, List.mem_cons, List.mem_filter, List.mem_range, Nat.testBit_or, Nat.testBit_two_pow, Bool.or_eq_true, decide_eq_true_iff]
    constructor
    · rintro ⟨h1, h2 | h2⟩
      · exact .inr ⟨h1, h2⟩
      · exact .inl h2.symm
    · rintro (rfl | ⟨h1, h2⟩)
      · exact ⟨hi, .inr rfl⟩
      · exact ⟨h1, .inl h2⟩
  have := hp.length_eq
  rw [List.length_cons] at this
  exact this
theorem least_of {f : Nat → Int} : ∀ (l : List Nat), l ≠ [] → ∃ u ∈ l, ∀ v ∈ l, f u ≤ f v
  | [], h => absurd rfl h
  | [a], _ => ⟨a, by simp, fun v hv => by rw [List.mem_singleton.1 hv]; exact Int.le_refl _⟩
  | a :: b :: l, _ => by
    obtain ⟨u, hu, h⟩ := least_of (b :: l) (by simp)
    by_cases hab : f a ≤ f u
    · refine ⟨a, by simp, fun v hv => ?_⟩
      rcases List.mem_cons.1 hv with rfl | hv
      · exact Int.le_refl _
      · exact Int.le_trans hab (h v hv)
    · refine ⟨u, List.mem_cons_of_mem _ hu, fun v hv => ?_⟩
      rcases List.mem_cons.1 hv with rfl | hv
      · omega
      · exact h v hv
/-- Where the cliques have places, and each node those of a stretch, the search finds a row. -/
theorem search_some {cs : List Nat} (hk : cs.length ≤ 16) (h16 : ∀ x ∈ cs, x < 65536) (rk : Nat → Int) (hinj : ∀ a b, a < cs.length → b < cs.length → rk a = rk b → a = b)
    (hcon : ∀ a b c v, a < cs.length → b < cs.length → c < cs.length → rk a < rk b → rk b ≤ rk c → (atC cs a).testBit v = true → (atC cs c).testBit v = true → (atC cs b).testBit v = true) :
    ∀ (f S : Nat), S < 2 ^ cs.length → cntN S + f = cs.length → (∀ a b, a < cs.length → b < cs.length → S.testBit a = true → S.testBit b = false → rk a < rk b) → searchN cs f S ≠ none
  | 0, S, _, hf, _ => by rw [searchN_done (by omega)]; simp
  | f + 1, S, hS, hf, hdown => by
    have h65 : ∀ x ∈ cs, x < 2 ^ 16 := h16
    have hne : ((List.range cs.length).filter fun i => !S.testBit i) ≠ [] := fun e => by
      have hall : ∀ i, i < cs.length → S.testBit i = true := fun i hi => by
        rw [List.filter_eq_nil_iff] at e
        simpa using e i (List.mem_range.2 hi)
      have : cs.length ≤ cntN S := by
        have := List.Nodup.length_le_of_subset (List.nodup_range (n := cs.length)) (l₂ := (List.range 16).filter fun i => S.testBit i) fun x hx => by
          have hx := List.mem_range.1 hx
          exact List.mem_filter.2 ⟨List.mem_range.2 (by omega), hall x hx⟩
        rwa [List.length_range] at this
      omega
    obtain ⟨i, hi, hmin⟩ := least_of (f := rk) _ hne
    rw [List.mem_filter, List.mem_range] at hi
    have hiS : S.testBit i = false := by simpa using hi.2
    have hmin' : ∀ b, b < cs.length → S.testBit b = false → rk i ≤ rk b := fun b hb hbS => hmin b (List.mem_filter.2 ⟨List.mem_range.2 hb, by simp [hbS]⟩)
    have hstep : stepB cs S i = true := by
      rw [stepB, hiS, Bool.not_false, Bool.true_and, subB_iff (atC_lt (by omega) h16 i) (waitN_lt (m := 16) h65 S)]
      intro v hv
      rw [waitN, Nat.testBit_and, Bool.and_eq_true, befN_bit, aftN_bit] at hv
      obtain ⟨⟨a, ha, haS, hav⟩, ⟨b, hb, hbS, hbv⟩⟩ := hv
      exact hcon a i b v ha hi.1 hb (hdown a i ha hi.1 haS hiS) (hmin' b hb hbS) hav hbv
    have hrec := search_some hk h16 rk hinj hcon f (S ||| 2 ^ i) (Nat.or_lt_two_pow hS (Nat.pow_lt_pow_right (by omega) hi.1)) (by rw [cnt_or (by omega) hiS]; omega) fun a b ha hb haS hbS => by
      rw [Nat.testBit_or, Nat.testBit_two_pow, Bool.or_eq_true, decide_eq_true_iff] at haS
      rw [Nat.testBit_or, Nat.testBit_two_pow, Bool.or_eq_false_iff, decide_eq_false_iff_not] at hbS
      rcases haS with haS | rfl
      · exact hdown a b ha hb haS hbS.1
      · have := hmin' b hb hbS.1
        have : rk i ≠ rk b := fun e => hbS.2 (hinj i b hi.1 hb e)
        omega
    rw [searchN_succ (by omega)]
    intro hnone
    have := List.findSome?_eq_none_iff.1 hnone i (List.mem_range.2 hi.1)
    rw [turnN, if_pos hstep, Option.map_eq_none_iff] at this
    exact hrec this

/-! ### Interval graphs -/
/-- Spans of the nodes: two nodes are neighbours exactly if their spans have a number in common. -/
structure Rep (es : List (Int × Int)) (n : Nat) (L H : Nat → Int) : Prop where
  le : ∀ a, a < n → L a ≤ H a
  near : ∀ a b, a < n → b < n → a ≠ b → (nearE es a b ↔ L a ≤ H b ∧ L b ≤ H a)
theorem clique_max {n : Nat} {gs : List Nat} {es : List (Int × Int)} (h : Adj n gs es) (hn : n ≤ 12) {C : Nat} (hC : C ∈ cliquesN gs) {v : Nat} (hv : v < n) : C.testBit v = true ↔ ∀ b, C.testBit b = true → v = b ∨ nearE es v b := by
  unfold cliquesN clsTo at hC
  rw [List.mem_filter, List.mem_range, h.len, maxAt, List.all_eq_true, h.len] at hC
  have h16 : 2 ^ n ≤ 65536 := Nat.le_trans (Nat.pow_le_pow_right (by omega) hn) (by decide)
  have hm := hC.2 v (List.mem_range.2 hv)
  rw [maxB, beq_iff_eq] at hm
  rw [hm, subB_iff (h.lt16 hn v) (by omega)]
  refine forall_congr' fun b => imp_congr_right fun _ => ?_
  rw [h.bit v b hv, Bool.or_eq_true, decide_eq_true_iff]; rfl
theorem clique_lt {n : Nat} {gs : List Nat} {es : List (Int × Int)} (h : Adj n gs es) {C : Nat} (hC : C ∈ cliquesN gs) : C < 2 ^ n := by
  have := cls_lt gs _ C hC
  rwa [h.len] at this
theorem clique_some {n : Nat} {gs : List Nat} {es : List (Int × Int)} (h : Adj n gs es) (hn : n ≤ 12) (h1 : 1 ≤ n) {C : Nat} (hC : C ∈ cliquesN gs) : C ≠ 0 := fun e => by
  subst e
  have := (clique_max h hn hC (v := 0) (by omega)).2 fun b hb => by rw [Nat.zero_testBit] at hb; cases hb
  rw [Nat.zero_testBit] at this; cases this
theorem bits_some {n C : Nat} (hC : C < 2 ^ n) (h0 : C ≠ 0) : bitsN C n ≠ [] := fun e => by
  have := bits_pos hC h0
  rw [e] at this; simp at this
theorem mem_bitsN {s n b : Nat} (hs : s < 2 ^ n) : b ∈ bitsN s n ↔ s.testBit b = true := by
  rw [bitsN, List.mem_filter, List.mem_range]
  exact ⟨fun h => h.2, fun h => ⟨bit_lt hs h, h⟩⟩
/-- A number that all spans of a clique contain. -/
theorem clique_point {n : Nat} {gs : List Nat} {es : List (Int × Int)} (h : Adj n gs es) (hn : n ≤ 12) (h1 : 1 ≤ n) {L H : Nat → Int} (hr : Rep es n L H) {C : Nat} (hC : C ∈ cliquesN gs) : ∃ r : Int, ∀ v, C.testBit v = true → L v ≤ r ∧ r ≤ H v := by
  have hlt := clique_lt h hC
  obtain ⟨u, hu, hmax⟩ := least_of (f := fun v => -L v) (bitsN C n) (bits_some hlt (clique_some h hn h1 hC))
  rw [mem_bitsN hlt] at hu
  refine ⟨L u, fun v hv => ⟨?_, ?_⟩⟩
  · have := hmax v ((mem_bitsN hlt).2 hv); omega
  · by_cases e : u = v
    · subst e; exact hr.le u (bit_lt hlt hu)
    · have hun := bit_lt hlt hu
      have hvn := bit_lt hlt hv
      rcases (clique_max h hn hC hun).1 hu v hv with e' | e'
      · exact absurd e' e
      · exact ((hr.near u v hun hvn e).1 e').1
theorem in_clique {n : Nat} {gs : List Nat} {es : List (Int × Int)} (h : Adj n gs es) (hn : n ≤ 12) {L H : Nat → Int} (hr : Rep es n L H) {C : Nat} (hC : C ∈ cliquesN gs) {r : Int} (hp : ∀ v, C.testBit v = true → L v ≤ r ∧ r ≤ H v) {v : Nat} (hv : v < n) (h1 : L v ≤ r) (h2 : r ≤ H v) : C.testBit v = true := by
  refine (clique_max h hn hC hv).2 fun b hb => ?_
  by_cases e : v = b
  · exact .inl e
  · have hbn := bit_lt (clique_lt h hC) hb
    have := hp b hb
    exact .inr ((hr.near v b hv hbn e).2 ⟨by omega, by omega⟩)
theorem srt_mem {gs : List Nat} {x : Nat} : x ∈ srtN (cliquesN gs) ↔ x ∈ cliquesN gs := (List.mergeSort_perm _ _).mem_iff
theorem srt_nodup (gs : List Nat) : (srtN (cliquesN gs)).Nodup := (List.mergeSort_perm _ _).nodup_iff.2 (List.nodup_range.sublist List.filter_sublist)
/-- The cliques of an interval graph can be put in a row. -/
theorem interval_row {n : Nat} {gs : List Nat} {es : List (Int × Int)} (h : Adj n gs es) (hn : n ≤ 12) (h1 : 1 ≤ n) {L H : Nat → Int} (hr : Rep es n L H) (hk : (srtN (cliquesN gs)).length ≤ 16) :
    searchN (srtN (cliquesN gs)) (srtN (cliquesN gs)).length 0 ≠ none := by
  have h16 : 2 ^ n ≤ 65536 := Nat.le_trans (Nat.pow_le_pow_right (by omega) hn) (by decide)
  obtain ⟨cs, hcs⟩ : ∃ cs, srtN (cliquesN gs) = cs := ⟨_, rfl⟩
  have hin : ∀ i, i < cs.length → atC cs i ∈ cliquesN gs := fun i hi => by
    rw [atC, List.getElem?_eq_getElem hi]
    exact srt_mem.1 (by rw [hcs]; exact List.getElem_mem hi)
  have hnd : cs.Nodup := hcs ▸ srt_nodup gs
  rw [hcs] at hk ⊢
  have hpt : ∀ i, ∃ r : Int, i < cs.length → ∀ v, (atC cs i).testBit v = true → L v ≤ r ∧ r ≤ H v := fun i => by
    by_cases hi : i < cs.length
    · obtain ⟨r, hr'⟩ := clique_point h hn h1 hr (hin i hi)
      exact ⟨r, fun _ => hr'⟩
    · exact ⟨0, fun h => absurd h hi⟩
  obtain ⟨rk, hrk⟩ := Classical.axiomOfChoice hpt
  refine search_some hk (fun x hx => Nat.lt_of_lt_of_le (clique_lt h (srt_mem.1 (by rw [hcs]; exact hx))) h16) rk (fun a b ha hb e => ?_) (fun a b c v ha hb hc h2 h3 hav hcv => ?_) cs.length 0 (Nat.pow_pos (by omega)) (by rw [show cntN 0 = 0 by decide]; omega) fun a b _ _ h0 => by rw [Nat.zero_testBit] at h0; cases h0
  · have hsub : ∀ {a b}, a < cs.length → b < cs.length → rk a = rk b → ∀ v, (atC cs b).testBit v = true → (atC cs a).testBit v = true := fun {a b} ha hb e v hv => by
      have := hrk b hb v hv
      rw [← e] at this
      exact in_clique h hn hr (hin a ha) (hrk a ha) (bit_lt (clique_lt h (hin b hb)) hv) this.1 this.2
    have heq : atC cs a = atC cs b := Nat.eq_of_testBit_eq fun v => by
      rw [Bool.eq_iff_iff]
      exact ⟨hsub hb ha e.symm v, hsub ha hb e v⟩
    rw [atC, atC, List.getElem?_eq_getElem ha, List.getElem?_eq_getElem hb] at heq
    exact (List.getElem_inj (h₀ := ha) (h₁ := hb) hnd).1 heq
  · have h4 := hrk a ha v hav
    have h5 := hrk c hc v hcv
    exact in_clique h hn hr (hin b hb) (hrk b hb) (bit_lt (clique_lt h (hin a ha)) hav) (by omega) (by omega)
/-- An interval graph is chordal. -/
theorem interval_chd {n : Nat} {es : List (Int × Int)} {L H : Nat → Int} (hr : Rep es n L H) : Chd (nearE es) n (2 ^ n - 1) := by
  intro T hT h0 _
  obtain ⟨v, hv, hmin⟩ := least_of (f := H) (bitsN T n) (bits_some hT h0)
  rw [mem_bitsN hT] at hv
  refine ⟨v, hv, fun a b ha hb hva hvb hab => ?_⟩
  have hvn := bit_lt hT hv
  have han := bit_lt hT ha
  have hbn := bit_lt hT hb
  have nva : v ≠ a := fun e => nearE_irr es a (e ▸ hva)
  have nvb : v ≠ b := fun e => nearE_irr es b (e ▸ hvb)
  have h1 := (hr.near v a hvn han nva).1 hva
  have h2 := (hr.near v b hvn hbn nvb).1 hvb
  have h3 := hmin a ((mem_bitsN hT).2 ha)
  have h4 := hmin b ((mem_bitsN hT).2 hb)
  exact (hr.near a b han hbn hab).2 ⟨by omega, by omega⟩

/-! ### A chordal graph has at most as many maximal cliques as nodes -/
theorem same_first {n : Nat} {gs : List Nat} {es : List (Int × Int)} (h : Adj n gs es) (hn : n ≤ 12) {C D : Nat} (hC : ∀ a b, C.testBit a = true → C.testBit b = true → a ≠ b → nearE es a b) (hD : ∀ a b, D.testBit a = true → D.testBit b = true → a ≠ b → nearE es a b) :
    ∀ (f s v : Nat), s < 2 ^ n → Sub C s → Sub D s → (elimAll gs f s).find? (fun b => C.testBit b) = some v → (elimAll gs f s).find? (fun b => D.testBit b) = some v → ∀ a b, C.testBit a = true → D.testBit b = true → a ≠ b → nearE es a b
  | 0, s, v, _, _, _, h1, _ => by simp [elimAll] at h1
  | f + 1, s, v, hs, hCs, hDs, h1, h2 => by
    rw [elimAll] at h1 h2
    cases he : elimOf gs s with
    | none => rw [he] at h1; simp at h1
    | some u =>
      rw [he] at h1 h2
      have hu := (elimAt_iff h hn hs).1 (elimOf_at he)
      have hun := bit_lt hs hu.1
      have h16 : 2 ^ n ≤ 65536 := Nat.le_trans (Nat.pow_le_pow_right (by omega) hn) (by decide)
      simp only [List.find?_cons] at h1 h2
      have hvC : C.testBit v = true := by
        split at h1
        · rename_i hh; cases h1; exact hh
        · exact List.find?_some (p := fun b => C.testBit b) h1
      have hvD : D.testBit v = true := by
        split at h2
        · rename_i hh; cases h2; exact hh
        · exact List.find?_some (p := fun b => D.testBit b) h2
      by_cases huC : C.testBit u = true
      · rw [huC] at h1
        have hvu : u = v := by simpa using h1
        subst hvu
        intro a b ha hb hab
        by_cases ea : a = u
        · subst ea; exact hD a b hvD hb hab
        · by_cases eb : b = u
          · subst eb; exact hC a b ha hvC hab
          · exact hu.2 a b (hCs a ha) (hDs b hb) (hC u a hvC ha (Ne.symm ea)) (hD u b hvD hb (Ne.symm eb)) hab
      · by_cases huD : D.testBit u = true
        · rw [huD] at h2
          have hvu : u = v := by simpa using h2
          subst hvu
          exact absurd hvC huC
        · rw [Bool.not_eq_true] at huC huD
          rw [huC] at h1
          rw [huD] at h2
          refine same_first h hn hC hD f (s &&& (65535 - 2 ^ u)) v (Nat.lt_of_le_of_lt Nat.and_le_left hs) (fun b hb => ?_) (fun b hb => ?_) h1 h2
          · rw [without_bit (by omega) (by omega), hCs b hb]
            have : u ≠ b := fun e => by subst e; rw [hb] at huC; cases huC
            simpa using this
          · rw [without_bit (by omega) (by omega), hDs b hb]
            have : u ≠ b := fun e => by subst e; rw [hb] at huD; cases huD
            simpa using this
theorem clique_pairs {n : Nat} {gs : List Nat} {es : List (Int × Int)} (h : Adj n gs es) (hn : n ≤ 12) {C : Nat} (hC : C ∈ cliquesN gs) : ∀ a b, C.testBit a = true → C.testBit b = true → a ≠ b → nearE es a b := fun _ b ha hb hab =>
  ((clique_max h hn hC (bit_lt (clique_lt h hC) ha)).1 ha b hb).resolve_left hab
theorem clique_few {n : Nat} {gs : List Nat} {es : List (Int × Int)} (h : Adj n gs es) (hn : n ≤ 12) (h1 : 1 ≤ n) (hc : (ordN n gs).length = n) : (cliquesN gs).length ≤ n := by
  obtain ⟨o1, o2, _⟩ := elimAll_order h hn (2 ^ n - 1 + 1) (2 ^ n - 1) (full_lt n)
  have hperm := nodup_perm o1 (L := List.range n) (fun x hx => List.mem_range.2 (bit_lt (full_lt n) (o2 x hx))) (by rw [List.length_range]; exact Nat.le_of_eq hc.symm)
  have hall : ∀ b, b < n → b ∈ ordN n gs := fun b hb => hperm.mem_iff.2 (List.mem_range.2 hb)
  have hsub : ∀ C ∈ cliquesN gs, Sub C (2 ^ n - 1) := fun C hC b hb => by rw [full_bits, decide_eq_true_iff]; exact bit_lt (clique_lt h hC) hb
  have hfind : ∀ C ∈ cliquesN gs, ∃ v, (ordN n gs).find? (fun b => C.testBit b) = some v := fun C hC => by
    obtain ⟨b, hb⟩ := some_bit (clique_some h hn h1 hC)
    cases hf : (ordN n gs).find? (fun b => C.testBit b) with
    | some v => exact ⟨v, rfl⟩
    | none => exact absurd hb (List.find?_eq_none.1 hf b (hall b (bit_lt (clique_lt h hC) hb)))
  have hnd : ((cliquesN gs).map fun C => ((ordN n gs).find? (fun b => C.testBit b)).getD 0).Nodup := by
    have hcl : (cliquesN gs).Nodup := List.nodup_range.sublist List.filter_sublist
    rw [List.Nodup, List.pairwise_map]
    refine List.Pairwise.imp_of_mem (fun {C D} hC hD hCD e => ?_) hcl
    obtain ⟨v, hv⟩ := hfind C hC
    obtain ⟨u, hu⟩ := hfind D hD
    simp only [hv, hu, Option.getD_some] at e
    subst e
    have hno := same_first h hn (clique_pairs h hn hC) (clique_pairs h hn hD) (2 ^ n - 1 + 1) (2 ^ n - 1) v (full_lt n) (hsub C hC) (hsub D hD) hv hu
    refine hCD (Nat.eq_of_testBit_eq fun b => ?_)
    rw [Bool.eq_iff_iff]
    constructor
    · intro hb
      refine (clique_max h hn hD (bit_lt (clique_lt h hC) hb)).2 fun c hc => ?_
      by_cases e : b = c
      · exact .inl e
      · exact .inr (hno b c hb hc e)
    · intro hb
      refine (clique_max h hn hC (bit_lt (clique_lt h hD) hb)).2 fun c hc => ?_
      by_cases e : b = c
      · exact .inl e
      · exact .inr (nearE_sym es _ _ (hno c b hc hb (Ne.symm e)))
  have := List.Nodup.length_le_of_subset hnd (l₂ := List.range n) fun x hx => by
    obtain ⟨C, hC, rfl⟩ := List.mem_map.1 hx
    obtain ⟨v, hv⟩ := hfind C hC
    rw [hv, Option.getD_some]
    exact List.mem_range.2 (bit_lt (clique_lt h hC) (List.find?_some (p := fun b => C.testBit b) hv))
  rwa [List.length_map, List.length_range] at this
end

section
theorem last_up (p : Nat → Prop) : ∀ k, (∃ s, s < k ∧ p s) → ∃ s, s < k ∧ p s ∧ ∀ t, s < t → t < k → ¬ p t := by
  intro k
  induction k with
  | zero => rintro ⟨s, h, _⟩; omega
  | succ k ih =>
    rintro ⟨s0, h0, hp0⟩
    by_cases hk : p k
    · exact ⟨k, by omega, hk, fun t h1 h2 => by omega⟩
    · have hlt : s0 < k := by
        by_cases e : s0 = k
        · subst e; exact absurd hp0 hk
        · omega
      obtain ⟨s, h1, h2, h3⟩ := ih ⟨s0, hlt, hp0⟩
      refine ⟨s, by omega, h2, fun t h4 h5 => ?_⟩
      by_cases e : t = k
      · subst e; exact hk
      · exact h3 t h4 (by omega)
theorem clique_ext {n : Nat} {gs : List Nat} {es : List (Int × Int)} (h : Adj n gs es) (hn : n ≤ 12) {s0 : Nat} (hs0 : s0 < 2 ^ n) (hc0 : ∀ a b : Nat, s0.testBit a = true → s0.testBit b = true → a ≠ b → nearB es a b = true) : ∃ s ∈ cliquesN gs, ∀ b, s0.testBit b = true → s.testBit b = true := by
  obtain ⟨s, hs, ⟨hc, hsub⟩, hlast⟩ := last_up (fun s => (∀ a b : Nat, s.testBit a = true → s.testBit b = true → a ≠ b → nearB es a b = true) ∧ ∀ b, s0.testBit b = true → s.testBit b = true) (2 ^ n) ⟨s0, hs0, hc0, fun _ hb => hb⟩
  have hmax : maxAt gs s = true := by
    rw [max_same h hn hs, maxR, Bool.and_eq_true]
    have hcl : cliqueR es (bitsR s n) = true := by
      rw [cliqueR_mem (bitsR_nodup s n)]
      intro a ha b hb hab
      obtain ⟨x, rfl, _, hx⟩ := mem_bitsR.1 ha
      obtain ⟨y, rfl, _, hy⟩ := mem_bitsR.1 hb
      exact hc x y hx hy (by omega)
    refine ⟨hcl, ?_⟩
    simp only [wholeR, List.all_eq_true, List.mem_range, wholeAt, Bool.or_eq_true, Bool.not_eq_true']
    intro i hi
    cases hsi : s.testBit i with
    | true => exact .inl rfl
    | false =>
      refine .inr ?_
      rw [Bool.eq_false_iff]
      intro hcc
      have h2 := (clique_more hsi hcl).1 hcc
      have hp : 2 ^ i < 2 ^ n := Nat.pow_lt_pow_right (by omega) hi
      have hlt : s ||| 2 ^ i < 2 ^ n := Nat.or_lt_two_pow hs hp
      have hgt : s < s ||| 2 ^ i := by
        refine Nat.lt_of_le_of_ne Nat.left_le_or fun e => ?_
        have := congrArg (fun z => Nat.testBit z i) e
        simp [Nat.testBit_or, hsi] at this
      refine hlast _ hgt hlt ⟨fun a b ha hb hab => ?_, fun b hb => by rw [Nat.testBit_or, hsub b hb]; rfl⟩
      rw [Nat.testBit_or, Nat.testBit_two_pow, Bool.or_eq_true, decide_eq_true_eq] at ha hb
      rcases ha with ha | rfl <;> rcases hb with hb | rfl
      · exact hc a b ha hb hab
      · rw [nearB_comm]; exact h2 a (bit_lt hs ha) ha
      · exact h2 b (bit_lt hs hb) hb
      · exact absurd rfl hab
  refine ⟨s, ?_, hsub⟩
  unfold cliquesN clsTo
  rw [List.mem_filter, List.mem_range, h.len]
  exact ⟨hs, hmax⟩

/-- The numbers of a row: each number that is not there before comes once, and each clique contains what cliques before it and behind it contain. -/
theorem search_row {cs : List Nat} (hk : cs.length ≤ 16) (h16 : ∀ x ∈ cs, x < 65536) : ∀ (f S : Nat) (r : List Nat), S < 2 ^ cs.length → cntN S + f = cs.length → searchN cs f S = some r →
    ∃ I : List Nat, r = I.map (atC cs) ∧ (∀ i, i ∈ I ↔ i < cs.length ∧ S.testBit i = false) ∧
      ∀ (A : List Nat) (q : Nat) (B : List Nat), I = A ++ q :: B → ∀ v, (∃ i, i < cs.length ∧ (S.testBit i = true ∨ i ∈ A) ∧ (atC cs i).testBit v = true) → (∃ j ∈ q :: B, (atC cs j).testBit v = true) → (atC cs q).testBit v = true
  | 0, S, r, hS, hf, h => by
    rw [searchN_done (by omega)] at h
    cases h
    have hall : ∀ i, i < cs.length → S.testBit i = true := fun i hi => by
      have h1 : ((List.range 16).filter fun b => S.testBit b).Nodup := List.nodup_range.sublist List.filter_sublist
      have hp := nodup_perm h1 (L := List.range cs.length) (fun x hx => by
        rw [List.mem_filter] at hx
        exact List.mem_range.2 (bit_lt hS hx.2)) (by rw [List.length_range]; have : cntN S = cs.length := by omega
                                                     exact Nat.le_of_eq this.symm)
      exact (List.mem_filter.1 (hp.mem_iff.2 (List.mem_range.2 hi))).2
    exact ⟨[], rfl, fun i => ⟨fun hi => by simp at hi, fun ⟨h1, h2⟩ => by rw [hall i h1] at h2; cases h2⟩, fun A q B e => by simp at e⟩
  | f + 1, S, r, hS, hf, h => by
    rw [searchN_succ (by omega)] at h
    obtain ⟨i, hi, hi2⟩ := List.exists_of_findSome?_eq_some h
    rw [List.mem_range] at hi
    rw [turnN] at hi2
    split at hi2
    · rename_i hst
      obtain ⟨r', hr', rfl⟩ := Option.map_eq_some_iff.1 hi2
      rw [stepB, Bool.and_eq_true, Bool.not_eq_true'] at hst
      obtain ⟨hiS, hsub⟩ := hst
      have h65 : ∀ x ∈ cs, x < 2 ^ 16 := h16
      rw [subB_iff (atC_lt (by omega) h16 i) (waitN_lt (m := 16) h65 S)] at hsub
      obtain ⟨I, rfl, hmem, hcon⟩ := search_row hk h16 f (S ||| 2 ^ i) r' (Nat.or_lt_two_pow hS (Nat.pow_lt_pow_right (by omega) hi)) (by rw [cnt_or (by omega) hiS]; omega) hr'
      have hbit : ∀ j, (S ||| 2 ^ i).testBit j = false ↔ S.testBit j = false ∧ i ≠ j := fun j => by
        rw [Nat.testBit_or, Nat.testBit_two_pow, Bool.or_eq_false_iff, decide_eq_false_iff_not]
      have hbit2 : ∀ j, (S ||| 2 ^ i).testBit j = true ↔ S.testBit j = true ∨ i = j := fun j => by
        rw [Nat.testBit_or, Nat.testBit_two_pow, Bool.or_eq_true, decide_eq_true_iff]
      refine ⟨i :: I, rfl, fun j => ?_, fun A q B e v hb ha => ?_⟩
      · rw [List.mem_cons, hmem, hbit]
        constructor
        · rintro (rfl | ⟨h1, h2, _⟩)
          · exact ⟨hi, hiS⟩
          · exact ⟨h1, h2⟩
        · rintro ⟨h1, h2⟩
          by_cases e : j = i
          · exact .inl e
          · exact .inr ⟨h1, h2, fun e' => e e'.symm⟩
      · cases A with
        | nil =>
          simp only [List.nil_append, List.cons.injEq] at e
          obtain ⟨rfl, rfl⟩ := e
          obtain ⟨a, ha1, ha2, ha3⟩ := hb
          obtain ⟨j, hj1, hj2⟩ := ha
          rcases List.mem_cons.1 hj1 with rfl | hj1
          · exact hj2
          · have hjm := (hmem j).1 hj1
            rw [hbit] at hjm
            refine hsub v ?_
            rw [waitN, Nat.testBit_and, Bool.and_eq_true, befN_bit, aftN_bit]
            exact ⟨⟨a, ha1, by simpa using ha2, ha3⟩, ⟨j, hjm.1, hjm.2.1, hj2⟩⟩
        | cons a0 A =>
          simp only [List.cons_append, List.cons.injEq] at e
          obtain ⟨rfl, rfl⟩ := e
          obtain ⟨a, ha1, ha2, ha3⟩ := hb
          refine hcon A q B rfl v ⟨a, ha1, ?_, ha3⟩ ha
          rcases ha2 with h1 | h1
          · exact .inl ((hbit2 a).2 (.inl h1))
          · rcases List.mem_cons.1 h1 with rfl | h1
            · exact .inl ((hbit2 a).2 (.inr rfl))
            · exact .inr h1
    · cases hi2
theorem split_at {α : Type} {I : List α} {q : Nat} (hq : q < I.length) : I = I.take q ++ I[q] :: I.drop (q + 1) := by
  rw [← List.drop_eq_getElem_cons hq, List.take_append_drop]
/-- A row gives spans: of each node the first place and the last one. -/
theorem row_rep {n : Nat} {gs : List Nat} {es : List (Int × Int)} (h : Adj n gs es) (hn : n ≤ 12) (hk : (srtN (cliquesN gs)).length ≤ 16) {r : List Nat} (hr : searchN (srtN (cliquesN gs)) (srtN (cliquesN gs)).length 0 = some r) : ∃ L H : Nat → Int, Rep es n L H := by
  have h16 : 2 ^ n ≤ 65536 := Nat.le_trans (Nat.pow_le_pow_right (by omega) hn) (by decide)
  obtain ⟨cs, hcs⟩ : ∃ cs, srtN (cliquesN gs) = cs := ⟨_, rfl⟩
  have hin : ∀ i, i < cs.length → atC cs i ∈ cliquesN gs := fun i hi => by
    rw [atC, List.getElem?_eq_getElem hi]
    exact srt_mem.1 (by rw [hcs]; exact List.getElem_mem hi)
  have hof : ∀ C ∈ cliquesN gs, ∃ i, i < cs.length ∧ atC cs i = C := fun C hC => by
    have := srt_mem.2 hC
    rw [hcs] at this
    obtain ⟨i, hi, e⟩ := List.getElem_of_mem this
    exact ⟨i, hi, by rw [atC, List.getElem?_eq_getElem hi]; exact e⟩
  rw [hcs] at hk hr
  obtain ⟨I, rfl, hmem, hcon⟩ := search_row hk (fun x hx => Nat.lt_of_lt_of_le (clique_lt h (srt_mem.1 (by rw [hcs]; exact hx))) h16) cs.length 0 r (Nat.pow_pos (by omega)) (by rw [show cntN 0 = 0 by decide]; omega) hr
  have hmem' : ∀ i, i ∈ I ↔ i < cs.length := fun i => by rw [hmem, Nat.zero_testBit]; simp
  -- a clique that contains some nodes stands in the row
  have place : ∀ s0, s0 < 2 ^ n → (∀ a b : Nat, s0.testBit a = true → s0.testBit b = true → a ≠ b → nearB es a b = true) → ∃ p, ∃ hp : p < I.length, ∀ b, s0.testBit b = true → (atC cs I[p]).testBit b = true := fun s0 hs0 hc0 => by
    obtain ⟨C, hC, hsub⟩ := clique_ext h hn hs0 hc0
    obtain ⟨i, hi, rfl⟩ := hof C hC
    obtain ⟨p, hp, e⟩ := List.getElem_of_mem ((hmem' i).2 hi)
    exact ⟨p, hp, fun b hb => by rw [e]; exact hsub b hb⟩
  have mid : ∀ (v p q s : Nat) (hp : p < I.length) (hq : q < I.length) (hs : s < I.length), p ≤ q → q ≤ s → (atC cs I[p]).testBit v = true → (atC cs I[s]).testBit v = true → (atC cs I[q]).testBit v = true := fun v p q s hp hq hs h1 h2 hpv hsv => by
    by_cases e1 : p = q
    · subst e1; exact hpv
    · refine hcon (I.take q) I[q] (I.drop (q + 1)) (split_at hq) v ⟨I[p], (hmem' _).1 (List.getElem_mem hp), .inr ?_, hpv⟩ ⟨I[s], ?_, hsv⟩
      · rw [List.mem_take_iff_getElem]
        exact ⟨p, by omega, rfl⟩
      · rw [← List.drop_eq_getElem_cons hq, List.mem_drop_iff_getElem]
        exact ⟨s - q, by omega, by simp [Nat.add_sub_cancel' h2]⟩
  have ends : ∀ v, ∃ lh : Nat × Nat, v < n → ∃ (h1 : lh.1 < I.length) (h2 : lh.2 < I.length), (atC cs I[lh.1]).testBit v = true ∧ (atC cs I[lh.2]).testBit v = true ∧ ∀ (p : Nat) (hp : p < I.length), (atC cs I[p]).testBit v = true → lh.1 ≤ p ∧ p ≤ lh.2 := fun v => by
    by_cases hv : v < n
    · obtain ⟨p0, hp0, hb0⟩ := place (2 ^ v) (Nat.pow_lt_pow_right (by omega) hv) (fun a b ha hb hab => by
        rw [Nat.testBit_two_pow, decide_eq_true_iff] at ha hb; omega)
      have hbit0 := hb0 v (by rw [Nat.testBit_two_pow]; simp)
      have hne : ((List.range I.length).filter fun p => (atC cs (I[p]?.getD 0)).testBit v) ≠ [] := fun e => by
        rw [List.filter_eq_nil_iff] at e
        have := e p0 (List.mem_range.2 hp0)
        rw [List.getElem?_eq_getElem hp0] at this
        exact this hbit0
      obtain ⟨l, hl, hlmin⟩ := least_of (f := fun p => (p : Int)) _ hne
      obtain ⟨m, hm, hmmax⟩ := least_of (f := fun p => -(p : Int)) _ hne
      rw [List.mem_filter, List.mem_range] at hl hm
      refine ⟨(l, m), fun _ => ⟨hl.1, hm.1, ?_, ?_, fun p hp hpv => ?_⟩⟩
      · have := hl.2; rwa [List.getElem?_eq_getElem hl.1] at this
      · have := hm.2; rwa [List.getElem?_eq_getElem hm.1] at this
      · have hpf : p ∈ (List.range I.length).filter fun p => (atC cs (I[p]?.getD 0)).testBit v := List.mem_filter.2 ⟨List.mem_range.2 hp, by rw [List.getElem?_eq_getElem hp]; exact hpv⟩
        have h1 := hlmin p hpf
        have h2 := hmmax p hpf
        exact ⟨by omega, by omega⟩
    · exact ⟨(0, 0), fun h => absurd h hv⟩
  obtain ⟨lh, hlh⟩ := Classical.axiomOfChoice ends
  refine ⟨fun v => ((lh v).1 : Int), fun v => ((lh v).2 : Int), ⟨fun v hv => ?_, fun a b ha hb hab => ⟨fun hE => ?_, fun hE => ?_⟩⟩⟩
  · obtain ⟨h1, h2, h3, h4, h5⟩ := hlh v hv
    have := (h5 _ h1 h3).2
    omega
  · have hpa : 2 ^ a < 2 ^ n := Nat.pow_lt_pow_right (by omega) ha
    have hpb : 2 ^ b < 2 ^ n := Nat.pow_lt_pow_right (by omega) hb
    obtain ⟨p, hp, hpp⟩ := place (2 ^ a ||| 2 ^ b) (Nat.or_lt_two_pow hpa hpb) (fun x y hx hy hxy => by
      rw [Nat.testBit_or, Nat.testBit_two_pow, Nat.testBit_two_pow, Bool.or_eq_true, decide_eq_true_iff, decide_eq_true_iff] at hx hy
      rcases hx with rfl | rfl <;> rcases hy with rfl | rfl
      · exact absurd rfl hxy
      · exact hE
      · rw [nearB_comm]; exact hE
      · exact absurd rfl hxy)
    obtain ⟨_, _, _, _, ha5⟩ := hlh a ha
    obtain ⟨_, _, _, _, hb5⟩ := hlh b hb
    have h1 := ha5 p hp (hpp a (by rw [Nat.testBit_or, Nat.testBit_two_pow]; simp))
    have h2 := hb5 p hp (hpp b (by rw [Nat.testBit_or, Nat.testBit_two_pow, Nat.testBit_two_pow]; simp))
    omega
  · obtain ⟨a1, a2, a3, a4, _⟩ := hlh a ha
    obtain ⟨b1, b2, b3, b4, _⟩ := hlh b hb
    obtain ⟨p, hp, hp1, hp2, hp3, hp4⟩ : ∃ p, p < I.length ∧ (lh a).1 ≤ p ∧ p ≤ (lh a).2 ∧ (lh b).1 ≤ p ∧ p ≤ (lh b).2 := by
      rcases Nat.le_total (lh a).1 (lh b).1 with h1 | h1
      · exact ⟨(lh b).1, b1, h1, by omega, Nat.le_refl _, by have := (hlh b hb).2.2.2.2 _ b1 b3; omega⟩
      · exact ⟨(lh a).1, a1, Nat.le_refl _, by have := (hlh a ha).2.2.2.2 _ a1 a3; omega, h1, by omega⟩
    have hpa := mid a _ p _ a1 hp a2 hp1 hp2 a3 a4
    have hpb := mid b _ p _ b1 hp b2 hp3 hp4 b3 b4
    exact clique_pairs h hn (hin _ ((hmem' _).1 (List.getElem_mem hp))) a b hpa hpb hab
end

section
theorem validFrom_iff (n : Int) : ∀ (es pre : List (Int × Int)), validFrom n pre es = true ↔ (∀ e ∈ es, 0 ≤ e.1 ∧ e.1 < e.2 ∧ e.2 < n) ∧ es.Nodup ∧ ∀ e ∈ es, e ∉ pre
  | [], pre => by simp [validFrom]
  | e :: es, pre => by
    rw [validFrom, Bool.and_eq_true, validFrom_iff n es (pre ++ [e])]
    have hok : okE n pre e = true ↔ (0 ≤ e.1 ∧ e.1 < e.2 ∧ e.2 < n) ∧ e ∉ pre := by
      simp only [okE, inR, Bool.and_eq_true, decide_eq_true_eq, Bool.not_eq_true', List.any_eq_false, beq_iff_eq]
      constructor
      · rintro ⟨⟨h1, h2⟩, ⟨h3, h4⟩, h5⟩
        exact ⟨⟨by omega, by omega, by omega⟩, fun hm => h5 e hm rfl⟩
      · rintro ⟨⟨h1, h2, h3⟩, h5⟩
        exact ⟨⟨by omega, by omega⟩, ⟨by omega, by omega⟩, fun x hx hxe => h5 (hxe ▸ hx)⟩
    rw [hok]
    constructor
    · rintro ⟨⟨h1, h2⟩, h3, h4, h5⟩
      refine ⟨fun x hx => ?_, List.nodup_cons.2 ⟨fun hm => (h5 e hm) (by simp), h4⟩, fun x hx => ?_⟩
      · rcases List.mem_cons.1 hx with rfl | hx
        · exact h1
        · exact h3 x hx
      · rcases List.mem_cons.1 hx with rfl | hx
        · exact h2
        · exact fun hm => h5 x hx (by simp [hm])
    · rintro ⟨h1, h2, h3⟩
      obtain ⟨h4, h5⟩ := List.nodup_cons.1 h2
      refine ⟨⟨h1 e (by simp), h3 e (by simp)⟩, fun x hx => h1 x (by simp [hx]), h5, fun x hx hm => ?_⟩
      rcases List.mem_append.1 hm with hm | hm
      · exact h3 x (by simp [hx]) hm
      · rw [List.mem_singleton] at hm
        subst hm; exact h4 hx
theorem graphR_iff {n : Int} {es : List (Int × Int)} : graphR n es = true ↔ (1 ≤ n ∧ n ≤ 12) ∧ (∀ e ∈ es, 0 ≤ e.1 ∧ e.1 < e.2 ∧ e.2 < n) ∧ es.Nodup := by
  rw [graphR, Bool.and_eq_true, validFrom_iff, inR, Bool.and_eq_true, decide_eq_true_iff, decide_eq_true_iff]
  constructor
  · rintro ⟨h1, h2, h3, _⟩; exact ⟨h1, h2, h3⟩
  · rintro ⟨h1, h2, h3⟩; exact ⟨h1, h2, h3, fun e _ => by simp⟩
/-- One edge more. -/
theorem graphR_snoc {n : Int} {es : List (Int × Int)} {a b : Int} (h : graphR n es = true) (ha : 0 ≤ a ∧ a < n) (hb : 0 ≤ b ∧ b < n) (hab : a ≠ b) (hn : nearB es a b = false) : graphR n (es ++ [(min a b, max a b)]) = true := by
  rw [graphR_iff] at h ⊢
  obtain ⟨h1, h2, h3⟩ := h
  refine ⟨h1, fun e he => ?_, ?_⟩
  · rcases List.mem_append.1 he with he | he
    · exact h2 e he
    · rw [List.mem_singleton] at he
      subst he
      simp only []
      omega
  · rw [List.nodup_append]
    refine ⟨h3, by simp, fun x hx y hy e => ?_⟩
    rw [List.mem_singleton] at hy
    subst hy
    subst e
    rw [nearB_iff.2 ⟨hx, hab⟩] at hn
    cases hn

/-! ### Without a node -/
def dnZ (v i : Int) : Int := if v < i then i - 1 else i
def upZ (v i : Int) : Int := if i < v then i else i + 1
def keepE (v : Int) (e : Int × Int) : Bool := decide (e.1 ≠ v) && decide (e.2 ≠ v)
def dnE (v : Int) (e : Int × Int) : Int × Int := (dnZ v e.1, dnZ v e.2)
def woE (v : Int) (es : List (Int × Int)) : List (Int × Int) := (es.filter (keepE v)).map (dnE v)
theorem dn_up (v i : Int) : dnZ v (upZ v i) = i := by unfold dnZ upZ; split <;> split <;> omega
theorem up_dn {v i : Int} (h : i ≠ v) : upZ v (dnZ v i) = i := by unfold dnZ upZ; split <;> split <;> omega
theorem up_ne (v i : Int) : upZ v i ≠ v := by unfold upZ; split <;> omega
theorem woE_good {n v : Int} {es : List (Int × Int)} (h : graphR n es = true) (hn : 2 ≤ n) (hv : 0 ≤ v ∧ v < n) : graphR (n - 1) (woE v es) = true := by
  rw [graphR_iff] at h ⊢
  obtain ⟨h1, h2, h3⟩ := h
  refine ⟨by omega, fun e he => ?_, ?_⟩
  · obtain ⟨x, hx, rfl⟩ := List.mem_map.1 he
    rw [List.mem_filter, keepE, Bool.and_eq_true, decide_eq_true_iff, decide_eq_true_iff] at hx
    have := h2 x hx.1
    have h4 := hx.2.1
    have h5 := hx.2.2
    unfold dnE dnZ
    simp only []
    split <;> split <;> omega
  · rw [woE, List.Nodup, List.pairwise_map]
    refine List.Pairwise.imp_of_mem (fun {x y} hx hy hxy e => hxy ?_) (h3.sublist List.filter_sublist)
    rw [List.mem_filter, keepE, Bool.and_eq_true, decide_eq_true_iff, decide_eq_true_iff] at hx hy
    unfold dnE at e
    rw [Prod.mk.injEq] at e
    have e1 := congrArg (upZ v) e.1
    have e2 := congrArg (upZ v) e.2
    rw [up_dn hx.2.1, up_dn hy.2.1] at e1
    rw [up_dn hx.2.2, up_dn hy.2.2] at e2
    exact Prod.ext e1 e2
theorem near_wo {v : Int} {es : List (Int × Int)} (a b : Int) : nearB (woE v es) a b = nearB es (upZ v a) (upZ v b) := by
  rw [Bool.eq_iff_iff, nearB_iff, nearB_iff]
  have hmm : min (upZ v a) (upZ v b) = upZ v (min a b) ∧ max (upZ v a) (upZ v b) = upZ v (max a b) := by
    unfold upZ
    constructor <;> (split <;> split <;> split <;> omega)
  rw [hmm.1, hmm.2]
  have hne : a ≠ b ↔ upZ v a ≠ upZ v b := not_congr ⟨fun e => by rw [e], fun e => by have := congrArg (dnZ v) e; rwa [dn_up, dn_up] at this⟩
  rw [← hne]
  refine and_congr_left fun _ => ?_
  rw [woE, List.mem_map]
  constructor
  · rintro ⟨x, hx, e⟩
    rw [List.mem_filter, keepE, Bool.and_eq_true, decide_eq_true_iff, decide_eq_true_iff] at hx
    unfold dnE at e
    rw [Prod.mk.injEq] at e
    have e1 := congrArg (upZ v) e.1
    have e2 := congrArg (upZ v) e.2
    rw [up_dn hx.2.1] at e1
    rw [up_dn hx.2.2] at e2
    rw [← e1, ← e2]
    exact hx.1
  · intro hx
    exact ⟨_, List.mem_filter.2 ⟨hx, by rw [keepE, Bool.and_eq_true, decide_eq_true_iff, decide_eq_true_iff]; exact ⟨up_ne v _, up_ne v _⟩⟩, by unfold dnE; simp only [dn_up]⟩
/-- The same for nodes as naturals. -/
def upN (v i : Nat) : Nat := if i < v then i else i + 1
def dnN (v i : Nat) : Nat := if v < i then i - 1 else i
theorem upN_Z (v i : Nat) : upZ (v : Int) (i : Int) = ((upN v i : Nat) : Int) := by unfold upZ upN; split <;> split <;> omega
theorem dnN_up (v i : Nat) : dnN v (upN v i) = i := by unfold dnN upN; split <;> split <;> omega
theorem upN_dn {v i : Nat} (h : i ≠ v) : upN v (dnN v i) = i := by unfold dnN upN; split <;> split <;> omega
theorem upN_ne (v i : Nat) : upN v i ≠ v := by unfold upN; split <;> omega
theorem upN_lt {v i n : Nat} (hv : v < n) (hi : i < n - 1) : upN v i < n := by unfold upN; split <;> omega
theorem nearE_wo {v : Nat} {es : List (Int × Int)} (a b : Nat) : nearE (woE v es) a b ↔ nearE es (upN v a) (upN v b) := by
  unfold nearE
  rw [near_wo, upN_Z, upN_Z]
theorem chd_wo {n v : Nat} {es : List (Int × Int)} (hv : v < n) (h : Chd (nearE es) n (2 ^ n - 1)) : Chd (nearE (woE v es)) (n - 1) (2 ^ (n - 1) - 1) := by
  intro T hT h0 _
  have bit : ∀ b, (maskP (fun b => decide (b ≠ v) && T.testBit (dnN v b)) n).testBit b = true ↔ b < n ∧ b ≠ v ∧ T.testBit (dnN v b) = true := fun b => by
    rw [maskP_bit, Bool.and_eq_true, Bool.and_eq_true, decide_eq_true_iff, decide_eq_true_iff]
  have bup : ∀ b, T.testBit b = true → (maskP (fun b => decide (b ≠ v) && T.testBit (dnN v b)) n).testBit (upN v b) = true := fun b hb => (bit _).2 ⟨upN_lt hv (bit_lt hT hb), upN_ne v b, by rw [dnN_up]; exact hb⟩
  obtain ⟨b0, hb0⟩ := some_bit h0
  obtain ⟨s, hs1, hs2⟩ := h _ (maskP_lt _ _) (not_zero (bup b0 hb0)) (fun b hb => by rw [full_bits, decide_eq_true_iff]; exact ((bit b).1 hb).1)
  obtain ⟨_, hsv, hsT⟩ := (bit s).1 hs1
  refine ⟨dnN v s, hsT, fun a b ha hb h1 h2 hab => ?_⟩
  rw [nearE_wo, upN_dn hsv] at h1 h2
  rw [nearE_wo]
  exact hs2 _ _ (bup a ha) (bup b hb) h1 h2 fun e => hab (by have := congrArg (dnN v) e; rwa [dnN_up, dnN_up] at this)
theorem rep_wo {n v : Nat} {es : List (Int × Int)} (hv : v < n) {L H : Nat → Int} (h : Rep es n L H) : Rep (woE v es) (n - 1) (fun a => L (upN v a)) (fun a => H (upN v a)) where
  le a ha := h.le _ (upN_lt hv ha)
  near a b ha hb hab := by
    rw [nearE_wo]
    exact h.near _ _ (upN_lt hv ha) (upN_lt hv hb) fun e => hab (by have := congrArg (dnN v) e; rwa [dnN_up, dnN_up] at this)

/-- The errors of Order and of Spans of a valid graph. -/
def errO (n : Nat) (gs : List Nat) : Int := if (ordI n gs).length < n then 5 else 0
def errS (n : Nat) (gs : List Nat) : Int := if (ordI n gs).length < n then 5 else if searchN (srtN (cliquesN gs)) (srtN (cliquesN gs)).length 0 = none then 5 else 0
theorem errO_chd {n : Nat} {gs : List Nat} {es : List (Int × Int)} (h : Adj n gs es) (hn : n ≤ 12) : errO n gs = 0 ↔ Chd (nearE es) n (2 ^ n - 1) := by
  rw [← chdB_iff h hn (full_lt n), ← chord_chdB h hn, chord_same h hn, decide_eq_true_iff, errO]
  obtain ⟨o1, o2, _⟩ := elimAll_order h hn (2 ^ n - 1 + 1) (2 ^ n - 1) (full_lt n)
  have h3 := List.Nodup.length_le_of_subset o1 (l₂ := List.range n) fun x hx => List.mem_range.2 (bit_lt (full_lt n) (o2 x hx))
  rw [List.length_range] at h3
  have h4 : (ordN n gs).length ≤ n := h3
  rw [ordI, List.length_map]
  split <;> omega
theorem errO_le (n : Nat) (gs : List Nat) : errO n gs = 0 ∨ errO n gs = 5 := by unfold errO; split <;> simp
theorem errS_le (n : Nat) (gs : List Nat) : errS n gs = 0 ∨ errS n gs = 5 := by unfold errS; split <;> (try split) <;> simp
theorem errS_rep {n : Nat} {gs : List Nat} {es : List (Int × Int)} (h : Adj n gs es) (h1 : 1 ≤ n) (hn : n ≤ 12) : errS n gs = 0 ↔ ∃ L H, Rep es n L H := by
  constructor
  · intro he
    have ho : errO n gs = 0 := by
      unfold errS at he; unfold errO
      split at he
      · cases he
      · rename_i hh; rw [if_neg hh]
    have hc := (errO_chd h hn).1 ho
    rw [← chdB_iff h hn (full_lt n), ← chord_chdB h hn, chord_same h hn, decide_eq_true_iff] at hc
    have hf := clique_few h hn h1 hc
    unfold errS at he
    split at he
    · cases he
    · split at he
      · cases he
      · rename_i hs
        obtain ⟨r, hr⟩ := Option.ne_none_iff_exists'.1 hs
        exact row_rep h hn (by rw [srt_len]; omega) hr
  · rintro ⟨L, H, hr⟩
    have hc := interval_chd hr
    have ho := (errO_chd h hn).2 hc
    rw [← chdB_iff h hn (full_lt n), ← chord_chdB h hn, chord_same h hn, decide_eq_true_iff] at hc
    have hf := clique_few h hn h1 hc
    unfold errO at ho
    split at ho
    · cases ho
    · rename_i hh
      rw [errS, if_neg hh, if_neg (interval_row h hn h1 hr (by rw [srt_len]; omega))]
/-- What the law says of the four errors. -/
theorem parts_true {n v : Nat} {gs hs : List Nat} {es : List (Int × Int)} (hg : Adj n gs es) (h2 : 2 ≤ n) (hn : n ≤ 12) (hv : v < n) (hh : Adj (n - 1) hs (woE v es)) :
    (errO n gs = 0 → errO (n - 1) hs = 0) ∧ (errS n gs = 0 → errS (n - 1) hs = 0 ∧ errO n gs = 0) := by
  refine ⟨fun h => (errO_chd hh (by omega)).2 (chd_wo hv ((errO_chd hg hn).1 h)), fun h => ?_⟩
  obtain ⟨L, H, hr⟩ := (errS_rep hg (by omega) hn).1 h
  exact ⟨(errS_rep hh (by omega) (by omega)).2 ⟨_, _, rep_wo hv hr⟩, (errO_chd hg hn).2 (interval_chd hr)⟩
end

end Go.Proofs.Yteckeobhlfddlaa.Rib
