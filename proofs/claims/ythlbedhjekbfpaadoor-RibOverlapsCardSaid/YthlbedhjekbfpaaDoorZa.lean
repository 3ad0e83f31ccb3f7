/-
  Pure: an interval graph has no asteroidal triple; the spans that a row of cliques gives are intervals of the graph; the graph of some spans.
-/
import Derived.Test.YthlbedhjekbfpaaDoorYd
import Derived.Test.YthlbedhjekbfpaaDoorXg
import Derived.Test.YthlbedhjekbfpaaDoorXf
import Derived.Test.YthlbedhjekbfpaaDoorXa
namespace Go.Proofs.YthlbedhjekbfpaaDoor

/-! ### No triple -/
theorem Rep.side {es : List (Int × Int)} {n : Nat} {L H : Nat → Int} (r : Rep es n L H) {m x y : Nat} (hm : m < n) (h : Wy (nearE es) (Past es n m) x y) (hx : H x < L m) : H y < L m := by
  induction h with
  | start _ => exact hx
  | step h1 h2 h3 ih =>
    rename_i u v
    have hu := h1.snd.1
    have hne : u ≠ v := fun e => nearE_irr es v (by rw [e] at h2; exact h2)
    have k1 := (r.near u v hu h3.1 hne).1 h2
    have k2 := h3.2.2
    rw [r.near m v hm h3.1 h3.2.1] at k2
    have k3 := r.le m hm
    omega
theorem Rep.trip {es : List (Int × Int)} {n : Nat} {L H : Nat → Int} (r : Rep es n L H) {x y z : Nat} (h : Trip es n x y z) : False := by
  obtain ⟨h1, h2, h3⟩ := h
  have px := h1.fst
  have py := h1.snd
  have qx := h2.fst
  have hx := px.1
  have hy := py.1
  have hz := h2.snd.1
  have a1 := px.2.2
  have a2 := py.2.2
  have a3 := qx.2.2
  rw [r.near z x hz hx px.2.1] at a1
  rw [r.near z y hz hy py.2.1] at a2
  rw [r.near y x hy hx qx.2.1] at a3
  have lx := r.le x hx
  have ly := r.le y hy
  have lz := r.le z hz
  have b1 := r.side hz h1
  have b2 := r.side hz (h1.symm (nearE_sym es))
  have b3 := r.side hy h2
  have b4 := r.side hy (h2.symm (nearE_sym es))
  have b5 := r.side hx h3
  have b6 := r.side hx (h3.symm (nearE_sym es))
  omega
theorem Rep.noTrip {es : List (Int × Int)} {n : Nat} {L H : Nat → Int} (r : Rep es n L H) : errT es n = 5 := by
  rw [errT, if_neg]
  rintro ⟨i, j, k, _, _, _, h⟩
  exact r.trip h

/-! ### The spans of a row -/
theorem searchLen {cs : List Nat} : ∀ (f S : Nat) (r : List Nat), searchN cs f S = some r → r.length ≤ f
  | 0, S, r, h => by
    rw [searchN] at h
    split at h
    · cases h; simp
    · cases h
  | f + 1, S, r, h => by
    by_cases hd : cntN S = cs.length
    · rw [searchN_done hd] at h; cases h; simp
    · rw [searchN_succ hd] at h
      obtain ⟨i, hi, hi2⟩ := List.exists_of_findSome?_eq_some h
      rw [turnN] at hi2
      split at hi2
      · obtain ⟨r', hr', rfl⟩ := Option.map_eq_some_iff.1 hi2
        have := searchLen f _ r' hr'
        simp; omega
      · cases hi2
theorem lastTo_spec (rs : List Nat) (v : Nat) : ∀ j, (∃ i, i < j ∧ (atC rs i).testBit v = true) → ∃ i, i < j ∧ lastTo rs v j = (i : Int) ∧ (atC rs i).testBit v = true ∧ ∀ p, p < j → (atC rs p).testBit v = true → p ≤ i
  | 0, ⟨i, h, _⟩ => by omega
  | j + 1, h => by
    by_cases hj : (atC rs j).testBit v = true
    · exact ⟨j, by omega, by rw [lastTo, if_pos hj], hj, fun p hp _ => by omega⟩
    · obtain ⟨i, hi, hb⟩ := h
      have : i ≠ j := fun e => hj (e ▸ hb)
      obtain ⟨k, k1, k2, k3, k4⟩ := lastTo_spec rs v j ⟨i, by omega, hb⟩
      refine ⟨k, by omega, by rw [lastTo, if_neg hj, k2], k3, fun p hp hpb => ?_⟩
      have : p ≠ j := fun e => hj (e ▸ hpb)
      exact k4 p (by omega) hpb
theorem idxN_spec (rs : List Nat) (v : Nat) (h : ∃ i, i < rs.length ∧ (atC rs i).testBit v = true) : ∃ i, i < rs.length ∧ idxN rs v = (i : Int) ∧ (atC rs i).testBit v = true ∧ ∀ p, p < rs.length → (atC rs p).testBit v = true → i ≤ p := by
  obtain ⟨i, hi, hb⟩ := h
  unfold idxN
  cases hf : (List.range rs.length).find? fun i => (atC rs i).testBit v with
  | none =>
    have := List.find?_eq_none.1 hf i (List.mem_range.2 hi)
    exact absurd hb this
  | some k =>
    obtain ⟨k1, k2, k3⟩ := List.find?_range_eq_some.1 hf
    refine ⟨k, List.mem_range.1 k2, rfl, k1, fun p hp hpb => ?_⟩
    by_cases hpk : p < k
    · have := k3 p hpk
      simp [hpb] at this
    · omega
/-- A row gives spans: of each node the first place and the last one. -/
theorem row_spans {n : Nat} {gs : List Nat} {es : List (Int × Int)} (h : Adj n gs es) (hn : n ≤ 12) (hk : (srtN (cliquesN gs)).length ≤ 16) {r : List Nat} (hr : searchN (srtN (cliquesN gs)) (srtN (cliquesN gs)).length 0 = some r) :
    (spansTo r n n).all spanB = true ∧ matchR es (spansTo r n n) n = true := by
  have h16 : 2 ^ n ≤ 65536 := Nat.le_trans (Nat.pow_le_pow_right (by omega) hn) (by decide)
  have hrl := searchLen _ _ _ hr
  obtain ⟨cs, hcs⟩ : ∃ cs, srtN (cliquesN gs) = cs := ⟨_, rfl⟩
  have hin : ∀ i, i < cs.length → atC cs i ∈ cliquesN gs := fun i hi => by
    rw [atC, List.getElem?_eq_getElem hi]
    exact srt_mem.1 (by rw [hcs]; exact List.getElem_mem hi)
  have hof : ∀ C ∈ cliquesN gs, ∃ i, i < cs.length ∧ atC cs i = C := fun C hC => by
    have := srt_mem.2 hC
    rw [hcs] at this
    obtain ⟨i, hi, e⟩ := List.getElem_of_mem this
    exact ⟨i, hi, by rw [atC, List.getElem?_eq_getElem hi]; exact e⟩
  rw [hcs] at hk hr hrl
  obtain ⟨I, hrI, hmem, hcon⟩ := search_row hk (fun x hx => Nat.lt_of_lt_of_le (clique_lt h (srt_mem.1 (by rw [hcs]; exact hx))) h16) cs.length 0 r (Nat.pow_pos (by omega)) (by rw [show cntN 0 = 0 by decide]; omega) hr
  have hmem' : ∀ i, i ∈ I ↔ i < cs.length := fun i => by rw [hmem, Nat.zero_testBit]; simp
  have hIl : r.length = I.length := by rw [hrI, List.length_map]
  have hat : ∀ (p : Nat) (hp : p < I.length), atC r p = atC cs I[p] := fun p hp => by
    rw [hrI, atC, List.getElem?_map, List.getElem?_eq_getElem hp]; rfl
  have place : ∀ s0, s0 < 2 ^ n → (∀ a b : Nat, s0.testBit a = true → s0.testBit b = true → a ≠ b → nearB es a b = true) → ∃ p, p < r.length ∧ ∀ b, s0.testBit b = true → (atC r p).testBit b = true := fun s0 hs0 hc0 => by
    obtain ⟨C, hC, hsub⟩ := clique_ext h hn hs0 hc0
    obtain ⟨i, hi, rfl⟩ := hof C hC
    obtain ⟨p, hp, e⟩ := List.getElem_of_mem ((hmem' i).2 hi)
    exact ⟨p, by omega, fun b hb => by rw [hat p hp, e]; exact hsub b hb⟩
  have mid : ∀ (v p q s : Nat), p < r.length → q < r.length → s < r.length → p ≤ q → q ≤ s → (atC r p).testBit v = true → (atC r s).testBit v = true → (atC r q).testBit v = true := fun v p q s hp hq hs h1 h2 hpv hsv => by
    rw [hIl] at hp hq hs
    rw [hat _ hp] at hpv
    rw [hat _ hs] at hsv
    rw [hat _ hq]
    by_cases e1 : p = q
    · subst e1; exact hpv
    · refine hcon (I.take q) I[q] (I.drop (q + 1)) (split_at hq) v ⟨I[p], (hmem' _).1 (List.getElem_mem hp), .inr ?_, hpv⟩ ⟨I[s], ?_, hsv⟩
      · rw [List.mem_take_iff_getElem]
        exact ⟨p, by omega, rfl⟩
      · rw [← List.drop_eq_getElem_cons hq, List.mem_drop_iff_getElem]
        exact ⟨s - q, by omega, by simp [Nat.add_sub_cancel' h2]⟩
  have hatS : ∀ v, v < n → atS (spansTo r n n) v = (idxN r v, lastTo r v r.length) := fun v hv => by
    rw [atS, spansTo, List.getElem?_map, List.getElem?_range hv, Option.map_some, if_pos hv]; rfl
  have ends : ∀ v, v < n → ∃ l m : Nat, atS (spansTo r n n) v = ((l : Int), (m : Int)) ∧ l < r.length ∧ m < r.length ∧ (atC r l).testBit v = true ∧ (atC r m).testBit v = true ∧ ∀ p, p < r.length → (atC r p).testBit v = true → l ≤ p ∧ p ≤ m := fun v hv => by
    obtain ⟨p0, hp0, hb0⟩ := place (2 ^ v) (Nat.pow_lt_pow_right (by omega) hv) (fun a b ha hb hab => by
      rw [Nat.testBit_two_pow, decide_eq_true_iff] at ha hb; omega)
    have hbit0 := hb0 v (by rw [Nat.testBit_two_pow]; simp)
    obtain ⟨l, l1, l2, l3, l4⟩ := idxN_spec r v ⟨p0, hp0, hbit0⟩
    obtain ⟨m, m1, m2, m3, m4⟩ := lastTo_spec r v r.length ⟨p0, hp0, hbit0⟩
    exact ⟨l, m, by rw [hatS v hv, l2, m2], l1, m1, l3, m3, fun p hp hb => ⟨l4 p hp hb, m4 p hp hb⟩⟩
  constructor
  · rw [List.all_eq_true]
    intro x hx
    obtain ⟨v, hv, rfl⟩ := List.getElem_of_mem hx
    rw [spansTo_len] at hv
    obtain ⟨l, m, e, h1, h2, h3, h4, h5⟩ := ends v hv
    rw [atS, List.getElem?_eq_getElem (by rw [spansTo_len]; exact hv)] at e
    have e' : (spansTo r n n)[v]'(by rw [spansTo_len]; exact hv) = ((l : Int), (m : Int)) := e
    rw [e', spanB]
    have := (h5 l h1 h3).2
    simp only [Bool.and_eq_true, decide_eq_true_eq]
    omega
  · rw [matchR, List.all_eq_true]
    intro a ha
    rw [List.all_eq_true]
    intro b hb
    rw [List.mem_range] at ha hb
    have hbn : b < n := by omega
    obtain ⟨la, ma, ea, a1, a2, a3, a4, a5⟩ := ends a ha
    obtain ⟨lb, mb, eb, b1, b2, b3, b4, b5⟩ := ends b hbn
    rw [matchRAt, beq_iff_eq, ea, eb, Bool.eq_iff_iff, meetB, Bool.and_eq_true, decide_eq_true_iff, decide_eq_true_iff]
    constructor
    · intro hE
      have hpa : 2 ^ a < 2 ^ n := Nat.pow_lt_pow_right (by omega) ha
      have hpb : 2 ^ b < 2 ^ n := Nat.pow_lt_pow_right (by omega) hbn
      obtain ⟨p, hp, hpp⟩ := place (2 ^ a ||| 2 ^ b) (Nat.or_lt_two_pow hpa hpb) (fun x y hx hy hxy => by
        rw [Nat.testBit_or, Nat.testBit_two_pow, Nat.testBit_two_pow, Bool.or_eq_true, decide_eq_true_iff, decide_eq_true_iff] at hx hy
        rcases hx with rfl | rfl <;> rcases hy with rfl | rfl
        · exact absurd rfl hxy
        · exact hE
        · rw [nearB_comm]; exact hE
        · exact absurd rfl hxy)
      have h1 := a5 p hp (hpp a (by rw [Nat.testBit_or, Nat.testBit_two_pow]; simp))
      have h2 := b5 p hp (hpp b (by rw [Nat.testBit_or, Nat.testBit_two_pow, Nat.testBit_two_pow]; simp))
      omega
    · rintro ⟨h1, h2⟩
      obtain ⟨p, hp, hp1, hp2, hp3, hp4⟩ : ∃ p, p < r.length ∧ la ≤ p ∧ p ≤ ma ∧ lb ≤ p ∧ p ≤ mb := by
        have := (a5 la a1 a3).2
        have := (b5 lb b1 b3).2
        rcases Nat.le_total la lb with h3 | h3
        · exact ⟨lb, b1, h3, by omega, Nat.le_refl _, by omega⟩
        · exact ⟨la, a1, Nat.le_refl _, by omega, h3, by omega⟩
      have hpa := mid a _ p _ a1 hp a2 hp1 hp2 a3 a4
      have hpb := mid b _ p _ b1 hp b2 hp3 hp4 b3 b4
      have hp' : p < I.length := by omega
      rw [hat p hp'] at hpa hpb
      exact clique_pairs h hn (hin _ ((hmem' _).1 (List.getElem_mem hp'))) a b hpa hpb (by omega)

/-! ### The graph of some spans -/
/-- The edges up to a place of the loop: all of the rows before a, and of the row a those before b. -/
structure OvI (sp : List (Int × Int)) (n : Nat) (es : List (Int × Int)) (a b : Nat) : Prop where
  ok : graphR n es = true
  few : es.length ≤ a * 12 + b
  near : ∀ x y : Nat, x < y → y < n → (nearB es x y = true ↔ meetB (atS sp x) (atS sp y) = true ∧ (x < a ∨ x = a ∧ y < b))
theorem OvI.zero (sp : List (Int × Int)) {n : Nat} (h1 : 1 ≤ n) (h2 : n ≤ 12) : OvI sp n [] 0 0 where
  ok := by rw [graphR_iff]; exact ⟨by omega, by simp, List.nodup_nil⟩
  few := by simp
  near x y _ _ := by simp [nearB]
theorem OvI.row {sp es : List (Int × Int)} {n a b : Nat} (h : OvI sp n es a b) (hb : b ≤ a + 1) : OvI sp n es a (a + 1) where
  ok := h.ok
  few := by have := h.few; omega
  near x y h1 h2 := by
    rw [h.near x y h1 h2]
    refine and_congr_right fun _ => ?_
    omega
theorem OvI.done {sp es : List (Int × Int)} {n a : Nat} (h : OvI sp n es a n) (hn : n ≤ 12) : OvI sp n es (a + 1) 0 where
  ok := h.ok
  few := by have := h.few; omega
  near x y h1 h2 := by
    rw [h.near x y h1 h2]
    refine and_congr_right fun _ => ?_
    omega
theorem OvI.skip {sp es : List (Int × Int)} {n a b : Nat} (h : OvI sp n es a b) (hm : meetB (atS sp a) (atS sp b) = false) : OvI sp n es a (b + 1) where
  ok := h.ok
  few := by have := h.few; omega
  near x y h1 h2 := by
    rw [h.near x y h1 h2]
    refine and_congr_right fun hxy => ?_
    have : ¬ (x = a ∧ y = b) := fun ⟨e1, e2⟩ => by subst e1; subst e2; rw [hm] at hxy; cases hxy
    omega
theorem OvI.more {sp es : List (Int × Int)} {n a b : Nat} (h : OvI sp n es a b) (hab : a < b) (hb : b < n) (hm : meetB (atS sp a) (atS sp b) = true) : OvI sp n (es ++ [((a : Int), (b : Int))]) a (b + 1) where
  ok := by
    have h1 : nearB es a b = false := by
      rw [Bool.eq_false_iff]
      intro e
      have := (h.near a b hab hb).1 e
      omega
    have := graphR_snoc h.ok (a := a) (b := b) (by omega) (by omega) (by omega) h1
    rwa [show min (a : Int) b = a by omega, show max (a : Int) b = b by omega] at this
  few := by have := h.few; rw [List.length_append]; simp; omega
  near x y h1 h2 := by
    have e : pairAt x y ((a : Int), (b : Int)) = true ↔ x = a ∧ y = b := by
      unfold pairAt
      simp only [Bool.and_eq_true, beq_iff_eq, bne_iff_ne, ne_eq]
      omega
    rw [nearB_snoc, Bool.or_eq_true, h.near x y h1 h2, e]
    constructor
    · rintro (⟨h3, h4⟩ | ⟨rfl, rfl⟩)
      · exact ⟨h3, by omega⟩
      · exact ⟨hm, by omega⟩
    · rintro ⟨h3, h4⟩
      by_cases he : x = a ∧ y = b
      · exact .inr he
      · exact .inl ⟨h3, by omega⟩
theorem OvI.match {sp es : List (Int × Int)} {n : Nat} (h : OvI sp n es n 0) : matchR es sp n = true := by
  rw [matchR, List.all_eq_true]
  intro a ha
  rw [List.all_eq_true]
  intro b hb
  rw [List.mem_range] at ha hb
  rw [matchRAt, beq_iff_eq, nearB_comm, meetB_comm, Bool.eq_iff_iff, h.near b a hb ha]
  exact ⟨fun k => k.1, fun k => ⟨k, by omega⟩⟩

end Go.Proofs.YthlbedhjekbfpaaDoor
