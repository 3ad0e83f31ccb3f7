/-
  A row that the search finds gives spans of the nodes; a graph without a node, pure.
-/
import Derived.Test.YticafbfijpjbnaaXa
namespace Go.Proofs.Yticafbfijpjbnaa

theorem last_up (p : Nat → Prop) : ∀ k, (∃ s, s < k ∧ p s) → ∃ s, s < k ∧ p s ∧ ∀ t, s < t → t < k → ¬ p t := by
  intro k
  induction k with
  | zero => rintro ⟨s, h, _⟩; omega
  | succ k ih =>
    rintro ⟨s0, h0, hp0⟩
    by_cases hk : p k
    · exact ⟨k, by omega, hk, fun t h1 h2 => by omega⟩
    · have hlt : s0 < k := by
        by_cases e : s0 = k
        · subst e; exact absurd hp0 hk
        · omega
      obtain ⟨s, h1, h2, h3⟩ := ih ⟨s0, hlt, hp0⟩
      refine ⟨s, by omega, h2, fun t h4 h5 => ?_⟩
      by_cases e : t = k
      · subst e; exact hk
      · exact h3 t h4 (by omega)
theorem clique_ext {n : Nat} {gs : List Nat} {es : List (Int × Int)} (h : Adj n gs es) (hn : n ≤ 12) {s0 : Nat} (hs0 : s0 < 2 ^ n) (hc0 : ∀ a b : Nat, s0.testBit a = true → s0.testBit b = true → a ≠ b → nearB es a b = true) : ∃ s ∈ cliquesN gs, ∀ b, s0.testBit b = true → s.testBit b = true := by
  obtain ⟨s, hs, ⟨hc, hsub⟩, hlast⟩ := last_up (fun s => (∀ a b : Nat, s.testBit a = true → s.testBit b = true → a ≠ b → nearB es a b = true) ∧ ∀ b, s0.testBit b = true → s.testBit b = true) (2 ^ n) ⟨s0, hs0, hc0, fun _ hb => hb⟩
  have hmax : maxAt gs s = true := by
    rw [max_same h hn hs, maxR, Bool.and_eq_true]
    have hcl : cliqueR es (bitsR s n) = true := by
      rw [cliqueR_mem (bitsR_nodup s n)]
      intro a ha b hb hab
      obtain ⟨x, rfl, _, hx⟩ := mem_bitsR.1 ha
      obtain ⟨y, rfl, _, hy⟩ := mem_bitsR.1 hb
      exact hc x y hx hy (by omega)
    refine ⟨hcl, ?_⟩
    simp only [wholeR, List.all_eq_true, List.mem_range, wholeAt, Bool.or_eq_true, Bool.not_eq_true']
    intro i hi
    cases hsi : s.testBit i with
    | true => exact .inl rfl
    | false =>
      refine .inr ?_
      rw [Bool.eq_false_iff]
      intro hcc
      have h2 := (clique_more hsi hcl).1 hcc
      have hp : 2 ^ i < 2 ^ n := Nat.pow_lt_pow_right (by omega) hi
      have hlt : s ||| 2 ^ i < 2 ^ n := Nat.or_lt_two_pow hs hp
      have hgt : s < s ||| 2 ^ i := by
        refine Nat.lt_of_le_of_ne Nat.left_le_or fun e => ?_
        have := congrArg (fun z => Nat.testBit z i) e
        simp [Nat.testBit_or, hsi] at this
      refine hlast _ hgt hlt ⟨fun a b ha hb hab => ?_, fun b hb => by rw [Nat.testBit_or, hsub b hb]; rfl⟩
      rw [Nat.testBit_or, Nat.testBit_two_pow, Bool.or_eq_true, decide_eq_true_eq] at ha hb
      rcases ha with ha | rfl <;> rcases hb with hb | rfl
      · exact hc a b ha hb hab
      · rw [nearB_comm]; exact h2 a (bit_lt hs ha) ha
      · exact h2 b (bit_lt hs hb) hb
      · exact absurd rfl hab
  refine ⟨s, ?_, hsub⟩
  unfold cliquesN clsTo
  rw [List.mem_filter, List.mem_range, h.len]
  exact ⟨hs, hmax⟩

/-- The numbers of a row: each number that is not there before comes once, and each clique contains what cliques before it and behind it contain. -/
theorem search_row {cs : List Nat} (hk : cs.length ≤ 16) (h16 : ∀ x ∈ cs, x < 65536) : ∀ (f S : Nat) (r : List Nat), S < 2 ^ cs.length → cntN S + f = cs.length → searchN cs f S = some r →
    ∃ I : List Nat, r = I.map (atC cs) ∧ (∀ i, i ∈ I ↔ i < cs.length ∧ S.testBit i = false) ∧
      ∀ (A : List Nat) (q : Nat) (B : List Nat), I = A ++ q :: B → ∀ v, (∃ i, i < cs.length ∧ (S.testBit i = true ∨ i ∈ A) ∧ (atC cs i).testBit v = true) → (∃ j ∈ q :: B, (atC cs j).testBit v = true) → (atC cs q).testBit v = true
  | 0, S, r, hS, hf, h => by
    rw [searchN_done (by omega)] at h
    cases h
    have hall : ∀ i, i < cs.length → S.testBit i = true := fun i hi => by
      have h1 : ((List.range 16).filter fun b => S.testBit b).Nodup := List.nodup_range.sublist List.filter_sublist
      have hp := nodup_perm h1 (L := List.range cs.length) (fun x hx => by
        rw [List.mem_filter] at hx
        exact List.mem_range.2 (bit_lt hS hx.2)) (by rw [List.length_range]; have : cntN S = cs.length := by omega
                                                     exact Nat.le_of_eq this.symm)
      exact (List.mem_filter.1 (hp.mem_iff.2 (List.mem_range.2 hi))).2
    exact ⟨[], rfl, fun i => ⟨fun hi => by simp at hi, fun ⟨h1, h2⟩ => by rw [hall i h1] at h2; cases h2⟩, fun A q B e => by simp at e⟩
  | f + 1, S, r, hS, hf, h => by
    rw [searchN_succ (by omega)] at h
    obtain ⟨i, hi, hi2⟩ := List.exists_of_findSome?_eq_some h
    rw [List.mem_range] at hi
    rw [turnN] at hi2
    split at hi2
    · rename_i hst
      obtain ⟨r', hr', rfl⟩ := Option.map_eq_some_iff.1 hi2
      rw [stepB, Bool.and_eq_true, Bool.not_eq_true'] at hst
      obtain ⟨hiS, hsub⟩ := hst
      have h65 : ∀ x ∈ cs, x < 2 ^ 16 := h16
      rw [subB_iff (atC_lt (by omega) h16 i) (waitN_lt (m := 16) h65 S)] at hsub
      obtain ⟨I, rfl, hmem, hcon⟩ := search_row hk h16 f (S ||| 2 ^ i) r' (Nat.or_lt_two_pow hS (Nat.pow_lt_pow_right (by omega) hi)) (by rw [cnt_or (by omega) hiS]; omega) hr'
      have hbit : ∀ j, (S ||| 2 ^ i).testBit j = false ↔ S.testBit j = false ∧ i ≠ j := fun j => by
        rw [Nat.testBit_or, Nat.testBit_two_pow, Bool.or_eq_false_iff, decide_eq_false_iff_not]
      have hbit2 : ∀ j, (S ||| 2 ^ i).testBit j = true ↔ S.testBit j = true ∨ i = j := fun j => by
        rw [Nat.testBit_or, Nat.testBit_two_pow, Bool.or_eq_true, decide_eq_true_iff]
      refine ⟨i :: I, rfl, fun j => ?_, fun A q B e v hb ha => ?_⟩
      · rw [List.mem_cons, hmem, hbit]
        constructor
        · rintro (rfl | ⟨h1, h2, _⟩)
          · exact ⟨hi, hiS⟩
          · exact ⟨h1, h2⟩
        · rintro ⟨h1, h2⟩
          by_cases e : j = i
          · exact .inl e
          · exact .inr ⟨h1, h2, fun e' => e e'.symm⟩
      · cases A with
        | nil =>
          simp only [List.nil_append, List.cons.injEq] at e
          obtain ⟨rfl, rfl⟩ := e
          obtain ⟨a, ha1, ha2, ha3⟩ := hb
          obtain ⟨j, hj1, hj2⟩ := ha
          rcases List.mem_cons.1 hj1 with rfl | hj1
          · exact hj2
          · have hjm := (hmem j).1 hj1
            rw [hbit] at hjm
            refine hsub v ?_
            rw [waitN, Nat.testBit_and, Bool.and_eq_true, befN_bit, aftN_bit]
            exact ⟨⟨a, ha1, by simpa using ha2, ha3⟩, ⟨j, hjm.1, hjm.2.1, hj2⟩⟩
        | cons a0 A =>
          simp only [List.cons_append, List.cons.injEq] at e
          obtain ⟨rfl, rfl⟩ := e
          obtain ⟨a, ha1, ha2, ha3⟩ := hb
          refine hcon A q B rfl v ⟨a, ha1, ?_, ha3⟩ ha
          rcases ha2 with h1 | h1
          · exact .inl ((hbit2 a).2 (.inl h1))
          · rcases List.mem_cons.1 h1 with rfl | h1
            · exact .inl ((hbit2 a).2 (.inr rfl))
            · exact .inr h1
    · cases hi2
theorem split_at {α : Type} {I : List α} {q : Nat} (hq : q < I.length) : I = I.take q ++ I[q] :: I.drop (q + 1) := by
  rw [← List.drop_eq_getElem_cons hq, List.take_append_drop]
/-- A row gives spans: of each node the first place and the last one. -/
theorem row_rep {n : Nat} {gs : List Nat} {es : List (Int × Int)} (h : Adj n gs es) (hn : n ≤ 12) (hk : (srtN (cliquesN gs)).length ≤ 16) {r : List Nat} (hr : searchN (srtN (cliquesN gs)) (srtN (cliquesN gs)).length 0 = some r) : ∃ L H : Nat → Int, Rep es n L H := by
  have h16 : 2 ^ n ≤ 65536 := Nat.le_trans (Nat.pow_le_pow_right (by omega) hn) (by decide)
  obtain ⟨cs, hcs⟩ : ∃ cs, srtN (cliquesN gs) = cs := ⟨_, rfl⟩
  have hin : ∀ i, i < cs.length → atC cs i ∈ cliquesN gs := fun i hi => by
    rw [atC, List.getElem?_eq_getElem hi]
    exact srt_mem.1 (by rw [hcs]; exact List.getElem_mem hi)
  have hof : ∀ C ∈ cliquesN gs, ∃ i, i < cs.length ∧ atC cs i = C := fun C hC => by
    have := srt_mem.2 hC
    rw [hcs] at this
    obtain ⟨i, hi, e⟩ := List.getElem_of_mem this
    exact ⟨i, hi, by rw [atC, List.getElem?_eq_getElem hi]; exact e⟩
  rw [hcs] at hk hr
  obtain ⟨I, rfl, hmem, hcon⟩ := search_row hk (fun x hx => Nat.lt_of_lt_of_le (clique_lt h (srt_mem.1 (by rw [hcs]; exact hx))) h16) cs.length 0 r (Nat.pow_pos (by omega)) (by rw [show cntN 0 = 0 by decide]; omega) hr
  have hmem' : ∀ i, i ∈ I ↔ i < cs.length := fun i => by rw [hmem, Nat.zero_testBit]; simp
  -- a clique that contains some nodes stands in the row
  have place : ∀ s0, s0 < 2 ^ n → (∀ a b : Nat, s0.testBit a = true → s0.testBit b = true → a ≠ b → nearB es a b = true) → ∃ p, ∃ hp : p < I.length, ∀ b, s0.testBit b = true → (atC cs I[p]).testBit b = true := fun s0 hs0 hc0 => by
    obtain ⟨C, hC, hsub⟩ := clique_ext h hn hs0 hc0
    obtain ⟨i, hi, rfl⟩ := hof C hC
    obtain ⟨p, hp, e⟩ := List.getElem_of_mem ((hmem' i).2 hi)
    exact ⟨p, hp, fun b hb => by rw [e]; exact hsub b hb⟩
  have mid : ∀ (v p q s : Nat) (hp : p < I.length) (hq : q < I.length) (hs : s < I.length), p ≤ q → q ≤ s → (atC cs I[p]).testBit v = true → (atC cs I[s]).testBit v = true → (atC cs I[q]).testBit v = true := fun v p q s hp hq hs h1 h2 hpv hsv => by
    by_cases e1 : p = q
    · subst e1; exact hpv
    · refine hcon (I.take q) I[q] (I.drop (q + 1)) (split_at hq) v ⟨I[p], (hmem' _).1 (List.getElem_mem hp), .inr ?_, hpv⟩ ⟨I[s], ?_, hsv⟩
      · rw [List.mem_take_iff_getElem]
        exact ⟨p, by omega, rfl⟩
      · rw [← List.drop_eq_getElem_cons hq, List.mem_drop_iff_getElem]
        exact ⟨s - q, by omega, by simp [Nat.add_sub_cancel' h2]⟩
  have ends : ∀ v, ∃ lh : Nat × Nat, v < n → ∃ (h1 : lh.1 < I.length) (h2 : lh.2 < I.length), (atC cs I[lh.1]).testBit v = true ∧ (atC cs I[lh.2]).testBit v = true ∧ ∀ (p : Nat) (hp : p < I.length), (atC cs I[p]).testBit v = true → lh.1 ≤ p ∧ p ≤ lh.2 := fun v => by
    by_cases hv : v < n
    · obtain ⟨p0, hp0, hb0⟩ := place (2 ^ v) (Nat.pow_lt_pow_right (by omega) hv) (fun a b ha hb hab => by
        rw [Nat.testBit_two_pow, decide_eq_true_iff] at ha hb; omega)
      have hbit0 := hb0 v (by rw [Nat.testBit_two_pow]; simp)
      have hne : ((List.range I.length).filter fun p => (atC cs (I[p]?.getD 0)).testBit v) ≠ [] := fun e => by
        rw [List.filter_eq_nil_iff] at e
        have := e p0 (List.mem_range.2 hp0)
        rw [List.getElem?_eq_getElem hp0] at this
        exact this hbit0
      obtain ⟨l, hl, hlmin⟩ := least_of (f := fun p => (p : Int)) _ hne
      obtain ⟨m, hm, hmmax⟩ := least_of (f := fun p => -(p : Int)) _ hne
      rw [List.mem_filter, List.mem_range] at hl hm
      refine ⟨(l, m), fun _ => ⟨hl.1, hm.1, ?_, ?_, fun p hp hpv => ?_⟩⟩
      · have := hl.2; rwa [List.getElem?_eq_getElem hl.1] at this
      · have := hm.2; rwa [List.getElem?_eq_getElem hm.1] at this
      · have hpf : p ∈ (List.range I.length).filter fun p => (atC cs (I[p]?.getD 0)).testBit v := List.mem_filter.2 ⟨List.mem_range.2 hp, by rw [List.getElem?_eq_getElem hp]; exact hpv⟩
        have h1 := hlmin p hpf
        have h2 := hmmax p hpf
        exact ⟨by omega, by omega⟩
    · exact ⟨(0, 0), fun h => absurd h hv⟩
  obtain ⟨lh, hlh⟩ := Classical.axiomOfChoice ends
  refine ⟨fun v => ((lh v).1 : Int), fun v => ((lh v).2 : Int), ⟨fun v hv => ?_, fun a b ha hb hab => ⟨fun hE => ?_, fun hE => ?_⟩⟩⟩
  · obtain ⟨h1, h2, h3, h4, h5⟩ := hlh v hv
    have := (h5 _ h1 h3).2
    omega
  · have hpa : 2 ^ a < 2 ^ n := Nat.pow_lt_pow_right (by omega) ha
    have hpb : 2 ^ b < 2 ^ n := Nat.pow_lt_pow_right (by omega) hb
    obtain ⟨p, hp, hpp⟩ := place (2 ^ a ||| 2 ^ b) (Nat.or_lt_two_pow hpa hpb) (fun x y hx hy hxy => by
      rw [Nat.testBit_or, Nat.testBit_two_pow, Nat.testBit_two_pow, Bool.or_eq_true, decide_eq_true_iff, decide_eq_true_iff] at hx hy
      rcases hx with rfl | rfl <;> rcases hy with rfl | rfl
      · exact absurd rfl hxy
      · exact hE
      · rw [nearB_comm]; exact hE
      · exact absurd rfl hxy)
    obtain ⟨_, _, _, _, ha5⟩ := hlh a ha
    obtain ⟨_, _, _, _, hb5⟩ := hlh b hb
    have h1 := ha5 p hp (hpp a (by rw [Nat.testBit_or, Nat.testBit_two_pow]; simp))
    have h2 := hb5 p hp (hpp b (by rw [Nat.testBit_or, Nat.testBit_two_pow, Nat.testBit_two_pow]; simp))
    omega
  · obtain ⟨a1, a2, a3, a4, _⟩ := hlh a ha
    obtain ⟨b1, b2, b3, b4, _⟩ := hlh b hb
    obtain ⟨p, hp, hp1, hp2, hp3, hp4⟩ : ∃ p, p < I.length ∧ (lh a).1 ≤ p ∧ p ≤ (lh a).2 ∧ (lh b).1 ≤ p ∧ p ≤ (lh b).2 := by
      rcases Nat.le_total (lh a).1 (lh b).1 with h1 | h1
      · exact ⟨(lh b).1, b1, h1, by omega, Nat.le_refl _, by have := (hlh b hb).2.2.2.2 _ b1 b3; omega⟩
      · exact ⟨(lh a).1, a1, Nat.le_refl _, by have := (hlh a ha).2.2.2.2 _ a1 a3; omega, h1, by omega⟩
    have hpa := mid a _ p _ a1 hp a2 hp1 hp2 a3 a4
    have hpb := mid b _ p _ b1 hp b2 hp3 hp4 b3 b4
    exact clique_pairs h hn (hin _ ((hmem' _).1 (List.getElem_mem hp))) a b hpa hpb hab

end Go.Proofs.Yticafbfijpjbnaa
