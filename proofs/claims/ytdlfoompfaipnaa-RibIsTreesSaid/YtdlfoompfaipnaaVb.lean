/-
  Clique trees, pure: a graph with a clique tree has, in every set of nodes, one whose neighbours are in one clique (Gavril).
-/
import Derived.Test.YtdlfoompfaipnaaVa
namespace Go.Proofs.Ytdlfoompfaipnaa

theorem split_len {α : Type} (p : α → Bool) : ∀ l : List α, (l.filter p).length + (l.filter fun a => !p a).length = l.length
  | [] => rfl
  | x :: l => by
    have := split_len p l
    rw [List.filter_cons, List.filter_cons]
    cases p x <;> simp <;> omega
def touch (i : Nat) (p : Int × Int) : Bool := decide (p.1.toNat = i) || decide (p.2.toNat = i)
def outOf (X : List Nat) (i : Nat) : List Nat := X.filter fun x => !decide (x = i)
theorem mem_out {X : List Nat} {i x : Nat} : x ∈ outOf X i ↔ x ∈ X ∧ x ≠ i := by simp [outOf]
theorem one_of {i : Nat} : ∀ {X : List Nat}, X.Nodup → (X.filter fun x => decide (x = i)).length ≤ 1
  | [], _ => by simp
  | x :: X, h => by
    obtain ⟨h1, h2⟩ := List.nodup_cons.1 h
    rw [List.filter_cons]
    split
    · rename_i e
      have e : x = i := by simpa using e
      subst e
      have : X.filter (fun y => decide (y = x)) = [] := by
        rw [List.filter_eq_nil_iff]
        intro a ha e2
        have : a = x := by simpa using e2
        exact h1 (this ▸ ha)
      rw [this]; simp
    · exact one_of h2
theorem one_in {i : Nat} {X : List Nat} (h : X.Nodup) (hi : i ∈ X) : (outOf X i).length + 1 = X.length := by
  have h1 := split_len (fun x => decide (x = i)) X
  have h2 := one_of (i := i) h
  have h3 : 1 ≤ (X.filter fun x => decide (x = i)).length := List.length_pos_iff.2 fun e => by
    have : i ∈ X.filter fun x => decide (x = i) := List.mem_filter.2 ⟨hi, by simp⟩
    rw [e] at this; simp at this
  unfold outOf
  omega
theorem edges_out (X : List Nat) (i : Nat) (t : List (Int × Int)) : edgesIn (outOf X i) t + ((t.filter (inBoth X)).filter (touch i)).length = edgesIn X t := by
  have h := split_len (touch i) (t.filter (inBoth X))
  have e : t.filter (inBoth (outOf X i)) = (t.filter (inBoth X)).filter fun p => !touch i p := by
    rw [List.filter_filter]
    refine List.filter_congr fun p _ => ?_
    rw [Bool.eq_iff_iff]
    simp only [inBoth, mem_out, touch, Bool.and_eq_true, decide_eq_true_eq, Bool.not_eq_true', Bool.or_eq_false_iff, decide_eq_false_iff_not]
    constructor
    · rintro ⟨⟨a, b⟩, c, d⟩; exact ⟨⟨b, d⟩, a, c⟩
    · rintro ⟨⟨b, d⟩, a, c⟩; exact ⟨⟨a, b⟩, c, d⟩
  rw [edgesIn, e, edgesIn]
  omega
/-- Each pair touches two cliques. -/
theorem two_of {p : Int × Int} {X : List Nat} (h : X.Nodup) : (X.filter fun i => touch i p).length ≤ 2 := by
  have h1 := one_of (i := p.1.toNat) h
  have h2 := one_of (i := p.2.toNat) h
  have key : ∀ l : List Nat, (l.filter fun i => touch i p).length ≤ (l.filter fun x => decide (x = p.1.toNat)).length + (l.filter fun x => decide (x = p.2.toNat)).length := by
    intro l
    induction l with
    | nil => simp
    | cons x l ih =>
      rw [List.filter_cons, List.filter_cons, List.filter_cons]
      by_cases ha : x = p.1.toNat
      · by_cases hb : x = p.2.toNat
        · simp [touch, ← ha, ← hb]; simp [touch, ← ha, ← hb] at ih; omega
        · have hb2 : ¬ p.2.toNat = x := fun e => hb e.symm
          rw [if_pos (by simp [touch, ← ha]), if_pos (by simpa using ha), if_neg (by simpa using hb)]
          simp only [List.length_cons]; omega
      · by_cases hb : x = p.2.toNat
        · rw [if_pos (by simp [touch, ← hb]), if_neg (by simpa using ha), if_pos (by simpa using hb)]
          simp only [List.length_cons]; omega
        · rw [if_neg (by simp [touch]; exact ⟨fun e => ha e.symm, fun e => hb e.symm⟩), if_neg (by simpa using ha), if_neg (by simpa using hb)]
          exact ih
  have := key X
  omega
theorem sum_cons (p : Int × Int) (T : List (Int × Int)) : ∀ X : List Nat, (X.map fun i => ((p :: T).filter (touch i)).length).sum = (X.map fun i => (T.filter (touch i)).length).sum + (X.filter fun i => touch i p).length
  | [] => by simp
  | x :: X => by
    have ih := sum_cons p T X
    rw [List.map_cons, List.sum_cons, ih, List.map_cons, List.sum_cons, List.filter_cons, List.filter_cons]
    cases touch x p <;> simp <;> omega
theorem sum_le {X : List Nat} (h : X.Nodup) : ∀ T : List (Int × Int), (X.map fun i => (T.filter (touch i)).length).sum ≤ 2 * T.length
  | [] => by
    have : ∀ l : List Nat, (l.map fun _ => 0).sum = 0 := by intro l; induction l <;> simp_all
    simp
    exact this X
  | p :: T => by
    have := sum_le h T
    have := two_of (p := p) h
    rw [sum_cons, List.length_cons]; omega
theorem sum_ge (f : Nat → Nat) : ∀ X : List Nat, (∀ i ∈ X, 2 ≤ f i) → 2 * X.length ≤ (X.map f).sum
  | [], _ => by simp
  | x :: X, h => by
    have h1 := sum_ge f X fun i hi => h i (by simp [hi])
    have h2 := h x (by simp)
    rw [List.map_cons, List.sum_cons, List.length_cons]; omega
/-- A tree has a leaf. -/
theorem leaf {X : List Nat} {t : List (Int × Int)} (hnd : X.Nodup) (hX : X ≠ []) (ht : X.length = edgesIn X t + 1) : ∃ L ∈ X, ((t.filter (inBoth X)).filter (touch L)).length ≤ 1 := by
  refine Classical.byContradiction fun hn => ?_
  have h2 : ∀ i ∈ X, 2 ≤ ((t.filter (inBoth X)).filter (touch i)).length := fun i hi => by
    refine Classical.byContradiction fun h => hn ⟨i, hi, by omega⟩
  have := sum_ge (fun i => ((t.filter (inBoth X)).filter (touch i)).length) X h2
  have := sum_le hnd (t.filter (inBoth X))
  simp only [edgesIn] at ht
  omega

theorem gavril {c : Nat} {t : List (Int × Int)} (htree : treeFrom c t (partsI c) = true) (hpo : PairsOk c t) (C : Nat → Nat → Bool) (S : Nat → Bool) (adj : Nat → Nat → Bool) : ∀ (k : Nat) (X : List Nat), X.length = k → X.Nodup → (∀ x ∈ X, x < c) → X ≠ [] → X.length = edgesIn X t + 1 →
    (∀ v, S v = true → (X.filter fun i => C i v).length = edgesIn (X.filter fun i => C i v) t + 1) → (∀ v w, S v = true → S w = true → (v = w ∨ adj v w = true) → ∃ i ∈ X, C i v = true ∧ C i w = true) → (∃ v, S v = true) →
    ∃ v i, S v = true ∧ i < c ∧ C i v = true ∧ ∀ w, S w = true → adj v w = true → C i w = true
  | 0, X, hk, _, _, hX, _, _, _, _ => absurd (List.length_eq_zero_iff.1 hk) hX
  | k + 1, X, hk, hnd, hc, hX, ht, hcnt, hcov, hS => by
    obtain ⟨L, hLX, hL⟩ := leaf hnd hX ht
    have ho := one_in hnd hLX
    have hout := edges_out X L t
    by_cases hX' : outOf X L = []
    · obtain ⟨v, hv⟩ := hS
      have hall : ∀ j ∈ X, j = L := fun j hj => Classical.byContradiction fun e => by
        have : j ∈ outOf X L := mem_out.2 ⟨hj, e⟩
        rw [hX'] at this; simp at this
      obtain ⟨i, hi, h1, _⟩ := hcov v v hv hv (.inl rfl)
      refine ⟨v, i, hv, hc i hi, h1, fun w hw hvw => ?_⟩
      obtain ⟨j, hj, _, h3⟩ := hcov v w hv hw (.inr hvw)
      rw [hall j hj] at h3
      rw [hall i hi]; exact h3
    · have hf := forest_le htree (X := outOf X L) (fun x hx => hc x (mem_out.1 hx).1) hX'
      have hone : ((t.filter (inBoth X)).filter (touch L)).length = 1 := by omega
      obtain ⟨p, hp⟩ := List.length_eq_one_iff.1 hone
      have hpm : p ∈ (t.filter (inBoth X)).filter (touch L) := by rw [hp]; simp
      obtain ⟨hpm1, hpL⟩ := List.mem_filter.1 hpm
      obtain ⟨hpt, hpX⟩ := List.mem_filter.1 hpm1
      simp only [inBoth, Bool.and_eq_true, decide_eq_true_eq] at hpX
      have hpne : p.1.toNat ≠ p.2.toNat := by have := hpo p hpt; omega
      obtain ⟨M, hMX, hML, hCp⟩ : ∃ M ∈ X, M ≠ L ∧ ∀ v, (C p.1.toNat v && C p.2.toNat v) = (C L v && C M v) := by
        simp only [touch, Bool.or_eq_true, decide_eq_true_eq] at hpL
        rcases hpL with e | e
        · exact ⟨p.2.toNat, hpX.2, fun h => hpne (e.trans h.symm), fun v => by rw [e]⟩
        · exact ⟨p.1.toNat, hpX.1, fun h => hpne (h.trans e.symm), fun v => by rw [e, Bool.and_comm]⟩
      -- the pairs at the leaf among the cliques of a node
      have hdeg : ∀ v, ((t.filter (inBoth (X.filter fun i => C i v))).filter (touch L)).length = if C L v = true ∧ C M v = true then 1 else 0 := fun v => by
        have e : (t.filter (inBoth (X.filter fun i => C i v))).filter (touch L) = ((t.filter (inBoth X)).filter (touch L)).filter fun q => C q.1.toNat v && C q.2.toNat v := by
          rw [List.filter_filter, List.filter_filter, List.filter_filter]
          refine List.filter_congr fun q _ => ?_
          rw [Bool.eq_iff_iff]
          simp only [inBoth, List.mem_filter, Bool.and_eq_true, decide_eq_true_eq]
          constructor
          · rintro ⟨a, ⟨b, d⟩, e, f⟩; exact ⟨⟨⟨d, f⟩, a⟩, b, e⟩
          · rintro ⟨⟨⟨d, f⟩, a⟩, b, e⟩; exact ⟨a, ⟨b, d⟩, e, f⟩
        rw [e, hp, List.filter_cons, hCp v]
        by_cases h : C L v = true ∧ C M v = true
        · rw [if_pos h, if_pos (by rw [h.1, h.2]; rfl)]; rfl
        · rw [if_neg h, if_neg (by rw [Bool.and_eq_true]; exact h)]; rfl
      have hcomm : ∀ v, (outOf X L).filter (fun i => C i v) = outOf (X.filter fun i => C i v) L := fun v => by
        rw [outOf, outOf, List.filter_filter, List.filter_filter]
        exact List.filter_congr fun x _ => Bool.and_comm _ _
      by_cases hsub : ∃ v, S v = true ∧ C L v = true ∧ C M v = false
      · obtain ⟨v, hv, h1, h2⟩ := hsub
        have hLY : L ∈ X.filter fun i => C i v := List.mem_filter.2 ⟨hLX, h1⟩
        have ndY : (X.filter fun i => C i v).Nodup := hnd.sublist List.filter_sublist
        have oY := one_in ndY hLY
        have eY := edges_out (X.filter fun i => C i v) L t
        rw [hdeg v, if_neg (by rw [h2]; simp)] at eY
        have cY := hcnt v hv
        have hY' : outOf (X.filter fun i => C i v) L = [] := Classical.byContradiction fun hne => by
          have := forest_le htree (X := outOf (X.filter fun i => C i v) L) (fun x hx => hc x (List.mem_filter.1 (mem_out.1 hx).1).1) hne
          omega
        refine ⟨v, L, hv, hc L hLX, h1, fun w hw hvw => ?_⟩
        obtain ⟨i, hi, hiv, hiw⟩ := hcov v w hv hw (.inr hvw)
        have hiL : i = L := Classical.byContradiction fun e => by
          have : i ∈ outOf (X.filter fun i => C i v) L := mem_out.2 ⟨List.mem_filter.2 ⟨hi, hiv⟩, e⟩
          rw [hY'] at this; simp at this
        rw [← hiL]; exact hiw
      · have hM : ∀ v, S v = true → C L v = true → C M v = true := fun v hv h1 => by
          cases h2 : C M v with
          | true => rfl
          | false => exact absurd ⟨v, hv, h1, h2⟩ hsub
        refine gavril htree hpo C S adj k (outOf X L) (by omega) (hnd.sublist List.filter_sublist) (fun x hx => hc x (mem_out.1 hx).1) hX' (by omega) (fun v hv => ?_) (fun v w hv hw hvw => ?_) hS
        · rw [hcomm v]
          have cY := hcnt v hv
          have eY := edges_out (X.filter fun i => C i v) L t
          rw [hdeg v] at eY
          cases h1 : C L v with
          | true =>
            have oY := one_in (hnd.sublist List.filter_sublist) (List.mem_filter.2 ⟨hLX, h1⟩ : L ∈ X.filter fun i => C i v)
            rw [if_pos ⟨h1, hM v hv h1⟩] at eY
            omega
          | false =>
            rw [if_neg (by rw [h1]; simp)] at eY
            have eq : outOf (X.filter fun i => C i v) L = X.filter fun i => C i v := by
              rw [outOf, List.filter_eq_self]
              intro x hx
              have hxv := (List.mem_filter.1 hx).2
              have : x ≠ L := fun e => by rw [e, h1] at hxv; cases hxv
              simpa using this
            rw [eq]; exact cY
        · obtain ⟨i, hi, h1, h2⟩ := hcov v w hv hw hvw
          by_cases e : i = L
          · subst e
            exact ⟨M, mem_out.2 ⟨hMX, hML⟩, hM v hv h1, hM w hw h2⟩
          · exact ⟨i, mem_out.2 ⟨hi, e⟩, h1, h2⟩

end Go.Proofs.Ytdlfoompfaipnaa
