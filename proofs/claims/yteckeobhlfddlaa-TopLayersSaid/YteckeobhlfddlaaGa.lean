/-
  All permutations, those that fold, and that an order folds layer by layer exactly if no crease crosses anything (lists and numbers alone).
-/
import Derived.Test.YteckeobhlfddlaaFa
namespace Go.Proofs.Yteckeobhlfddlaa

/-- All permutations of n numbers that begin with O, k numbers being left, the least one first. -/
def permsAll (n : Nat) : Nat → List Nat → List (List Nat)
  | 0, O => [O]
  | k + 1, O => (List.range n).flatMap fun s => if O.contains s = true then [] else permsAll n k (O ++ [s])

theorem permsAll_ok (n : Nat) : ∀ (k : Nat) (O : List Nat), O.Nodup → (∀ x ∈ O, x < n) → ∀ P ∈ permsAll n k O, P.length = O.length + k ∧ P.Nodup ∧ (∀ x ∈ P, x < n) ∧ O <+: P
  | 0, O, h1, h2, P, hP => by
    simp [permsAll] at hP
    subst hP
    exact ⟨rfl, h1, h2, List.prefix_refl _⟩
  | k + 1, O, h1, h2, P, hP => by
    rw [permsAll, List.mem_flatMap] at hP
    obtain ⟨s, hs, hP⟩ := hP
    rw [List.mem_range] at hs
    split at hP
    · cases hP
    · rename_i hc
      have hc' : s ∉ O := by simpa using hc
      obtain ⟨e1, e2, e3, e4⟩ := permsAll_ok n k (O ++ [s]) (by
        rw [List.nodup_append]
        refine ⟨h1, by simp, ?_⟩
        intro a ha b hb
        simp at hb
        subst hb
        intro e
        subst e
        exact hc' ha) (by
        intro x hx
        rcases List.mem_append.1 hx with h | h
        · exact h2 x h
        · simp at h; omega) P hP
      refine ⟨by rw [e1]; simp; omega, e2, e3, (List.prefix_append _ _).trans e4⟩

theorem layersTo_get (n : Nat) (P : List Nat) (hn : P.Nodup) (hv : ∀ x ∈ P, x < n) : ∀ (j : Nat), j ≤ P.length → ∀ (i : Nat) (h : i < P.length), (layersTo P n j)[P[i]]?.getD 0 = if i < j then (i : Int) else -1
  | 0, _, i, h => by
    have := hv _ (List.getElem_mem h)
    simp [layersTo, this]
  | j + 1, hj, i, h => by
    have ih := layersTo_get n P hn hv j (by omega) i h
    have hvi := hv _ (List.getElem_mem h)
    rw [layersTo]
    have ej : P[j]?.getD 0 = P[j] := by simp [show j < P.length by omega]
    rw [ej, List.getElem?_set]
    by_cases hij : i = j
    · subst hij
      simp [hvi]
    · have hne : P[j] ≠ P[i] := fun e => hij (by
        have := (List.getElem_inj hn).1 e
        omega)
      rw [if_neg hne, ih]
      by_cases h' : i < j
      · rw [if_pos h', if_pos (by omega)]
      · rw [if_neg h', if_neg (by omega)]
theorem layersTo_no (n : Nat) (P : List Nat) (s : Nat) (hs : s < n) : ∀ (j : Nat), (∀ i (_ : i < P.length), i < j → P[i] ≠ s) → j ≤ P.length → (layersTo P n j)[s]?.getD 0 = -1
  | 0, _, _ => by simp [layersTo, hs]
  | j + 1, h, hj => by
    rw [layersTo]
    have ej : P[j]?.getD 0 = P[j] := by simp [show j < P.length by omega]
    rw [ej, List.getElem?_set, if_neg (h j (by omega) (by omega))]
    exact layersTo_no n P s hs j (fun i hi hij => h i hi (by omega)) (by omega)
theorem layersTo_prefix (n : Nat) (O P : List Nat) (h : O <+: P) : ∀ j, j ≤ O.length → layersTo P n j = layersTo O n j
  | 0, _ => rfl
  | j + 1, hj => by
    obtain ⟨t, rfl⟩ := h
    rw [layersTo, layersTo, layersTo_prefix n O (O ++ t) ⟨t, rfl⟩ j (by omega), List.getElem?_append_left (by omega)]

/-- Whether the layer j of an order fits on those below it. -/
def stepB (c : Cl) (n : Nat) (P : List Nat) (j : Nat) : Bool := fitsB c (layersTo P n j) (P[j]?.getD 0)
def okFrom (c : Cl) (n : Nat) (P : List Nat) (j : Nat) : Bool := (List.range n).all fun i => decide (i < j) || stepB c n P i

theorem okFrom_step (c : Cl) (n : Nat) (P : List Nat) (j : Nat) (hj : j < n) : okFrom c n P j = (stepB c n P j && okFrom c n P (j + 1)) := by
  rw [Bool.eq_iff_iff, Bool.and_eq_true]
  simp only [okFrom, List.all_eq_true, List.mem_range, Bool.or_eq_true, decide_eq_true_eq]
  constructor
  · intro h
    refine ⟨(h j hj).resolve_left (by omega), fun i hi => ?_⟩
    rcases h i hi with h' | h'
    · exact .inl (by omega)
    · exact .inr h'
  · rintro ⟨h1, h2⟩ i hi
    by_cases e : i = j
    · subst e; exact .inr h1
    · rcases h2 i hi with h' | h'
      · exact .inl (by omega)
      · exact .inr h'
theorem okFrom_end (c : Cl) (n : Nat) (P : List Nat) : okFrom c n P n = true := by
  simp only [okFrom, List.all_eq_true, List.mem_range, Bool.or_eq_true, decide_eq_true_eq]
  exact fun i hi => .inl hi

theorem flatMap_congr' {α β : Type} (f g : α → List β) : ∀ (l : List α), (∀ x ∈ l, f x = g x) → l.flatMap f = l.flatMap g
  | [], _ => rfl
  | a :: l, h => by
    rw [List.flatMap_cons, List.flatMap_cons, h a (by simp), flatMap_congr' f g l fun x hx => h x (by simp [hx])]
theorem filter_flatMap' {α β : Type} (p : β → Bool) (f : α → List β) : ∀ (l : List α), (l.flatMap f).filter p = l.flatMap fun x => (f x).filter p
  | [] => rfl
  | a :: l => by rw [List.flatMap_cons, List.flatMap_cons, List.filter_append, filter_flatMap' p f l]

theorem place_filter (c : Cl) (n : Nat) : ∀ (k : Nat) (O : List Nat), O.Nodup → (∀ x ∈ O, x < n) → O.length + k = n → placeAll c n k (layersTo O n O.length) O = (permsAll n k O).filter (okFrom c n · O.length)
  | 0, O, h1, h2, h3 => by
    have e : O.length = n := by omega
    rw [placeAll, permsAll, List.filter_cons, e, okFrom_end]; simp
  | k + 1, O, h1, h2, h3 => by
    rw [placeAll, permsAll, filter_flatMap']
    refine flatMap_congr' _ _ _ fun s hs => ?_
    rw [List.mem_range] at hs
    by_cases hc : s ∈ O
    · obtain ⟨i, hi, e⟩ := List.getElem_of_mem hc
      have := layersTo_get n O h1 h2 O.length (Nat.le_refl _) i hi
      rw [e, if_pos hi] at this
      have hc2 : O.contains s = true := by simpa using hc
      rw [this, hc2, if_pos rfl, if_neg (by simp)]
      rfl
    · have hm := layersTo_no n O s hs O.length (fun i hi _ e => hc (by rw [← e]; exact List.getElem_mem hi)) (Nat.le_refl _)
      have hc2 : O.contains s = false := by simpa using hc
      rw [hm, hc2, if_neg Bool.false_ne_true]
      have hnd : (O ++ [s]).Nodup := by
        rw [List.nodup_append]
        refine ⟨h1, by simp, ?_⟩
        intro a ha b hb
        simp at hb
        subst hb
        intro e
        subst e
        exact hc ha
      have hv : ∀ x ∈ O ++ [s], x < n := by
        intro x hx
        rcases List.mem_append.1 hx with h | h
        · exact h2 x h
        · simp at h; omega
      have ih := place_filter c n k (O ++ [s]) hnd hv (by simp; omega)
      have eL : layersTo (O ++ [s]) n (O ++ [s]).length = (layersTo O n O.length).set s O.length := by
        rw [List.length_append, List.length_singleton, layersTo, layersTo_prefix n O (O ++ [s]) (List.prefix_append _ _) _ (Nat.le_refl _)]
        simp
      rw [eL] at ih
      have key : ∀ P ∈ permsAll n k (O ++ [s]), okFrom c n P O.length = (fitsB c (layersTo O n O.length) s && okFrom c n P (O ++ [s]).length) := by
        intro P hP
        obtain ⟨_, _, _, hpre⟩ := permsAll_ok n k _ hnd hv P hP
        rw [okFrom_step c n P O.length (by omega), stepB, layersTo_prefix n O P ((List.prefix_append _ _).trans hpre) _ (Nat.le_refl _)]
        obtain ⟨t, rfl⟩ := hpre
        congr 2
        · simp
        · simp
      rw [List.filter_congr key]
      cases hf : fitsB c (layersTo O n O.length) s with
      | true => simp [ih]
      | false => simp

/-- The orders that fold are the permutations whose layers fit one after the other. -/
theorem orders_filter (c : Cl) (n : Nat) : placeAll c n n (List.replicate n (-1)) [] = (permsAll n n []).filter (okFrom c n · 0) :=
  place_filter c n n [] List.nodup_nil (by simp) (by simp)

/-- Whether a layer lies strictly between two others. -/
def btwB (x a b : Int) : Bool := decide (min a b < x) && decide (x < max a b)
theorem btwB_iff (x a b : Int) : btwB x a b = true ↔ (min a b < x ∧ x < max a b) := by simp [btwB]

/-- What the document says: A is the layer of each segment, p the position at which it begins. -/
structure NoCross (n : Nat) (p : Nat → Int) (crs : List Cr) (right : Cr → Bool) (A : Nat → Int) : Prop where
  seg : ∀ f ∈ crs, ∀ i, i < n → ¬ (btwB f.pos (p i) (p (i + 1)) = true ∧ btwB (A i) (A f.first) (A f.second) = true)
  cr : ∀ f ∈ crs, ∀ g ∈ crs, g.pos = f.pos → right g = right f → btwB (A g.first) (A f.first) (A f.second) = btwB (A g.second) (A f.first) (A f.second)

/-- What holds of the creases of a strip, or a vertex that closes. -/
structure Fair (n : Nat) (p : Nat → Int) (c : Cl) (right : Cr → Bool) : Prop where
  low : ∀ i, i < n → c.low[i]?.getD 0 = min (p i) (p (i + 1))
  high : ∀ i, i < n → c.high[i]?.getD 0 = max (p i) (p (i + 1))
  ends : ∀ f ∈ c.crs, f.first < n ∧ f.second < n ∧ f.first ≠ f.second
  at1 : ∀ f ∈ c.crs, f.pos = p f.first ∨ f.pos = p (f.first + 1)
  at2 : ∀ f ∈ c.crs, f.pos = p f.second ∨ f.pos = p (f.second + 1)
  side : ∀ f ∈ c.crs, ∀ g ∈ c.crs, g.beside f = true ↔ (g.pos = f.pos ∧ right g = right f)

theorem length_le_of_nodup : ∀ (n : Nat) (P : List Nat), P.Nodup → (∀ x ∈ P, x < n) → P.length ≤ n
  | 0, [], _, _ => by simp
  | 0, a :: t, _, h => by have := h a (by simp); omega
  | n + 1, P, hn, h => by
    have h1 := length_le_of_nodup n (P.erase n) (hn.erase n) (fun x hx => by
      have hx' := (List.Nodup.mem_erase_iff hn).1 hx
      have := h x hx'.2
      omega)
    by_cases hm : n ∈ P
    · rw [List.length_erase_of_mem hm] at h1; omega
    · rw [List.erase_of_not_mem hm] at h1; omega
theorem perm_mem {n : Nat} {P : List Nat} (hn : P.Nodup) (hv : ∀ x ∈ P, x < n) (hl : P.length = n) (s : Nat) (hs : s < n) : s ∈ P := by
  refine Decidable.byContradiction fun hm => ?_
  have := length_le_of_nodup n (s :: P) (List.nodup_cons.2 ⟨hm, hn⟩) (by
    intro x hx
    rcases List.mem_cons.1 hx with e | h
    · omega
    · exact hv x h)
  simp at this
  omega

/-- The layer of a segment. -/
def layerN (P : List Nat) (s : Nat) : Nat := P.idxOf s
theorem layerN_lt {n : Nat} {P : List Nat} (hn : P.Nodup) (hv : ∀ x ∈ P, x < n) (hl : P.length = n) {s : Nat} (hs : s < n) : layerN P s < n := by
  have := List.idxOf_lt_length_of_mem (perm_mem hn hv hl s hs); unfold layerN; omega
theorem layerN_at {n : Nat} {P : List Nat} (hn : P.Nodup) (hv : ∀ x ∈ P, x < n) (hl : P.length = n) {s : Nat} (hs : s < n) : P[layerN P s]?.getD 0 = s := by
  have := List.idxOf_lt_length_of_mem (perm_mem hn hv hl s hs)
  unfold layerN
  rw [List.getElem?_eq_getElem this]
  simp
theorem layerN_of {P : List Nat} (hn : P.Nodup) (j : Nat) (hj : j < P.length) : layerN P (P[j]) = j := by
  unfold layerN
  exact hn.idxOf_getElem j hj
theorem layerN_inj {n : Nat} {P : List Nat} (hn : P.Nodup) (hv : ∀ x ∈ P, x < n) (hl : P.length = n) {s t : Nat} (hs : s < n) (ht : t < n) (h : layerN P s = layerN P t) : s = t := by
  have a := layerN_at hn hv hl hs
  have b := layerN_at hn hv hl ht
  rw [h] at a
  omega
theorem layersTo_layer {n : Nat} {P : List Nat} (hn : P.Nodup) (hv : ∀ x ∈ P, x < n) (hl : P.length = n) {s : Nat} (hs : s < n) (j : Nat) (hj : j ≤ n) : (layersTo P n j)[s]?.getD 0 = if layerN P s < j then (layerN P s : Int) else -1 := by
  have h := layerN_lt hn hv hl hs
  have e := layerN_at hn hv hl hs
  have := layersTo_get n P hn hv j (by omega) (layerN P s) (by omega)
  rw [List.getElem?_eq_getElem (by omega : layerN P s < P.length)] at e
  simp only [Option.getD_some] at e
  rw [e] at this
  exact this

theorem crossB_btw {n : Nat} {P : List Nat} (hn : P.Nodup) (hv : ∀ x ∈ P, x < n) (hl : P.length = n) {a j s : Nat} (hs : s < n) (haj : a < j) (hj : j < n) :
    decide ((a : Int) < (layersTo P n j)[s]?.getD 0) = btwB (layerN P s) a j := by
  rw [layersTo_layer hn hv hl hs j (by omega), Bool.eq_iff_iff, btwB_iff, decide_eq_true_eq]
  split <;> omega

theorem stepB_iff {c : Cl} {n : Nat} {P : List Nat} {j : Nat} : stepB c n P j = true ↔ ∀ f ∈ c.crs, ((((layersTo P n j)[f.first]?.getD 0 == -1) != ((layersTo P n j)[f.second]?.getD 0 == -1)) = true →
    (¬ (c.low[P[j]?.getD 0]?.getD 0 < f.pos ∧ f.pos < c.high[P[j]?.getD 0]?.getD 0)) ∧ ((P[j]?.getD 0 = f.first ∨ P[j]?.getD 0 = f.second) → crossedB c.crs (layersTo P n j) f = false)) := by
  rw [stepB, fitsB, List.all_eq_true]
  refine forall_congr' fun f => forall_congr' fun _ => ?_
  rw [fitB]
  split
  · rename_i h
    simp only [h, true_implies, Bool.and_eq_true, Bool.not_eq_true', Bool.and_eq_false_iff, decide_eq_false_iff_not, Bool.or_eq_false_iff, beq_eq_false_iff_ne]
    constructor
    · rintro ⟨h1, h2⟩
      refine ⟨fun ⟨a, b⟩ => h1.elim (fun h => h a) (fun h => h b), fun h3 => ?_⟩
      rcases h2 with ⟨h4, h5⟩ | h4
      · exact absurd h3 (by omega)
      · exact h4
    · rintro ⟨h1, h2⟩
      refine ⟨?_, ?_⟩
      · by_cases h3 : c.low[P[j]?.getD 0]?.getD 0 < f.pos
        · exact .inr fun h4 => h1 ⟨h3, h4⟩
        · exact .inl h3
      · by_cases h3 : P[j]?.getD 0 = f.first ∨ P[j]?.getD 0 = f.second
        · exact .inr (h2 h3)
        · exact .inl ⟨fun e => h3 (.inl e), fun e => h3 (.inr e)⟩
  · rename_i h
    simp [h]

theorem open_iff {n : Nat} {P : List Nat} (hn : P.Nodup) (hv : ∀ x ∈ P, x < n) (hl : P.length = n) {a b : Nat} (ha : a < n) (hb : b < n) (j : Nat) (hj : j ≤ n) :
    (((layersTo P n j)[a]?.getD 0 == -1) != ((layersTo P n j)[b]?.getD 0 == -1)) = true ↔ (min (layerN P a) (layerN P b) < j ∧ j ≤ max (layerN P a) (layerN P b)) := by
  rw [layersTo_layer hn hv hl ha j hj, layersTo_layer hn hv hl hb j hj]
  have e : ∀ x : Nat, ((if x < j then (x : Int) else -1) == -1) = decide (¬ x < j) := by
    intro x
    rw [Bool.eq_iff_iff, beq_iff_eq, decide_eq_true_eq]
    split <;> omega
  rw [e, e, bne_iff_ne, Ne, decide_eq_decide]
  omega

theorem crossed_iff {c : Cl} {n : Nat} {P : List Nat} {p : Nat → Int} {right : Cr → Bool} (hF : Fair n p c right) (hn : P.Nodup) (hv : ∀ x ∈ P, x < n) (hl : P.length = n) {f : Cr} (hf : f ∈ c.crs) :
    crossedB c.crs (layersTo P n (max (layerN P f.first) (layerN P f.second))) f = false ↔
      ∀ g ∈ c.crs, g.pos = f.pos → right g = right f → btwB (layerN P g.first) (layerN P f.first) (layerN P f.second) = btwB (layerN P g.second) (layerN P f.first) (layerN P f.second) := by
  obtain ⟨h1, h2, h3⟩ := hF.ends f hf
  have l1 := layerN_lt hn hv hl h1
  have l2 := layerN_lt hn hv hl h2
  have hne : layerN P f.first ≠ layerN P f.second := fun e => h3 (layerN_inj hn hv hl h1 h2 e)
  obtain ⟨j, hj⟩ : ∃ j, max (layerN P f.first) (layerN P f.second) = j := ⟨_, rfl⟩
  obtain ⟨a, ha⟩ : ∃ a, min (layerN P f.first) (layerN P f.second) = a := ⟨_, rfl⟩
  have eb : max ((layersTo P n j)[f.first]?.getD 0) ((layersTo P n j)[f.second]?.getD 0) = (a : Int) := by
    rw [layersTo_layer hn hv hl h1 j (by omega), layersTo_layer hn hv hl h2 j (by omega)]
    split <;> split <;> omega
  have ebt : ∀ x : Int, btwB x (layerN P f.first) (layerN P f.second) = btwB x a j := by
    intro x
    rw [Bool.eq_iff_iff, btwB_iff, btwB_iff]
    omega
  rw [hj, crossedB, eb, List.any_eq_false]
  refine forall_congr' fun g => forall_congr' fun hg => ?_
  obtain ⟨g1, g2, g3⟩ := hF.ends g hg
  rw [crossB, crossB_btw hn hv hl g1 (by omega) (by omega), crossB_btw hn hv hl g2 (by omega) (by omega), ebt, ebt, Bool.and_eq_true, hF.side f hf g hg, bne_iff_ne]
  constructor
  · intro h p1 p2
    exact Decidable.byContradiction fun e => h ⟨⟨p1, p2⟩, e⟩
  · rintro h ⟨⟨p1, p2⟩, e⟩
    exact e (h p1 p2)

/-- Layer by layer, or all at once. -/
theorem okFrom_iff {c : Cl} {n : Nat} {P : List Nat} {p : Nat → Int} {right : Cr → Bool} (hF : Fair n p c right) (hn : P.Nodup) (hv : ∀ x ∈ P, x < n) (hl : P.length = n) :
    okFrom c n P 0 = true ↔ NoCross n p c.crs right (fun s => (layerN P s : Int)) := by
  have hok : okFrom c n P 0 = true ↔ ∀ j, j < n → stepB c n P j = true := by
    simp [okFrom]
  rw [hok]
  constructor
  · intro h
    refine ⟨?_, ?_⟩
    · rintro f hf i hi ⟨b1, b2⟩
      obtain ⟨h1, h2, h3⟩ := hF.ends f hf
      have hli := layerN_lt hn hv hl hi
      have hst := stepB_iff.1 (h (layerN P i) hli) f hf
      rw [layerN_at hn hv hl hi, open_iff hn hv hl h1 h2 _ (by omega), hF.low i hi, hF.high i hi] at hst
      rw [btwB_iff] at b1 b2
      exact (hst (by omega)).1 (by omega)
    · intro f hf
      obtain ⟨h1, h2, h3⟩ := hF.ends f hf
      refine (crossed_iff hF hn hv hl hf).1 ?_
      have l1 := layerN_lt hn hv hl h1
      have l2 := layerN_lt hn hv hl h2
      have hne : layerN P f.first ≠ layerN P f.second := fun e => h3 (layerN_inj hn hv hl h1 h2 e)
      have hst := stepB_iff.1 (h (max (layerN P f.first) (layerN P f.second)) (by omega)) f hf
      rw [open_iff hn hv hl h1 h2 _ (by omega)] at hst
      refine (hst (by omega)).2 ?_
      rcases Nat.le_total (layerN P f.first) (layerN P f.second) with e | e
      · right; rw [Nat.max_eq_right e]; exact layerN_at hn hv hl h2
      · left; rw [Nat.max_eq_left e]; exact layerN_at hn hv hl h1
  · rintro ⟨hs, hc⟩ j hj
    obtain ⟨s, hsj⟩ : ∃ s, P[j]?.getD 0 = s := ⟨_, rfl⟩
    have hPj : P[j] = s := by simpa [show j < P.length by omega] using hsj
    have hsn : s < n := by rw [← hPj]; exact hv _ (List.getElem_mem _)
    have hlj : layerN P s = j := by rw [← hPj]; exact layerN_of hn j (by omega)
    rw [stepB_iff, hsj]
    intro f hf hop
    obtain ⟨h1, h2, h3⟩ := hF.ends f hf
    rw [open_iff hn hv hl h1 h2 _ (by omega)] at hop
    have hne : layerN P f.first ≠ layerN P f.second := fun e => h3 (layerN_inj hn hv hl h1 h2 e)
    refine ⟨?_, ?_⟩
    · rw [hF.low s hsn, hF.high s hsn]
      by_cases e1 : s = f.first
      · have := hF.at1 f hf
        rw [← e1] at this
        omega
      · by_cases e2 : s = f.second
        · have := hF.at2 f hf
          rw [← e2] at this
          omega
        · have n1 : layerN P s ≠ layerN P f.first := fun e => e1 (layerN_inj hn hv hl hsn h1 e)
          have n2 : layerN P s ≠ layerN P f.second := fun e => e2 (layerN_inj hn hv hl hsn h2 e)
          intro hb
          refine hs f hf s hsn ⟨(btwB_iff _ _ _).2 hb, (btwB_iff _ _ _).2 ?_⟩
          show min (layerN P f.first : Int) (layerN P f.second) < (layerN P s : Int) ∧ (layerN P s : Int) < max (layerN P f.first : Int) (layerN P f.second)
          omega
    · intro he
      have em : max (layerN P f.first) (layerN P f.second) = j := by
        rcases he with e | e
        · rw [← e, hlj] at hop ⊢; omega
        · rw [← e, hlj] at hop ⊢; omega
      rw [← em]
      exact (crossed_iff hF hn hv hl hf).2 (hc f hf)

end Go.Proofs.Yteckeobhlfddlaa
