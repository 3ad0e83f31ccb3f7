/-
  Cliques, pure: the maximal cliques of both are the same, in the same order.
-/
import Derived.Test.YticafbfijpjbnaaSc
namespace Go.Proofs.Yticafbfijpjbnaa
open Go.RowKit Go.Sort

/-- The reference's 'bits'. -/
def bitsR (s n : Nat) : List Int := ((List.range n).filter fun i => s.testBit i).map fun (x : Nat) => (x : Int)
theorem bitsR_list {s n : Nat} (hn : n ≤ 12) (hs : s < 2 ^ n) : bitsR s n = listI s := by
  unfold bitsR listI listN
  congr 1
  obtain ⟨d, hd⟩ : ∃ d, 12 = n + d := ⟨12 - n, by omega⟩
  rw [hd, List.range_add, List.filter_append]
  have : ((List.range d).map (n + ·)).filter (fun i => s.testBit i) = [] := by
    rw [List.filter_eq_nil_iff]
    intro i hi
    obtain ⟨k, _, rfl⟩ := List.mem_map.1 hi
    rw [Nat.testBit_lt_two_pow (Nat.lt_of_lt_of_le hs (Nat.pow_le_pow_right (by omega) (by omega)))]
    simp
  rw [this, List.append_nil]
theorem mem_bitsR {s n : Nat} {z : Int} : z ∈ bitsR s n ↔ ∃ b : Nat, z = b ∧ b < n ∧ s.testBit b = true := by
  unfold bitsR
  rw [List.mem_map]
  constructor
  · rintro ⟨b, hb, rfl⟩
    rw [List.mem_filter, List.mem_range] at hb
    exact ⟨b, rfl, hb.1, hb.2⟩
  · rintro ⟨b, rfl, h1, h2⟩
    exact ⟨b, List.mem_filter.2 ⟨List.mem_range.2 h1, h2⟩, rfl⟩
theorem bitsR_nodup (s n : Nat) : (bitsR s n).Nodup := List.Pairwise.map _ (fun a b hab => by omega) (List.nodup_range.sublist List.filter_sublist)

/-- The reference's test of a set. -/
def wholeAt (es : List (Int × Int)) (s n i : Nat) : Bool := s.testBit i || !(cliqueR es (bitsR s n ++ [(i : Int)]))
def wholeR (es : List (Int × Int)) (s n : Nat) : Bool := (List.range n).all (wholeAt es s n)
def maxR (es : List (Int × Int)) (s n : Nat) : Bool := cliqueR es (bitsR s n) && wholeR es s n

theorem clique_more {n : Nat} {es : List (Int × Int)} {s i : Nat} (hi : s.testBit i = false) (hc : cliqueR es (bitsR s n) = true) : cliqueR es (bitsR s n ++ [(i : Int)]) = true ↔ ∀ b : Nat, b < n → s.testBit b = true → nearB es i b = true := by
  have hnd : (bitsR s n ++ [(i : Int)]).Nodup := by
    rw [List.nodup_append]
    refine ⟨bitsR_nodup s n, by simp, ?_⟩
    intro a ha b hb e
    obtain ⟨k, rfl, _, hk⟩ := mem_bitsR.1 ha
    rw [List.mem_singleton] at hb
    have : k = i := by omega
    subst this
    rw [hi] at hk; cases hk
  rw [cliqueR_mem hnd]
  rw [cliqueR_mem (bitsR_nodup s n)] at hc
  constructor
  · intro h b hb hs
    refine h i (by simp) b (List.mem_append_left _ (mem_bitsR.2 ⟨b, rfl, hb, hs⟩)) fun e => ?_
    have : i = b := by omega
    subst this
    rw [hi] at hs; cases hs
  · intro h a ha b hb hab
    rcases List.mem_append.1 ha with ha | ha
    · rcases List.mem_append.1 hb with hb | hb
      · exact hc a ha b hb hab
      · rw [List.mem_singleton] at hb
        subst hb
        obtain ⟨k, rfl, hk, hks⟩ := mem_bitsR.1 ha
        rw [nearB_comm]; exact h k hk hks
    · rw [List.mem_singleton] at ha
      subst ha
      rcases List.mem_append.1 hb with hb | hb
      · obtain ⟨k, rfl, hk, hks⟩ := mem_bitsR.1 hb
        exact h k hk hks
      · rw [List.mem_singleton] at hb
        exact absurd hb.symm hab

theorem max_same {n : Nat} {gs : List Nat} {es : List (Int × Int)} (h : Adj n gs es) (hn : n ≤ 12) {s : Nat} (hs : s < 2 ^ n) : maxAt gs s = maxR es s n := by
  have hs16 : s < 65536 := Nat.lt_of_lt_of_le hs (Nat.le_trans (Nat.pow_le_pow_right (by omega) hn) (by decide))
  have hbn : ∀ b, s.testBit b = true → b < n := by
    intro b hb
    rcases Nat.lt_or_ge b n with h' | h'
    · exact h'
    · rw [Nat.testBit_lt_two_pow (Nat.lt_of_lt_of_le hs (Nat.pow_le_pow_right (by omega) h'))] at hb; cases hb
  have hsub : ∀ v, v < n → (subB (gs[v]?.getD 0) s = true ↔ ∀ b, s.testBit b = true → v ≠ b → nearB es v b = true) := by
    intro v hv
    rw [subB_iff (h.lt16 hn v) hs16]
    constructor
    · intro h1 b hb hvb
      have := h1 b hb
      rw [h.bit v b hv, decide_eq_false hvb, Bool.false_or] at this
      exact this
    · intro h1 b hb
      rw [h.bit v b hv]
      by_cases e : v = b
      · simp [e]
      · rw [h1 b hb e]; simp
  have hcl : cliqueR es (bitsR s n) = true ↔ ∀ a b, s.testBit a = true → s.testBit b = true → a ≠ b → nearB es a b = true := by
    rw [cliqueR_mem (bitsR_nodup s n)]
    constructor
    · intro h1 a b ha hb hab
      exact h1 a (mem_bitsR.2 ⟨a, rfl, hbn a ha, ha⟩) b (mem_bitsR.2 ⟨b, rfl, hbn b hb, hb⟩) (by omega)
    · intro h1 a ha b hb hab
      obtain ⟨x, rfl, _, hx⟩ := mem_bitsR.1 ha
      obtain ⟨y, rfl, _, hy⟩ := mem_bitsR.1 hb
      exact h1 x y hx hy (by omega)
  rw [Bool.eq_iff_iff, maxR, Bool.and_eq_true]
  simp only [maxAt, maxB, List.all_eq_true, List.mem_range, beq_iff_eq, h.len]
  constructor
  · intro hall
    have hc : cliqueR es (bitsR s n) = true := by
      rw [hcl]
      intro a b ha hb hab
      have := hall a (hbn a ha)
      rw [ha] at this
      exact (hsub a (hbn a ha)).1 this.symm b hb hab
    refine ⟨hc, ?_⟩
    simp only [wholeR, List.all_eq_true, List.mem_range, wholeAt, Bool.or_eq_true, Bool.not_eq_true']
    intro i hi
    cases hsi : s.testBit i with
    | true => exact .inl rfl
    | false =>
      refine .inr ?_
      rw [Bool.eq_false_iff]
      intro hcc
      have h1 := (clique_more hsi hc).1 hcc
      have h2 := hall i hi
      rw [hsi] at h2
      have h3 := (hsub i hi).2 fun b hb hib => h1 b (hbn b hb) hb
      rw [← h2] at h3; cases h3
  · rintro ⟨hc, hw⟩ v hv
    simp only [wholeR, List.all_eq_true, List.mem_range, wholeAt, Bool.or_eq_true, Bool.not_eq_true'] at hw
    cases hsv : s.testBit v with
    | true => exact ((hsub v hv).2 fun b hb hvb => hcl.1 hc v b hsv hb hvb).symm
    | false =>
      have hwv := hw v hv
      rw [hsv] at hwv
      rcases hwv with hwv | hwv
      · cases hwv
      · symm
        rw [Bool.eq_false_iff]
        intro h3
        have := (clique_more hsv hc).2 fun b hb hbs => (hsub v hv).1 h3 b hbs (fun e => by subst e; rw [hsv] at hbs; cases hbs)
        rw [this] at hwv; cases hwv

/-- There is a maximal clique. -/
theorem last_such (p : Nat → Prop) (h0 : p 0) : ∀ k, 0 < k → ∃ s, s < k ∧ p s ∧ ∀ t, s < t → t < k → ¬ p t := by
  intro k
  induction k with
  | zero => intro h; omega
  | succ k ih =>
    intro _
    by_cases hk : p k
    · exact ⟨k, by omega, hk, fun t h1 h2 => by omega⟩
    · by_cases hk0 : k = 0
      · subst hk0; exact absurd h0 hk
      · obtain ⟨s, h1, h2, h3⟩ := ih (by omega)
        refine ⟨s, by omega, h2, fun t h4 h5 => ?_⟩
        by_cases e : t = k
        · subst e; exact hk
        · exact h3 t h4 (by omega)
theorem cliques_some {n : Nat} {gs : List Nat} {es : List (Int × Int)} (h : Adj n gs es) (hn : n ≤ 12) : cliquesN gs ≠ [] := by
  obtain ⟨s, hs, hc, hlast⟩ := last_such (fun s => ∀ a b : Nat, s.testBit a = true → s.testBit b = true → a ≠ b → nearB es a b = true) (by simp) (2 ^ n) (Nat.pow_pos (by omega))
  have hmax : maxAt gs s = true := by
    rw [max_same h hn hs, maxR, Bool.and_eq_true]
    have hcl : cliqueR es (bitsR s n) = true := by
      rw [cliqueR_mem (bitsR_nodup s n)]
      intro a ha b hb hab
      obtain ⟨x, rfl, _, hx⟩ := mem_bitsR.1 ha
      obtain ⟨y, rfl, _, hy⟩ := mem_bitsR.1 hb
      exact hc x y hx hy (by omega)
    refine ⟨hcl, ?_⟩
    simp only [wholeR, List.all_eq_true, List.mem_range, wholeAt, Bool.or_eq_true, Bool.not_eq_true']
    intro i hi
    cases hsi : s.testBit i with
    | true => exact .inl rfl
    | false =>
      refine .inr ?_
      rw [Bool.eq_false_iff]
      intro hcc
      have h2 := (clique_more hsi hcl).1 hcc
      have hp : 2 ^ i < 2 ^ n := Nat.pow_lt_pow_right (by omega) hi
      have hlt : s ||| 2 ^ i < 2 ^ n := Nat.or_lt_two_pow hs hp
      have hgt : s < s ||| 2 ^ i := by
        refine Nat.lt_of_le_of_ne Nat.left_le_or fun e => ?_
        have := congrArg (fun z => Nat.testBit z i) e
        simp [Nat.testBit_or, hsi] at this
      have hbn : ∀ b, s.testBit b = true → b < n := by
        intro b hb
        rcases Nat.lt_or_ge b n with h' | h'
        · exact h'
        · rw [Nat.testBit_lt_two_pow (Nat.lt_of_lt_of_le hs (Nat.pow_le_pow_right (by omega) h'))] at hb; cases hb
      refine hlast _ hgt hlt fun a b ha hb hab => ?_
      rw [Nat.testBit_or, Nat.testBit_two_pow, Bool.or_eq_true, decide_eq_true_eq] at ha hb
      rcases ha with ha | rfl <;> rcases hb with hb | rfl
      · exact hc a b ha hb hab
      · rw [nearB_comm]; exact h2 a (hbn a ha) ha
      · exact h2 b (hbn b hb) hb
      · exact absurd rfl hab
  have hm : s ∈ cliquesN gs := by
    unfold cliquesN clsTo
    rw [List.mem_filter, List.mem_range, h.len]
    exact ⟨hs, hmax⟩
  exact List.ne_nil_of_mem hm

/-! ### The reference's order -/
def lessZ (a b : List Int) : Bool := decide (lexZ a b < 0)
/-- A list among lists, in its place. -/
def insAt (l : List Int) : List (List Int) → Nat
  | [] => 0
  | a :: out => if lessZ a l = true then insAt l out + 1 else 0
def insL (l : List Int) (out : List (List Int)) : List (List Int) := out.take (insAt l out) ++ l :: out.drop (insAt l out)
theorem insAt_le (l : List Int) : ∀ out, insAt l out ≤ out.length
  | [] => by simp [insAt]
  | a :: out => by rw [insAt]; split <;> simp [insAt_le l out]
theorem insL_cons (l a : List Int) (out : List (List Int)) : insL l (a :: out) = if lessZ a l = true then a :: insL l out else l :: a :: out := by
  unfold insL
  rw [insAt]
  split
  · simp
  · simp
theorem insL_perm (l : List Int) (out : List (List Int)) : (insL l out).Perm (l :: out) := by
  unfold insL
  have h := List.perm_middle (a := l) (l₁ := out.take (insAt l out)) (l₂ := out.drop (insAt l out))
  rwa [List.take_append_drop] at h
/-- Sorted: nothing is less than what stands ahead of it. -/
def leL (a b : List Int) : Prop := lexZ a b ≤ 0
theorem leL_trans {a b c : List Int} (h1 : leL a b) (h2 : leL b c) : leL a c := by
  unfold leL at *
  rcases Int.lt_trichotomy (lexZ a b) 0 with h | h | h
  · rcases Int.lt_trichotomy (lexZ b c) 0 with k | k | k
    · exact Int.le_of_lt (lexZ_trans _ _ _ h k)
    · rw [← (lexZ_zero _ _).1 k]; omega
    · omega
  · rw [(lexZ_zero _ _).1 h]; exact h2
  · omega
theorem insL_sorted (l : List Int) : ∀ (out : List (List Int)), out.Pairwise leL → (insL l out).Pairwise leL
  | [], _ => by simp [insL, insAt]
  | a :: out, h => by
    obtain ⟨h1, h2⟩ := List.pairwise_cons.1 h
    rw [insL_cons]
    split
    · next hl =>
      refine List.pairwise_cons.2 ⟨fun b hb => ?_, insL_sorted l out h2⟩
      rcases List.mem_cons.1 ((insL_perm l out).mem_iff.1 hb) with rfl | hb
      · rw [lessZ, decide_eq_true_eq] at hl
        exact Int.le_of_lt hl
      · exact h1 b hb
    · next hl =>
      rw [lessZ, decide_eq_true_eq] at hl
      have hla : leL l a := by
        have := lexZ_neg a l
        unfold leL; omega
      refine List.pairwise_cons.2 ⟨fun b hb => ?_, h⟩
      rcases List.mem_cons.1 hb with rfl | hb
      · exact hla
      · exact leL_trans hla (h1 b hb)

/-- The reference's list behind the first k sets. -/
def refCl (es : List (Int × Int)) (n : Nat) : Nat → List (List Int)
  | 0 => []
  | k + 1 => if maxR es k n = true then insL (bitsR k n) (refCl es n k) else refCl es n k
theorem refCl_perm (es : List (Int × Int)) (n : Nat) : ∀ k, (refCl es n k).Perm (((List.range k).filter fun s => maxR es s n).map fun s => bitsR s n)
  | 0 => by simp [refCl]
  | k + 1 => by
    rw [refCl, List.range_succ, List.filter_append, List.map_append]
    split
    · next h =>
      rw [List.filter_cons, if_pos h]
      exact ((insL_perm _ _).trans ((refCl_perm es n k).cons _)).trans (List.perm_append_singleton _ _).symm
    · next h =>
      rw [List.filter_cons, if_neg h]
      simpa using refCl_perm es n k
theorem refCl_sorted (es : List (Int × Int)) (n : Nat) : ∀ k, (refCl es n k).Pairwise leL
  | 0 => by simp [refCl]
  | k + 1 => by
    rw [refCl]
    split
    · exact insL_sorted _ _ (refCl_sorted es n k)
    · exact refCl_sorted es n k
theorem cliques_same {n : Nat} {gs : List Nat} {es : List (Int × Int)} (h : Adj n gs es) (hn : n ≤ 12) : cliqueLists gs = refCl es n (2 ^ n) := by
  have hp : (cliqueLists gs).Perm (refCl es n (2 ^ n)) := by
    have e : (cliquesN gs).map listI = ((List.range (2 ^ n)).filter fun s => maxR es s n).map fun s => bitsR s n := by
      unfold cliquesN clsTo
      rw [h.len, List.filter_congr (q := fun s => maxR es s n) (fun s hs => max_same h hn (List.mem_range.1 hs))]
      exact List.map_congr_left fun s hs => (bitsR_list hn (List.mem_range.1 (List.mem_filter.1 hs).1)).symm
    refine List.Perm.trans ?_ (refCl_perm es n (2 ^ n)).symm
    rw [← e]
    exact (List.mergeSort_perm _ _).map listI
  have hsrt : (cliqueLists gs).Pairwise leL := by
    have h1 := List.pairwise_mergeSort (le := leS) (fun a b c hab hbc => by
      simp only [leS, Bool.not_eq_true', decide_eq_false_iff_not] at *
      have n1 := lexZ_neg (listI a) (listI b)
      have n2 := lexZ_neg (listI b) (listI c)
      have n3 := lexZ_neg (listI a) (listI c)
      have : leL (listI a) (listI c) := leL_trans (b := listI b) (by unfold leL; omega) (by unfold leL; omega)
      unfold leL at this; omega) (fun a b => by
      simp only [leS, Bool.or_eq_true, Bool.not_eq_true', decide_eq_false_iff_not]
      have n1 := lexZ_neg (listI a) (listI b)
      omega) (cliquesN gs)
    exact List.Pairwise.map listI (fun a b hab => by
      simp only [leS, Bool.not_eq_true', decide_eq_false_iff_not] at hab
      have n1 := lexZ_neg (listI a) (listI b)
      unfold leL; omega) h1
  exact List.Perm.eq_of_pairwise (le := leL) (fun a b _ _ h1 h2 => by
    have n1 := lexZ_neg a b
    unfold leL at h1 h2
    exact (lexZ_zero a b).1 (by omega)) hsrt (refCl_sorted es n _) hp

end Go.Proofs.Yticafbfijpjbnaa
