/-
  Cliques as lists, pure.
-/
import Derived.Test.YteckeobhlfddlaaSc
import Derived.Lib.RabinKarpLaws
namespace Go.Proofs.Yteckeobhlfddlaa.Rib

section
open Go.RowKit Go.Sort

/-- The reference's 'bits'. -/
def bitsR (s n : Nat) : List Int := ((List.range n).filter fun i => s.testBit i).map fun (x : Nat) => (x : Int)
theorem bitsR_list {s n : Nat} (hn : n ≤ 12) (hs : s < 2 ^ n) : bitsR s n = listI s := by
  unfold bitsR listI listN
  congr 1
  obtain ⟨d, hd⟩ : ∃ d, 12 = n + d := ⟨12 - n, by omega⟩
  rw [hd, List.range_add, List.filter_append]
  have : ((List.range d).map (n + ·)).filter (fun i => s.testBit i) = [] := by
    rw [List.filter_eq_nil_iff]
    intro i hi
    obtain ⟨k, _, rfl⟩ := List.mem_map.1 hi
    rw [Nat.testBit_lt_two_pow (Nat.lt_of_lt_of_le hs (Nat.pow_le_pow_right (by omega) (by omega)))]
    simp
  rw [this, List.append_nil]
theorem mem_bitsR {s n : Nat} {z : Int} : z ∈ bitsR s n ↔ ∃ b : Nat, z = b ∧ b < n ∧ s.testBit b = true := by
  unfold bitsR
  rw [List.mem_map]
  constructor
  · rintro ⟨b, hb, rfl⟩
    rw [List.mem_filter, List.mem_range] at hb
    exact ⟨b, rfl, hb.1, hb.2⟩
  · rintro ⟨b, rfl, h1, h2⟩
    exact ⟨b, List.mem_filter.2 ⟨List.mem_range.2 h1, h2⟩, rfl⟩
theorem bitsR_nodup (s n : Nat) : (bitsR s n).Nodup := List.Pairwise.map _ (fun a b hab => by omega) (List.nodup_range.sublist List.filter_sublist)

/-- The reference's test of a set. -/
def wholeAt (es : List (Int × Int)) (s n i : Nat) : Bool := s.testBit i || !(cliqueR es (bitsR s n ++ [(i : Int)]))
def wholeR (es : List (Int × Int)) (s n : Nat) : Bool := (List.range n).all (wholeAt es s n)
def maxR (es : List (Int × Int)) (s n : Nat) : Bool := cliqueR es (bitsR s n) && wholeR es s n

theorem clique_more {n : Nat} {es : List (Int × Int)} {s i : Nat} (hi : s.testBit i = false) (hc : cliqueR es (bitsR s n) = true) : cliqueR es (bitsR s n ++ [(i : Int)]) = true ↔ ∀ b : Nat, b < n → s.testBit b = true → nearB es i b = true := by
  have hnd : (bitsR s n ++ [(i : Int)]).Nodup := by
    rw [List.nodup_append]
    refine ⟨bitsR_nodup s n, by simp, ?_⟩
    intro a ha b hb e
    obtain ⟨k, rfl, _, hk⟩ := mem_bitsR.1 ha
    rw [List.mem_singleton] at hb
    have : k = i := by omega
    subst this
    rw [hi] at hk; cases hk
  rw [cliqueR_mem hnd]
  rw [cliqueR_mem (bitsR_nodup s n)] at hc
  constructor
  · intro h b hb hs
    refine h i (by simp) b (List.mem_append_left _ (mem_bitsR.2 ⟨b, rfl, hb, hs⟩)) fun e => ?_
    have : i = b := by omega
    subst this
    rw [hi] at hs; cases hs
  · intro h a ha b hb hab
    rcases List.mem_append.1 ha with ha | ha
    · rcases List.mem_append.1 hb with hb | hb
      · exact hc a ha b hb hab
      · rw [List.mem_singleton] at hb
        subst hb
        obtain ⟨k, rfl, hk, hks⟩ := mem_bitsR.1 ha
        rw [nearB_comm]; exact h k hk hks
    · rw [List.mem_singleton] at ha
      subst ha
      rcases List.mem_append.1 hb with hb | hb
      · obtain ⟨k, rfl, hk, hks⟩ := mem_bitsR.1 hb
        exact h k hk hks
      · rw [List.mem_singleton] at hb
        exact absurd hb.symm hab

theorem max_same {n : Nat} {gs : List Nat} {es : List (Int × Int)} (h : Adj n gs es) (hn : n ≤ 12) {s : Nat} (hs : s < 2 ^ n) : maxAt gs s = maxR es s n := by
  have hs16 : s < 65536 := Nat.lt_of_lt_of_le hs (Nat.le_trans (Nat.pow_le_pow_right (by omega) hn) (by decide))
  have hbn : ∀ b, s.testBit b = true → b < n := by
    intro b hb
    rcases Nat.lt_or_ge b n with h' | h'
    · exact h'
    · rw [Nat.testBit_lt_two_pow (Nat.lt_of_lt_of_le hs (Nat.pow_le_pow_right (by omega) h'))] at hb; cases hb
  have hsub : ∀ v, v < n → (subB (gs[v]?.getD 0) s = true ↔ ∀ b, s.testBit b = true → v ≠ b → nearB es v b = true) := by
    intro v hv
    rw [subB_iff (h.lt16 hn v) hs16]
    constructor
    · intro h1 b hb hvb
      have := h1 b hb
      rw [h.bit v b hv, decide_eq_false hvb, Bool.false_or] at this
      exact this
    · intro h1 b hb
      rw [h.bit v b hv]
      by_cases e : v = b
      · simp [e]
      · rw [h1 b hb e]; simp
  have hcl : cliqueR es (bitsR s n) = true ↔ ∀ a b, s.testBit a = true → s.testBit b = true → a ≠ b → nearB es a b = true := by
    rw [cliqueR_mem (bitsR_nodup s n)]
    constructor
    · intro h1 a b ha hb hab
      exact h1 a (mem_bitsR.2 ⟨a, rfl, hbn a ha, ha⟩) b (mem_bitsR.2 ⟨b, rfl, hbn b hb, hb⟩) (by omega)
    · intro h1 a ha b hb hab
      obtain ⟨x, rfl, _, hx⟩ := mem_bitsR.1 ha
      obtain ⟨y, rfl, _, hy⟩ := mem_bitsR.1 hb
      exact h1 x y hx hy (by omega)
  rw [Bool.eq_iff_iff, maxR, Bool.and_eq_true]
  simp only [maxAt, maxB, List.all_eq_true, List.mem_range, beq_iff_eq, h.len]
  constructor
  · intro hall
    have hc : cliqueR es (bitsR s n) = true := by
      rw [hcl]
      intro a b ha hb hab
      have := hall a (hbn a ha)
      rw [ha] at this
      exact (hsub a (hbn a ha)).1 this.symm b hb hab
    refine ⟨hc, ?_⟩
    simp only [wholeR, List.all_eq_true, List.mem_range, wholeAt, Bool.or_eq_true, Bool.not_eq_true']
    intro i hi
    cases hsi : s.testBit i with
    | true => exact .inl rfl
    | false =>
      refine .inr ?_
      rw [Bool.eq_false_iff]
      intro hcc
      have h1 := (clique_more hsi hc).1 hcc
      have h2 := hall i hi
      rw [hsi] at h2
      have h3 := (hsub i hi).2 fun b hb hib => h1 b (hbn b hb) hb
      rw [← h2] at h3; cases h3
  · rintro ⟨hc, hw⟩ v hv
    simp only [wholeR, List.all_eq_true, List.mem_range, wholeAt, Bool.or_eq_true, Bool.not_eq_true'] at hw
    cases hsv : s.testBit v with
    | true => exact ((hsub v hv).2 fun b hb hvb => hcl.1 hc v b hsv hb hvb).symm
    | false =>
      have hwv := hw v hv
      rw [hsv] at hwv
      rcases hwv with hwv | hwv
      · cases hwv
      · symm
        rw [Bool.eq_false_iff]
        intro h3
        have := (clique_more hsv hc).2 fun b hb hbs => (hsub v hv).1 h3 b hbs (fun e => by subst e; rw [hsv] at hbs; cases hbs)
        rw [this] at hwv; cases hwv

/-- There is a maximal clique. -/
theorem last_such (p : Nat → Prop) (h0 : p 0) : ∀ k, 0 < k → ∃ s, s < k ∧ p s ∧ ∀ t, s < t → t < k → ¬ p t := by
  intro k
  induction k with
  | zero => intro h; omega
  | succ k ih =>
    intro _
    by_cases hk : p k
    · exact ⟨k, by omega, hk, fun t h1 h2 => by omega⟩
    · by_cases hk0 : k = 0
      · subst hk0; exact absurd h0 hk
      · obtain ⟨s, h1, h2, h3⟩ := ih (by omega)
        refine ⟨s, by omega, h2, fun t h4 h5 => ?_⟩
        by_cases e : t = k
        · subst e; exact hk
        · exact h3 t h4 (by omega)
theorem cliques_some {n : Nat} {gs : List Nat} {es : List (Int × Int)} (h : Adj n gs es) (hn : n ≤ 12) : cliquesN gs ≠ [] := by
  obtain ⟨s, hs, hc, hlast⟩ := last_such (fun s => ∀ a b : Nat, s.testBit a = true → s.testBit b = true → a ≠ b → nearB es a b = true) (by simp) (2 ^ n) (Nat.pow_pos (by omega))
  have hmax : maxAt gs s = true := by
    rw [max_same h hn hs, maxR, Bool.and_eq_true]
    have hcl : cliqueR es (bitsR s n) = true := by
      rw [cliqueR_mem (bitsR_nodup s n)]
      intro a ha b hb hab
      obtain ⟨x, rfl, _, hx⟩ := mem_bitsR.1 ha
      obtain ⟨y, rfl, _, hy⟩ := mem_bitsR.1 hb
      exact hc x y hx hy (by omega)
    refine ⟨hcl, ?_⟩
    simp only [wholeR, List.all_eq_true, List.mem_range, wholeAt, Bool.or_eq_true, Bool.not_eq_true']
    intro i hi
    cases hsi : s.testBit i with
    | true => exact .inl rfl
    | false =>
      refine .inr ?_
      rw [Bool.eq_false_iff]
      intro hcc
      have h2 := (clique_more hsi hcl).1 hcc
      have hp : 2 ^ i < 2 ^ n := Nat.pow_lt_pow_right (by omega) hi
      have hlt : s ||| 2 ^ i < 2 ^ n := Nat.or_lt_two_pow hs hp
      have hgt : s < s ||| 2 ^ i := by
        refine Nat.lt_of_le_of_ne Nat.left_le_or fun e => ?_
        have := congrArg (fun z => Nat.testBit z i) e
        simp [Nat.testBit_or, hsi] at this
      have hbn : ∀ b, s.testBit b = true → b < n := by
        intro b hb
        rcases Nat.lt_or_ge b n with h' | h'
        · exact h'
        · rw [Nat.testBit_lt_two_pow (Nat.lt_of_lt_of_le hs (Nat.pow_le_pow_right (by omega) h'))] at hb; cases hb
      refine hlast _ hgt hlt fun a b ha hb hab => ?_
      rw [Nat.testBit_or, Nat.testBit_two_pow, Bool.or_eq_true, decide_eq_true_eq] at ha hb
      rcases ha with ha | rfl <;> rcases hb with hb | rfl
      · exact hc a b ha hb hab
      · rw [nearB_comm]; exact h2 a (hbn a ha) ha
      · exact h2 b (hbn b hb) hb
      · exact absurd rfl hab
  have hm : s ∈ cliquesN gs := by
    unfold cliquesN clsTo
    rw [List.mem_filter, List.mem_range, h.len]
    exact ⟨hs, hmax⟩
  exact List.ne_nil_of_mem hm

/-! ### The reference's order -/
def lessZ (a b : List Int) : Bool := decide (lexZ a b < 0)
/-- A list among lists, in its place. -/
def insAt (l : List Int) : List (List Int) → Nat
  | [] => 0
  | a :: out => if lessZ a l = true then insAt l out + 1 else 0
def insL (l : List Int) (out : List (List Int)) : List (List Int) := out.take (insAt l out) ++ l :: out.drop (insAt l out)
theorem insAt_le (l : List Int) : ∀ out, insAt l out ≤ out.length
  | [] => by simp [insAt]
  | a :: out => by rw [insAt]; split <;> simp [insAt_le l out]
theorem insL_cons (l a : List Int) (out : List (List Int)) : insL l (a :: out) = if lessZ a l = true then a :: insL l out else l :: a :: out := by
  unfold insL
  rw [insAt]
  split
  · simp
  · simp
theorem insL_perm (l : List Int) (out : List (List Int)) : (insL l out).Perm (l :: out) := by
  unfold insL
  have h := List.perm_middle (a := l) (l₁ := out.take (insAt l out)) (l₂ := out.drop (insAt l out))
  rwa [List.take_append_drop] at h
/-- Sorted: nothing is less than what stands ahead of it. -/
def leL (a b : List Int) : Prop := lexZ a b ≤ 0
theorem leL_trans {a b c : List Int} (h1 : leL a b) (h2 : leL b c) : leL a c := by
  unfold leL at *
  rcases Int.lt_trichotomy (lexZ a b) 0 with h | h | h
  · rcases Int.lt_trichotomy (lexZ b c) 0 with k | k | k
    · exact Int.le_of_lt (lexZ_trans _ _ _ h k)
    · rw [← (lexZ_zero _ _).1 k]; omega
    · omega
  · rw [(lexZ_zero _ _).1 h]; exact h2
  · omega
theorem insL_sorted (l : List Int) : ∀ (out : List (List Int)), out.Pairwise leL → (insL l out).Pairwise leL
  | [], _ => by simp [insL, insAt]
  | a :: out, h => by
    obtain ⟨h1, h2⟩ := List.pairwise_cons.1 h
    rw [insL_cons]
    split
    · next hl =>
      refine List.pairwise_cons.2 ⟨fun b hb => ?_, insL_sorted l out h2⟩
      rcases List.mem_cons.1 ((insL_perm l out).mem_iff.1 hb) with rfl | hb
      · rw [lessZ, decide_eq_true_eq] at hl
        exact Int.le_of_lt hl
      · exact h1 b hb
    · next hl =>
      rw [lessZ, decide_eq_true_eq] at hl
      have hla : leL l a := by
        have := lexZ_neg a l
        unfold leL; omega
      refine List.pairwise_cons.2 ⟨fun b hb => ?_, h⟩
      rcases List.mem_cons.1 hb with rfl | hb
      · exact hla
      · exact leL_trans hla (h1 b hb)

/-- The reference's list behind the first k sets. -/
def refCl (es : List (Int × Int)) (n : Nat) : Nat → List (List Int)
  | 0 => []
  | k + 1 => if maxR es k n = true then insL (bitsR k n) (refCl es n k) else refCl es n k
theorem refCl_perm (es : List (Int × Int)) (n : Nat) : ∀ k, (refCl es n k).Perm (((List.range k).filter fun s => maxR es s n).map fun s => bitsR s n)
  | 0 => by simp [refCl]
  | k + 1 => by
    rw [refCl, List.range_succ, List.filter_append, List.map_append]
    split
    · next h =>
      rw [List.filter_cons, if_pos h]
      exact ((insL_perm _ _).trans ((refCl_perm es n k).cons _)).trans (List.perm_append_singleton _ _).symm
    · next h =>
      rw [List.filter_cons, if_neg h]
      simpa using refCl_perm es n k
theorem refCl_sorted (es : List (Int × Int)) (n : Nat) : ∀ k, (refCl es n k).Pairwise leL
  | 0 => by simp [refCl]
  | k + 1 => by
    rw [refCl]
    split
    · exact insL_sorted _ _ (refCl_sorted es n k)
    · exact refCl_sorted es n k
theorem cliques_same {n : Nat} {gs : List Nat} {es : List (Int × Int)} (h : Adj n gs es) (hn : n ≤ 12) : cliqueLists gs = refCl es n (2 ^ n) := by
  have hp : (cliqueLists gs).Perm (refCl es n (2 ^ n)) := by
    have e : (cliquesN gs).map listI = ((List.range (2 ^ n)).filter fun s => maxR es s n).map fun s => bitsR s n := by
      unfold cliquesN clsTo
      rw [h.len, List.filter_congr (q := fun s => maxR es s n) (fun s hs => max_same h hn (List.mem_range.1 hs))]
      exact List.map_congr_left fun s hs => (bitsR_list hn (List.mem_range.1 (List.mem_filter.1 hs).1)).symm
    refine List.Perm.trans ?_ (refCl_perm es n (2 ^ n)).symm
    rw [← e]
    exact (List.mergeSort_perm _ _).map listI
  have hsrt : (cliqueLists gs).Pairwise leL := by
    have h1 := List.pairwise_mergeSort (le := leS) (fun a b c hab hbc => by
      simp only [leS, Bool.not_eq_true', decide_eq_false_iff_not] at *
      have n1 := lexZ_neg (listI a) (listI b)
      have n2 := lexZ_neg (listI b) (listI c)
      have n3 := lexZ_neg (listI a) (listI c)
      have : leL (listI a) (listI c) := leL_trans (b := listI b) (by unfold leL; omega) (by unfold leL; omega)
      unfold leL at this; omega) (fun a b => by
      simp only [leS, Bool.or_eq_true, Bool.not_eq_true', decide_eq_false_iff_not]
      have n1 := lexZ_neg (listI a) (listI b)
      omega) (cliquesN gs)
    exact List.Pairwise.map listI (fun a b hab => by
      simp only [leS, Bool.not_eq_true', decide_eq_false_iff_not] at hab
      have n1 := lexZ_neg (listI a) (listI b)
      unfold leL; omega) h1
  exact List.Perm.eq_of_pairwise (le := leL) (fun a b _ _ h1 h2 => by
    have n1 := lexZ_neg a b
    unfold leL at h1 h2
    exact (lexZ_zero a b).1 (by omega)) hsrt (refCl_sorted es n _) hp
end

section
open Go.RowKit Go.Sort

theorem bit64 (s i : Nat) (hs : s < 9223372036854775808) : bits .and .i64 ((s : Int) / 2 ^ i) 1 = if s.testBit i = true then 1 else 0 := by
  have e : ((s : Int) / 2 ^ i) = ((s / 2 ^ i : Nat) : Int) := by simp
  have hlt : s / 2 ^ i < 9223372036854775808 := Nat.lt_of_le_of_lt (Nat.div_le_self _ _) hs
  rw [e, and_one _ hlt, Nat.testBit_eq_decide_div_mod_eq]
  rcases Nat.mod_two_eq_zero_or_one (s / 2 ^ i) with h | h
  · rw [h]; simp
  · rw [h]; simp

def bitsTo (s k : Nat) : List Int := ((List.range k).filter fun i => s.testBit i).map fun (x : Nat) => (x : Int)
theorem bitsTo_yes {s k : Nat} (h : s.testBit k = true) : bitsTo s (k + 1) = bitsTo s k ++ [(k : Int)] := by simp [bitsTo, List.range_succ, h]
theorem bitsTo_no {s k : Nat} (h : s.testBit k = false) : bitsTo s (k + 1) = bitsTo s k := by simp [bitsTo, List.range_succ, h]
end

section
open Go.RowKit Go.Sort

/-- A slice of integers, as a value. -/
def ElemV (w : World) (v : Value) (l : List Int) : Prop := ∃ a c, v = .slice a l.length c ∧ Ints w a l
def EV (w : World) : List Value → List (List Int) → Prop
  | [], [] => True
  | v :: vs, l :: ls => ElemV w v l ∧ EV w vs ls
  | _, _ => False
theorem ElemV.below {w w' : World} {v : Value} {l : List Int} (h : ElemV w v l) (hb : Below w.heap.size w w') : ElemV w' v l := by
  obtain ⟨a, c, e, hi⟩ := h
  exact ⟨a, c, e, hi.below hb⟩
theorem EV.len {w : World} : ∀ {vs : List Value} {ls : List (List Int)}, EV w vs ls → vs.length = ls.length
  | [], [], _ => rfl
  | _ :: _, _ :: _, h => by simp [EV.len h.2]
theorem EV.below {w w' : World} (hb : Below w.heap.size w w') : ∀ {vs : List Value} {ls : List (List Int)}, EV w vs ls → EV w' vs ls
  | [], [], _ => trivial
  | _ :: _, _ :: _, h => ⟨h.1.below hb, EV.below hb h.2⟩
theorem EV.append {w : World} : ∀ {vs us : List Value} {ls ms : List (List Int)}, EV w vs ls → EV w us ms → EV w (vs ++ us) (ls ++ ms)
  | [], _, [], _, _, k => k
  | _ :: _, _, _ :: _, _, h, k => ⟨h.1, EV.append h.2 k⟩
theorem EV.take {w : World} : ∀ {vs : List Value} {ls : List (List Int)} (k : Nat), EV w vs ls → EV w (vs.take k) (ls.take k)
  | [], [], k, _ => by simp [EV]
  | _ :: _, _ :: _, 0, _ => trivial
  | _ :: _, _ :: _, k + 1, h => ⟨h.1, EV.take k h.2⟩
theorem EV.drop {w : World} : ∀ {vs : List Value} {ls : List (List Int)} (k : Nat), EV w vs ls → EV w (vs.drop k) (ls.drop k)
  | [], [], k, _ => by simp [EV]
  | _ :: _, _ :: _, 0, h => h
  | _ :: _, _ :: _, k + 1, h => EV.drop k h.2
theorem EV.at {w : World} : ∀ {vs : List Value} {ls : List (List Int)} (i : Nat), i < ls.length → EV w vs ls → ElemV w (vs[i]?.getD undef) (ls[i]?.getD [])
  | [], [], i, hi, _ => by simp at hi
  | _ :: _, _ :: _, 0, _, h => h.1
  | _ :: _, _ :: _, i + 1, hi, h => by simpa using EV.at i (by simpa using hi) h.2
theorem EV.one {w : World} : ∀ {vs : List Value} {ls : List (List Int)}, EV w vs ls → ∀ v ∈ vs, v.oneCell' = true
  | [], [], _, v, hv => by simp at hv
  | _ :: _, _ :: _, h, v, hv => by
    rcases List.mem_cons.1 hv with rfl | hv
    · obtain ⟨a, c, rfl, _⟩ := h.1; rfl
    · exact EV.one h.2 v hv

/-- A slice of slices that is not nil. -/
def Lists (w : World) (b off : Nat) (ls : List (List Int)) : Prop := ∃ vs, EV w vs ls ∧ ∀ i, i < ls.length → w.cell? ⟨b, off + i, none⟩ = some (vs[i]?.getD undef)
theorem Lists.below {w w' : World} {b off : Nat} {ls : List (List Int)} (h : Lists w b off ls) (hb : Below w.heap.size w w') : Lists w' b off ls := by
  obtain ⟨vs, he, hc⟩ := h
  exact ⟨vs, he.below hb, fun i hi => (hb.cell (p := ⟨b, off + i, none⟩) (World.block_lt_of_cell? w _ (hc i hi))).trans (hc i hi)⟩
theorem Lists.of_owns {w : World} {base g n cap : Nat} {vs : List Value} {ls : List (List Int)} (h : w.ownsRow base 22 1 (.slice (some ⟨g, 0, none⟩) n cap) n vs) (he : EV w vs ls) : Lists w g 0 ls := by
  refine ⟨vs, he, fun i hi => ?_⟩
  have hl := he.len
  have h1 := h.1
  rw [Nat.zero_add, h.cellAt i (by omega), List.getElem?_eq_getElem (by omega)]
  rfl

/-- An operation whose guard has said yes. -/
theorem wpList_wanted {P : Program} {ops : Array Oper} {Q : Exit → Act → World → Prop} {a : Act} {w : World} {rest : List Oper} {o : Oper} (hw : Region.wanted o (yielded ops a.tmps) = true)
    (h : ∀ K : Act → World → Prop, (∀ a w, wpList P ops Q rest a w → K a w) → o.wp P a w K Q) : wpList P ops Q (o :: rest) a w :=
  wpList_step fun K hK => by simp only [hw, if_true]; exact h K hK
theorem wpList_app_zs_g {W : World} {ops : Array Oper} {rest : List Oper} {o : Oper} {a : Act} {Q : Exit → Act → World → Prop} (hw : Region.wanted o (yielded ops a.tmps) = true) (s x : Operand)
    (ho : o.op = .call { callee := .builtin .append, args := #[s, x], argTypes := #[22, 22] }) (base : Nat) (v : Value) (n : Nat) (xs : List Value) (hs : a.eval s = v) (b off m c : Nat) (zs : List Int)
    (hx : a.eval x = .slice (some ⟨b, off, none⟩) m c) (hl : zs.length = m) (hc : ∀ j, j < zs.length → W.cell? ⟨b, off + j, none⟩ = some (.int .i64 (zs[j]?.getD 0))) (hown : W.ownsRow base 3 1 v n xs) (r : Nat) (hr : n + m = r) (hn : r ≤ 1000000) (hbase : base ≤ W.heap.size)
    (h : ∀ (a' : Option Addr) (c' : Nat) (w' : World), w'.ownsRow base 3 1 (.slice a' r c') r (xs ++ zs.map (Value.int .i64)) → W.grownBy w' v.ownBlock → wpList Try.prog ops Q rest (a.put o.dst (.slice a' r c')) w') :
    wpList Try.prog ops Q (o :: rest) a W := by
  obtain ⟨i0, hi, hz0, hz1, hz2⟩ := info_parts Try.info3
  subst hr
  refine wpList_wanted hw fun K hK => ?_
  obtain ⟨v', w', hrun, hown', hg, _, _⟩ := run_append_own_at (P := Try.prog) W base 22 o.type 3 i0 (.int .i64 0) 1 8 Try.underlying22 hi hz0 hz1 hz2 rfl (by decide) v n xs hown ⟨b, off, none⟩ m c (zs.map (Value.int .i64)) (by simp [hl]) (fun j u hj => by
    have hjl : j < zs.length := by have := (List.getElem?_eq_some_iff.1 hj).1; simpa using this
    have hadd : (⟨b, off, none⟩ : Addr).add j = ⟨b, off + j, none⟩ := by unfold Addr.add; split <;> simp_all
    rw [hadd, hc j hjl, ← hj]
    simp [hjl]) (by simp [Value.oneCell']) (by unfold maxLen; omega) (by omega) hbase
  obtain ⟨a', c', rfl⟩ := ownsRow_slice hown'
  unfold Oper.wp execOp
  simp only [ho, resolve, invoke, builtin, Sem.run_bind, Sem.run_pure, Result.andThen_ok, List.map_toArray, List.map_cons, List.map_nil, hs, hx, hrun]
  exact hK _ _ (h a' c' w' hown' hg)

theorem wpList_app_int_g {W : World} {ops : Array Oper} {rest : List Oper} {o : Oper} {a : Act} {Q : Exit → Act → World → Prop} (hw : Region.wanted o (yielded ops a.tmps) = true) (s x : Operand)
    (ho : o.op = .call { callee := .builtin .append, args := #[s, x], argTypes := #[22, 22] }) (base : Nat) (v : Value) (n : Nat) (xs : List Value) (hs : a.eval s = v) (z : Int) (b : Nat)
    (hx : a.eval x = .slice (some ⟨b, 0, none⟩) 1 1) (hb : b = W.heap.size) (hown : W.ownsRow base 3 1 v n xs) (hn : n ≤ 1000000) (hbase : base ≤ W.heap.size)
    (h : ∀ (g cap : Nat) (w' : World), w'.ownsRow base 3 1 (.slice (some ⟨g, 0, none⟩) (n + 1) cap) (n + 1) (xs ++ [.int .i64 z]) → W.grownBy w' v.ownBlock → wpList Try.prog ops Q rest (a.put o.dst (.slice (some ⟨g, 0, none⟩) (n + 1) cap)) w') :
    wpList Try.prog ops Q (o :: rest) a (W.alloc (.cells #[.int .i64 z] 3)) := by
  obtain ⟨i0, hi, hz0, hz1, hz2⟩ := info_parts Try.info3
  refine wpList_wanted hw fun K hK => ?_
  obtain ⟨v', w', hrun, hown', hg, _, _⟩ := run_append_own_at (P := Try.prog) (W.alloc (.cells #[.int .i64 z] 3)) base 22 o.type 3 i0 (.int .i64 0) 1 8 Try.underlying22 hi hz0 hz1 hz2 rfl (by decide) v n xs (hown.alloc _) ⟨b, 0, none⟩ 1 1 [.int .i64 z] rfl (cells_new W [.int .i64 z] _ b hb) (by simp [Value.oneCell']) (by unfold maxLen; omega) (by omega) (by simp; omega)
  obtain ⟨g, cap, rfl⟩ := ownsRow_succ' hown'
  unfold Oper.wp execOp
  simp only [ho, resolve, invoke, builtin, Sem.run_bind, Sem.run_pure, Result.andThen_ok, List.map_toArray, List.map_cons, List.map_nil, hs, hx, hrun]
  exact hK _ _ (h g cap w' hown' (grown_alloc hg))

theorem own_le {w : World} {base : Nat} {t : TypeId} {g n cap : Nat} {xs : List Value} (h : w.ownsRow base t 1 (.slice (some ⟨g, 0, none⟩) n cap) n xs) : n ≤ cap := by
  rcases h.2 with ⟨e, _⟩ | ⟨g', cap', cur, e, _, _, h1, _⟩
  · cases e
  · cases e; exact h1
theorem refCl_small (es : List (Int × Int)) (n k : Nat) : ∀ l ∈ refCl es n k, l.length ≤ n := by
  intro l hl
  obtain ⟨s, _, rfl⟩ := List.mem_map.1 ((refCl_perm es n k).mem_iff.1 hl)
  rw [bitsR, List.length_map]; exact Nat.le_trans (List.length_filter_le _ _) (by simp)
theorem insAt_step (L : List Int) (ls : List (List Int)) (k : Nat) (hk : k < ls.length) : insAt L (ls.drop k) = if lessZ (ls[k]?.getD []) L = true then insAt L (ls.drop (k + 1)) + 1 else 0 := by
  rw [List.drop_eq_getElem_cons hk, insAt, List.getElem?_eq_getElem hk]; rfl
theorem EV.insert {w : World} {vs : List Value} {ls : List (List Int)} {v : Value} {l : List Int} (h : EV w vs ls) (hv : ElemV w v l) (k : Nat) (hk : insAt l ls = k) : EV w (vs.take k ++ [v] ++ vs.drop k) (insL l ls) := by
  unfold insL
  rw [hk, List.append_assoc]
  exact EV.append (h.take k) (by show EV w (v :: vs.drop k) (l :: ls.drop k); exact ⟨hv, h.drop k⟩)

/-- Two appends onto a row that is new. -/
theorem two_apps {wr w3 w4 : World} {b : Nat} {v3 : Value} {r : Nat} {xs : List Value} (hg3 : (wr.alloc (.cells #[] 3)).grownBy w3 (some b)) (hb : wr.heap.size ≤ b) (hr3 : w3.ownsRow wr.heap.size 3 1 v3 r xs) (hg4 : w3.grownBy w4 v3.ownBlock) : Below wr.heap.size wr w4 := by
  have h1 : Below wr.heap.size wr w3 := ((Below.refl _ wr).alloc (Nat.le_refl _) (.cells #[] 3)).grown hg3 (by simp) (fun k hk => by simp at hk; omega)
  exact h1.grown hg4 h1.size (fun k hk => (hr3.lt k hk).1)
end

section
open Go.RowKit Go.Sort

theorem maxR_zero {es : List (Int × Int)} {n : Nat} (h1 : 1 ≤ n) : maxR es 0 n = false := by
  rw [maxR, Bool.and_eq_false_iff]
  refine .inr ?_
  refine range_false _ _ 0 (by omega) ?_
  have e : bitsR 0 n = [] := by simp [bitsR]
  rw [wholeAt, e]
  simp [cliqueR]
theorem refCl_one {es : List (Int × Int)} {n : Nat} (h1 : 1 ≤ n) : refCl es n 1 = [] := by
  rw [refCl, maxR_zero h1]; rfl
theorem refCl_len (es : List (Int × Int)) (n : Nat) : ∀ k, (refCl es n k).length ≤ k
  | 0 => by simp [refCl]
  | k + 1 => by
    rw [refCl]
    have := refCl_len es n k
    split
    · rw [(insL_perm _ _).length_eq, List.length_cons]; omega
    · omega
theorem wrap64s : ∀ n, n < 13 → IntKind.i64.wrap (2 ^ n) = ((2 ^ n : Nat) : Int) := by decide

/-- What the reference's 'Cliques' hands back. -/
def RefClV (ls : List (List Int)) (w : World) (e : Ending) (w' : World) : Prop := ∃ b c, e = .returned (.slice (some ⟨b, 0, none⟩) ls.length c) ∧ Lists w' b 0 ls ∧ Below w.heap.size w w'
end

end Go.Proofs.Yteckeobhlfddlaa.Rib
