/-
  Graphs, pure: the sets that 'graphOf' makes and the reference's neighbours; cliques, elimination orders, permutations and rings of both are the same.
-/
import Derived.Test.YteckeobhlfddlaaRg
namespace Go.Proofs.Yteckeobhlfddlaa.Rib
/-- What the reference's 'Near' says. -/
def pairAt (a b : Int) (e : Int × Int) : Bool := e.1 == min a b && (e.2 == max a b && (a != b))
def nearB (es : List (Int × Int)) (a b : Int) : Bool := es.any (pairAt a b)
def inR (v low high : Int) : Bool := decide (low ≤ v) && decide (v ≤ high)
/-- The reference's 'Graph', edge by edge. -/
def okE (n : Int) (pre : List (Int × Int)) (e : Int × Int) : Bool := inR e.1 0 (n - 1) && (inR e.2 (e.1 + 1) (n - 1) && !(pre.any (· == e)))
def validFrom (n : Int) : List (Int × Int) → List (Int × Int) → Bool
  | _, [] => true
  | pre, e :: es => okE n pre e && validFrom n (pre ++ [e]) es
def graphR (n : Int) (es : List (Int × Int)) : Bool := inR n 1 12 && validFrom n [] es

/-- The sets of a graph are the neighbours, and the node itself. -/
structure Adj (n : Nat) (gs : List Nat) (es : List (Int × Int)) : Prop where
  len : gs.length = n
  bit : ∀ a b : Nat, a < n → (gs[a]?.getD 0).testBit b = (decide (a = b) || nearB es a b)
  rng : ∀ e ∈ es, 0 ≤ e.1 ∧ e.1 < e.2 ∧ e.2 < n

theorem nearB_comm (es : List (Int × Int)) (a b : Int) : nearB es a b = nearB es b a := by
  unfold nearB pairAt
  congr 1
  funext e
  rw [Int.min_comm, Int.max_comm, bne_comm]
theorem nearB_self (es : List (Int × Int)) (a : Int) : nearB es a a = false := by
  unfold nearB pairAt
  rw [List.any_eq_false]
  intro e _
  simp
theorem pairAt_iff {a b : Int} {e : Int × Int} : pairAt a b e = true ↔ e.1 = min a b ∧ e.2 = max a b ∧ a ≠ b := by simp [pairAt]
theorem nearB_iff {es : List (Int × Int)} {a b : Int} : nearB es a b = true ↔ (min a b, max a b) ∈ es ∧ a ≠ b := by
  unfold nearB
  rw [List.any_eq_true]
  constructor
  · rintro ⟨e, he, h⟩
    obtain ⟨h1, h2, h3⟩ := pairAt_iff.1 h
    refine ⟨?_, h3⟩
    rw [← h1, ← h2]
    exact he
  · rintro ⟨h, h3⟩
    exact ⟨_, h, pairAt_iff.2 ⟨rfl, rfl, h3⟩⟩
theorem Adj.near_lt {n : Nat} {gs : List Nat} {es : List (Int × Int)} (h : Adj n gs es) {a b : Int} (hn : nearB es a b = true) : 0 ≤ a ∧ a < n ∧ 0 ≤ b ∧ b < n := by
  have h1 := h.rng _ (nearB_iff.1 hn).1
  simp only [] at h1
  omega
theorem Adj.start (n : Nat) : Adj n (startG n) [] where
  len := startG_len n
  bit a b ha := by
    have : (startG n)[a]?.getD 0 = 2 ^ a := by simp [startG, ha]
    rw [this, Nat.testBit_two_pow]
    simp [nearB]
  rng e he := by cases he
theorem nearB_snoc (es : List (Int × Int)) (e : Int × Int) (a b : Int) : nearB (es ++ [e]) a b = (nearB es a b || pairAt a b e) := by simp [nearB]
theorem pairAt_nat (a b A B : Nat) (h : A < B) : pairAt a b ((A : Int), (B : Int)) = ((decide (a = A) && decide (b = B)) || (decide (a = B) && decide (b = A))) := by
  rw [Bool.eq_iff_iff, pairAt_iff]
  simp only [Bool.or_eq_true, Bool.and_eq_true, decide_eq_true_eq]
  omega
theorem addEdge_get (gs : List Nat) (A B a : Nat) (hA : A < gs.length) (hB : B < gs.length) (hAB : A < B) :
    (addEdge gs A B)[a]?.getD 0 = if a = A then (gs[A]?.getD 0) ||| 2 ^ B else if a = B then (gs[B]?.getD 0) ||| 2 ^ A else gs[a]?.getD 0 := by
  unfold addEdge
  simp only [List.getElem?_set, List.length_set]
  by_cases h1 : a = A
  · subst h1
    have e : ¬ (B = a) := by omega
    simp [e, hA]
  · by_cases h2 : a = B
    · subst h2
      have e : ¬ (A = a) := by omega
      simp [h1, e, hB]
    · have e1 : ¬ (A = a) := fun e => h1 e.symm
      have e2 : ¬ (B = a) := fun e => h2 e.symm
      simp [h1, h2, e1, e2]
theorem Adj.add {n : Nat} {gs : List Nat} {es : List (Int × Int)} (h : Adj n gs es) {A B : Nat} (hAB : A < B) (hB : B < n) : Adj n (addEdge gs A B) (es ++ [((A : Int), (B : Int))]) where
  len := by rw [addEdge_len, h.len]
  bit a b ha := by
    have hAl : A < gs.length := by rw [h.len]; omega
    have hBl : B < gs.length := by rw [h.len]; omega
    rw [addEdge_get gs A B a hAl hBl hAB, nearB_snoc, pairAt_nat a b A B hAB]
    by_cases h1 : a = A
    · subst h1
      have e : ¬ (a = B) := by omega
      rw [if_pos rfl, Nat.testBit_or, h.bit a b ha, Nat.testBit_two_pow]
      simp only [e, decide_true, decide_false, Bool.true_and, Bool.false_and, Bool.or_false, Bool.or_assoc, eq_comm]
    · rw [if_neg h1]
      by_cases h2 : a = B
      · subst h2
        rw [if_pos rfl, Nat.testBit_or, h.bit a b ha, Nat.testBit_two_pow]
        simp only [h1, decide_true, decide_false, Bool.true_and, Bool.false_and, Bool.false_or, Bool.or_assoc, eq_comm]
      · rw [if_neg h2, h.bit a b ha]
        simp [h1, h2]
  rng e he := by
    rcases List.mem_append.1 he with h' | h'
    · exact h.rng e h'
    · obtain rfl := List.mem_singleton.1 h'
      simp only []
      omega

theorem graphFrom_spec (n : Nat) : ∀ (es pre : List (Int × Int)) (gs : List Nat), Adj n gs pre →
    (validFrom n pre es = true → ∃ gs', graphFrom n gs es = some gs' ∧ Adj n gs' (pre ++ es)) ∧ (validFrom n pre es = false → graphFrom n gs es = none)
  | [], pre, gs, h => ⟨fun _ => ⟨gs, rfl, by rw [List.append_nil]; exact h⟩, fun h' => by cases h'⟩
  | (A, B) :: es, pre, gs, h => by
    have hbad : badEdge n gs A B = !(okE n pre (A, B)) := by
      rw [Bool.eq_iff_iff]
      by_cases h0 : A < 0
      · simp [badEdge, okE, inR, h0, Int.not_le.2 h0]
      · by_cases h1 : B ≤ A
        · simp only [badEdge, okE, inR, h1, decide_true, Bool.true_or, Bool.or_true, Bool.not_eq_true', Bool.and_eq_false_iff, decide_eq_false_iff_not, true_iff]; omega
        · by_cases h2 : (n : Int) ≤ B
          · simp only [badEdge, okE, inR, h2, decide_true, Bool.true_or, Bool.or_true, Bool.not_eq_true', Bool.and_eq_false_iff, decide_eq_false_iff_not, true_iff]; omega
          · obtain ⟨x, rfl⟩ := Int.eq_ofNat_of_zero_le (show 0 ≤ A by omega)
            obtain ⟨y, rfl⟩ := Int.eq_ofNat_of_zero_le (show 0 ≤ B by omega)
            have e1 : badEdge n gs x y = nearB pre x y := by
              rw [badEdge, Int.toNat_natCast, Int.toNat_natCast, h.bit x y (by omega)]
              have : ¬ (x = y) := by omega
              have h0' : decide ((x : Int) < 0) = false := decide_eq_false h0
              have h1' : decide ((y : Int) ≤ x) = false := decide_eq_false h1
              have h2' : decide ((n : Int) ≤ y) = false := decide_eq_false h2
              rw [h0', h1', h2', decide_eq_false this]
              rfl
            have e2 : okE n pre (x, y) = !(pre.any (· == ((x : Int), (y : Int)))) := by
              have q1 : inR x 0 ((n : Int) - 1) = true := by simp [inR]; omega
              have q2 : inR y ((x : Int) + 1) ((n : Int) - 1) = true := by simp [inR]; omega
              rw [okE]
              simp only [q1, q2, Bool.true_and]
            rw [e1, e2, Bool.not_not, ← Bool.eq_iff_iff]
            unfold nearB
            congr 1
            funext e
            rw [Bool.eq_iff_iff, pairAt_iff, beq_iff_eq, Prod.ext_iff]
            simp only []
            omega
    by_cases hok : okE n pre (A, B) = true
    · have hA : 0 ≤ A ∧ A < B ∧ B < n := by
        simp [okE, inR] at hok
        omega
      obtain ⟨x, rfl⟩ := Int.eq_ofNat_of_zero_le (show 0 ≤ A by omega)
      obtain ⟨y, rfl⟩ := Int.eq_ofNat_of_zero_le (show 0 ≤ B by omega)
      have ih := graphFrom_spec n es (pre ++ [((x : Int), (y : Int))]) (addEdge gs x y) (h.add (by omega) (by omega))
      rw [graphFrom, hbad, hok, validFrom, hok]
      simpa using ih
    · rw [Bool.not_eq_true] at hok
      rw [graphFrom, hbad, hok, validFrom, hok]
      simp

/-- 'graphOf' and the reference's 'Graph' agree. -/
theorem graphN_good {n : Int} {es : List (Int × Int)} (h : graphR n es = true) : ∃ (m : Nat) (gs : List Nat), n = m ∧ 1 ≤ m ∧ m ≤ 12 ∧ graphN n es = some gs ∧ graphFrom m (startG m) es = some gs ∧ Adj m gs es := by
  simp only [graphR, inR, Bool.and_eq_true, decide_eq_true_eq] at h
  obtain ⟨⟨h1, h2⟩, h3⟩ := h
  obtain ⟨m, rfl⟩ := Int.eq_ofNat_of_zero_le (show 0 ≤ n by omega)
  obtain ⟨gs, e, ha⟩ := (graphFrom_spec m es [] (startG m) (Adj.start m)).1 h3
  exact ⟨m, gs, rfl, by omega, by omega, by rw [graphN, if_pos ⟨h1, h2⟩]; exact e, e, ha⟩
theorem graphN_bad {n : Int} {es : List (Int × Int)} (h : graphR n es = false) : graphN n es = none := by
  rw [graphN]
  by_cases hn : 1 ≤ n ∧ n ≤ 12
  · rw [if_pos hn]
    obtain ⟨m, rfl⟩ := Int.eq_ofNat_of_zero_le (show 0 ≤ n by omega)
    refine (graphFrom_spec m es [] (startG m) (Adj.start m)).2 ?_
    have : inR (m : Int) 1 12 = true := by simp only [inR, Bool.and_eq_true, decide_eq_true_eq]; exact hn
    rw [graphR, this, Bool.true_and] at h
    exact h
  · rw [if_neg hn]

/-! ### Sets of nodes -/
theorem Adj.lt {n : Nat} {gs : List Nat} {es : List (Int × Int)} (h : Adj n gs es) (a : Nat) : gs[a]?.getD 0 < 2 ^ n := by
  by_cases ha : a < n
  · refine Nat.lt_pow_two_of_testBit _ fun b hb => ?_
    rw [h.bit a b ha]
    have e : ¬ (a = b) := by omega
    rw [decide_eq_false e, Bool.false_or, Bool.eq_false_iff]
    intro hc
    have := h.near_lt hc
    omega
  · rw [List.getElem?_eq_none (by rw [h.len]; omega)]
    exact Nat.pow_pos (by omega)
theorem Adj.lt16 {n : Nat} {gs : List Nat} {es : List (Int × Int)} (h : Adj n gs es) (hn : n ≤ 12) (a : Nat) : gs[a]?.getD 0 < 65536 :=
  Nat.lt_of_lt_of_le (h.lt a) (Nat.le_trans (Nat.pow_le_pow_right (by omega) hn) (by decide))
theorem testBit_comp {x : Nat} (hx : x < 65536) (i : Nat) : (65535 - x).testBit i = (decide (i < 16) && !x.testBit i) := by
  have e : 65535 - x = 2 ^ 16 - (x + 1) := by omega
  rw [e, Nat.testBit_two_pow_sub_succ hx]
theorem subB_iff {y s : Nat} (hy : y < 65536) (hs : s < 65536) : subB y s = true ↔ ∀ b, s.testBit b = true → y.testBit b = true := by
  rw [subB, beq_iff_eq]
  constructor
  · intro h b hb
    have e := congrArg (fun z => Nat.testBit z b) h
    simp only [Nat.testBit_and, Nat.zero_testBit, hb, Bool.true_and] at e
    rw [testBit_comp hy] at e
    have hb16 : b < 16 := by
      rcases Nat.lt_or_ge b 16 with h' | h'
      · exact h'
      · rw [Nat.testBit_lt_two_pow (Nat.lt_of_lt_of_le hs (Nat.pow_le_pow_right (n := 2) (i := 16) (by omega) h'))] at hb
        cases hb
    simpa [hb16] using e
  · intro h
    refine Nat.eq_of_testBit_eq fun b => ?_
    rw [Nat.testBit_and, Nat.zero_testBit, testBit_comp hy]
    cases hb : s.testBit b with
    | false => rfl
    | true => rw [h b hb]; simp
theorem cliqueB_iff {n : Nat} {gs : List Nat} {es : List (Int × Int)} (h : Adj n gs es) (hn : n ≤ 12) {s : Nat} (hs : s < 2 ^ n) :
    cliqueB gs s = true ↔ ∀ a b : Nat, s.testBit a = true → s.testBit b = true → a ≠ b → nearB es a b = true := by
  have hs16 : s < 65536 := Nat.lt_of_lt_of_le hs (Nat.le_trans (Nat.pow_le_pow_right (by omega) hn) (by decide))
  have key : ∀ a, a < n → (cliqueAt gs s a = true ↔ (s.testBit a = true → ∀ b, s.testBit b = true → a ≠ b → nearB es a b = true)) := by
    intro a ha
    rw [cliqueAt]
    cases hsa : s.testBit a with
    | false => simp
    | true =>
      simp only [Bool.true_and, Bool.not_not, forall_const]
      rw [subB_iff (h.lt16 hn a) hs16]
      constructor
      · intro h1 b hb hab
        have := h1 b hb
        rw [h.bit a b ha, decide_eq_false hab, Bool.false_or] at this
        exact this
      · intro h1 b hb
        rw [h.bit a b ha]
        by_cases e : a = b
        · simp [e]
        · rw [h1 b hb e]; simp
  rw [cliqueB, List.all_eq_true]
  constructor
  · intro hall a b ha hb hab
    have hlt : a < n := by
      rcases Nat.lt_or_ge a n with h' | h'
      · exact h'
      · rw [Nat.testBit_lt_two_pow (Nat.lt_of_lt_of_le hs (Nat.pow_le_pow_right (by omega) h'))] at ha
        cases ha
    exact (key a hlt).1 (hall a (List.mem_range.2 (by rw [h.len]; exact hlt))) ha b hb hab
  · intro hall a ha
    rw [List.mem_range, h.len] at ha
    exact (key a ha).2 fun h1 b hb hab => hall a b h1 hb hab

/-! ### The reference's lists -/
def cliqueR (es : List (Int × Int)) (l : List Int) : Bool := (List.range l.length).all fun i => (List.range i).all fun k => nearB es (l[i]?.getD 0) (l[k]?.getD 0)
theorem cliqueR_iff {es : List (Int × Int)} {l : List Int} : cliqueR es l = true ↔ ∀ i k, k < i → i < l.length → nearB es (l[i]?.getD 0) (l[k]?.getD 0) = true := by
  simp only [cliqueR, List.all_eq_true, List.mem_range]
  exact ⟨fun h i k hk hi => h i hi k hk, fun h i hi k hk => h i k hk hi⟩
theorem cliqueR_mem {es : List (Int × Int)} {l : List Int} (hnd : l.Nodup) : cliqueR es l = true ↔ ∀ a ∈ l, ∀ b ∈ l, a ≠ b → nearB es a b = true := by
  rw [cliqueR_iff]
  constructor
  · intro h a ha b hb hab
    obtain ⟨i, hi, rfl⟩ := List.getElem_of_mem ha
    obtain ⟨k, hk, rfl⟩ := List.getElem_of_mem hb
    rcases Nat.lt_trichotomy i k with h1 | h1 | h1
    · have := h k i h1 hk
      rw [List.getElem?_eq_getElem hi, List.getElem?_eq_getElem hk, Option.getD_some, Option.getD_some, nearB_comm] at this
      exact this
    · subst h1; exact absurd rfl hab
    · have := h i k h1 hi
      rw [List.getElem?_eq_getElem hi, List.getElem?_eq_getElem hk, Option.getD_some, Option.getD_some] at this
      exact this
  · intro h i k hk hi
    have hk' : k < l.length := by omega
    rw [List.getElem?_eq_getElem hi, List.getElem?_eq_getElem hk', Option.getD_some, Option.getD_some]
    refine h _ (List.getElem_mem hi) _ (List.getElem_mem hk') fun e => ?_
    have := (List.getElem_inj hnd).1 e
    omega
/-- A set and a list of nodes are the same, and so is whether they are a clique. -/
theorem clique_same {n : Nat} {gs : List Nat} {es : List (Int × Int)} (h : Adj n gs es) (hn : n ≤ 12) {s : Nat} (hs : s < 2 ^ n) {l : List Int} (hnd : l.Nodup) (hl : ∀ z ∈ l, 0 ≤ z) (hm : ∀ b : Nat, s.testBit b = true ↔ (b : Int) ∈ l) : cliqueB gs s = cliqueR es l := by
  rw [Bool.eq_iff_iff, cliqueB_iff h hn hs, cliqueR_mem hnd]
  constructor
  · intro h1 a ha b hb hab
    obtain ⟨x, rfl⟩ := Int.eq_ofNat_of_zero_le (hl a ha)
    obtain ⟨y, rfl⟩ := Int.eq_ofNat_of_zero_le (hl b hb)
    exact h1 x y ((hm x).2 ha) ((hm y).2 hb) (by omega)
  · intro h1 a b ha hb hab
    exact h1 a ((hm a).1 ha) b ((hm b).1 hb) (by omega)

/-- The reference's 'Eliminates'. -/
def elimR (es : List (Int × Int)) : List Int → Bool
  | [] => true
  | v :: O => cliqueR es (O.filter fun z => nearB es v z) && elimR es O
theorem and_lt_pow {x y n : Nat} (h : x < 2 ^ n) : x &&& y < 2 ^ n := Nat.lt_of_le_of_lt Nat.and_le_left h
theorem elim_same {n : Nat} {gs : List Nat} {es : List (Int × Int)} (h : Adj n gs es) (hn : n ≤ 12) : ∀ (O : List Nat) (left : Nat), O.Nodup → (∀ x ∈ O, x < n) → left < 2 ^ n → (∀ b, left.testBit b = true ↔ b ∈ O) → elimFrom gs left O = elimR es (O.map fun (x : Nat) => (x : Int))
  | [], _, _, _, _, _ => rfl
  | v :: O, left, hnd, hlt, hl, hm => by
    have hv : v < n := hlt v (by simp)
    obtain ⟨hvO, hnd'⟩ := List.nodup_cons.1 hnd
    rw [elimFrom, List.map_cons, elimR]
    have hndI : (O.map fun (x : Nat) => (x : Int)).Nodup := List.Pairwise.map _ (fun a b hab => by omega) hnd'
    congr 1
    · have e1 : cliqueB gs (gs[v]?.getD 0 &&& left) = cliqueB gs (setN' (v :: O.filter fun b => nearB es v b)) := by
        congr 1
        refine Nat.eq_of_testBit_eq fun b => ?_
        rw [Nat.testBit_and, h.bit v b hv, testBit_setN', Bool.eq_iff_iff]
        simp only [Bool.and_eq_true, Bool.or_eq_true, decide_eq_true_eq, hm, List.contains_iff_mem, List.mem_cons, List.mem_filter]
        constructor
        · rintro ⟨h1 | h1, h2 | h2⟩
          · exact .inl h2
          · exact .inl h1.symm
          · exact .inl h2
          · exact .inr ⟨h2, h1⟩
        · rintro (rfl | ⟨h1, h2⟩)
          · exact ⟨.inl rfl, .inl rfl⟩
          · exact ⟨.inr h2, .inr h1⟩
      rw [e1, Bool.eq_iff_iff]
      have hs : setN' (v :: O.filter fun b => nearB es v b) < 2 ^ n := by
        refine Nat.lt_pow_two_of_testBit _ fun b hb => ?_
        rw [testBit_setN', Bool.eq_false_iff]
        intro hc
        rw [List.contains_iff_mem, List.mem_cons, List.mem_filter] at hc
        rcases hc with rfl | ⟨hc, _⟩
        · omega
        · have := hlt b (by simp [hc]); omega
      rw [cliqueB_iff h hn hs, cliqueR_mem (hndI.sublist List.filter_sublist)]
      simp only [testBit_setN', List.contains_iff_mem, List.mem_cons, List.mem_filter]
      constructor
      · rintro h1 a ⟨ha, ha2⟩ b ⟨hb, hb2⟩ hab
        obtain ⟨x, hx, rfl⟩ := List.mem_map.1 ha
        obtain ⟨y, hy, rfl⟩ := List.mem_map.1 hb
        exact h1 x y (.inr ⟨hx, ha2⟩) (.inr ⟨hy, hb2⟩) (by omega)
      · rintro h1 a b (rfl | ⟨ha, ha2⟩) (rfl | ⟨hb, hb2⟩) hab
        · exact absurd rfl hab
        · exact hb2
        · rw [nearB_comm]; exact ha2
        · exact h1 a ⟨List.mem_map.2 ⟨a, ha, rfl⟩, ha2⟩ b ⟨List.mem_map.2 ⟨b, hb, rfl⟩, hb2⟩ (by omega)
    · refine elim_same h hn O _ hnd' (fun x hx => hlt x (by simp [hx])) (and_lt_pow hl) fun b => ?_
      have hp : 2 ^ v < 65536 := Nat.pow_lt_pow_right (m := v) (n := 16) (by omega) (by omega)
      rw [Nat.testBit_and, testBit_comp hp, Nat.testBit_two_pow]
      simp only [Bool.and_eq_true, hm, List.mem_cons, decide_eq_true_eq, Bool.not_eq_true', decide_eq_false_iff_not]
      constructor
      · rintro ⟨h1 | h1, _, h2⟩
        · exact absurd h1.symm h2
        · exact h1
      · intro h1
        have := hlt b (by simp [h1])
        refine ⟨.inr h1, by omega, fun e => hvO (e ▸ h1)⟩

/-! ### Permutations -/
def newR (zs : List Int) (n : Int) (i : Nat) : Bool := inR (zs[i]?.getD 0) 0 (n - 1) && (List.range i).all (fun k => !(zs[k]?.getD 0 == zs[i]?.getD 0))
def permR (zs : List Int) (n : Int) : Bool := (List.range zs.length).all (newR zs n) && decide ((zs.length : Int) = n)
theorem permR_good {zs : List Int} {n : Nat} (h : permR zs n = true) : ∃ O : List Nat, zs = O.map (fun (x : Nat) => (x : Int)) ∧ O.Nodup ∧ (∀ x ∈ O, x < n) ∧ O.length = n := by
  simp only [permR, newR, inR, Bool.and_eq_true, List.all_eq_true, List.mem_range, decide_eq_true_eq, Bool.not_eq_true', beq_eq_false_iff_ne] at h
  obtain ⟨h1, h2⟩ := h
  have hg : ∀ i (hi : i < zs.length), zs[i]?.getD 0 = zs[i] := fun i hi => by simp [hi]
  have hb : ∀ z ∈ zs, 0 ≤ z ∧ z < n := by
    intro z hz
    obtain ⟨i, hi, rfl⟩ := List.getElem_of_mem hz
    have := (h1 i hi).1
    rw [hg i hi] at this
    omega
  refine ⟨zs.map Int.toNat, ?_, ?_, ?_, by simp; omega⟩
  · rw [List.map_map]
    conv => lhs; rw [← List.map_id zs]
    refine List.map_congr_left fun z hz => ?_
    have := hb z hz
    show z = ((z.toNat : Nat) : Int)
    omega
  · rw [List.nodup_iff_pairwise_ne, List.pairwise_map, List.pairwise_iff_getElem]
    intro i j hi hj hij e
    have a := hb _ (List.getElem_mem hi)
    have b := hb _ (List.getElem_mem hj)
    have := (h1 j hj).2 i hij
    rw [hg i hi, hg j hj] at this
    omega
  · intro x hx
    obtain ⟨z, hz, rfl⟩ := List.mem_map.1 hx
    have := hb z hz
    omega
theorem nodup_perm {F L : List Nat} (hF : F.Nodup) (hs : F ⊆ L) (hl : L.length ≤ F.length) : F.Perm L := by
  induction F generalizing L with
  | nil => rw [List.eq_nil_of_length_eq_zero (Nat.le_zero.1 hl)]
  | cons a t ih =>
    rw [List.nodup_cons] at hF
    have ha : a ∈ L := hs List.mem_cons_self
    have h1 := ih (L := L.erase a) hF.2 (fun x hx => (List.mem_erase_of_ne (fun (e : x = a) => hF.1 (by rw [← e]; exact hx))).2 (hs (List.mem_cons_of_mem _ hx))) (by rw [List.length_erase_of_mem ha]; simp at hl; omega)
    exact (h1.cons a).trans (List.perm_cons_erase ha).symm
theorem full_bits {n b : Nat} : (2 ^ n - 1).testBit b = decide (b < n) := Nat.testBit_two_pow_sub_one n b
theorem permR_iff (zs : List Int) (n : Nat) : permG n zs = permR zs n := by
  rw [Bool.eq_iff_iff]
  constructor
  · intro h
    simp only [permG, Bool.and_eq_true, decide_eq_true_eq, List.all_eq_true, beq_iff_eq, nodeB] at h
    obtain ⟨h1, h2, h3⟩ := h
    have hmem : ∀ b, b < n → b ∈ zs.map Int.toNat := by
      intro b hb
      have e := congrArg (fun z => Nat.testBit z b) h3
      simp only [testBit_setN', full_bits, hb, decide_true] at e
      exact List.contains_iff_mem.1 e
    have hnd : (zs.map Int.toNat).Nodup := by
      have hs : List.range n ⊆ zs.map Int.toNat := fun b hb => hmem b (List.mem_range.1 hb)
      have hp := nodup_perm List.nodup_range hs (by simp; omega)
      exact hp.nodup_iff.1 List.nodup_range
    simp only [permR, newR, inR, Bool.and_eq_true, List.all_eq_true, List.mem_range, decide_eq_true_eq, Bool.not_eq_true', beq_eq_false_iff_ne]
    refine ⟨fun i hi => ⟨?_, fun k hk e => ?_⟩, by omega⟩
    · have := h2 _ (List.getElem_mem hi)
      rw [List.getElem?_eq_getElem hi, Option.getD_some]
      omega
    · have hk' : k < zs.length := by omega
      rw [List.getElem?_eq_getElem hi, List.getElem?_eq_getElem hk', Option.getD_some, Option.getD_some] at e
      have hi' : i < (zs.map Int.toNat).length := by simpa using hi
      have hk2 : k < (zs.map Int.toNat).length := by simpa using hk'
      have := (List.getElem_inj (h₀ := hk2) (h₁ := hi') hnd).1 (by simp [e])
      omega
  · intro h
    obtain ⟨O, rfl, h1, h2, h3⟩ := permR_good h
    simp only [permG, Bool.and_eq_true, decide_eq_true_eq, List.all_eq_true, beq_iff_eq, nodeB, List.length_map]
    refine ⟨h3, fun z hz => ?_, ?_⟩
    · obtain ⟨x, hx, rfl⟩ := List.mem_map.1 hz
      have := h2 x hx
      omega
    · have e : (O.map fun (x : Nat) => (x : Int)).map Int.toNat = O := by
        rw [List.map_map]
        conv => rhs; rw [← List.map_id O]
        exact List.map_congr_left fun x _ => by simp
      rw [e]
      refine Nat.eq_of_testBit_eq fun b => ?_
      rw [testBit_setN', full_bits, Bool.eq_iff_iff, List.contains_iff_mem, decide_eq_true_eq]
      constructor
      · exact h2 b
      · intro hb
        have hs : O ⊆ List.range n := fun x hx => List.mem_range.2 (h2 x hx)
        have hp := nodup_perm h1 hs (by simp [h3])
        exact hp.mem_iff.2 (List.mem_range.2 hb)
/-! ### Rings -/
theorem nodup_of_len {F L : List Nat} (hF : F.Nodup) (hs : F ⊆ L) (hl : L.length ≤ F.length) : L.Nodup := (nodup_perm hF hs hl).nodup_iff.1 hF
theorem cnt_set (L : List Nat) (h : ∀ x ∈ L, x < 16) : (L.length ≤ cntN (setN' L)) ↔ L.Nodup := by
  have hF : ((List.range 16).filter fun i => (setN' L).testBit i).Nodup := List.nodup_range.sublist List.filter_sublist
  have hm : ∀ x, x ∈ ((List.range 16).filter fun i => (setN' L).testBit i) ↔ x ∈ L := by
    intro x
    rw [List.mem_filter, testBit_setN', List.contains_iff_mem, List.mem_range]
    exact ⟨fun h => h.2, fun hx => ⟨h x hx, hx⟩⟩
  constructor
  · intro hl
    exact nodup_of_len hF (fun x hx => (hm x).1 hx) hl
  · intro hn
    exact List.Nodup.length_le_of_subset hn fun x hx => (hm x).2 hx

/-- The program's test of a ring's node: its neighbours in the ring are the node before it and the one behind. -/
def ringAt (gs L : List Nat) (i : Nat) : Bool := ((gs[L[i]?.getD 0]?.getD 0) &&& setN' L) == setN' [L[(i + L.length - 1) % L.length]?.getD 0, L[i]?.getD 0, L[(i + 1) % L.length]?.getD 0]
def ringN (gs L : List Nat) : Bool := decide (4 ≤ L.length) && (decide (L.length ≤ cntN (setN' L)) && (List.range L.length).all (ringAt gs L))
/-- The reference's. -/
def nextR (n i k : Nat) : Bool := decide (i = k + 1) || (decide (k = 0) && decide (i + 1 = n))
def ringRAt (es : List (Int × Int)) (l : List Int) (i k : Nat) : Bool := !(l[i]?.getD 0 == l[k]?.getD 0) && (nextR l.length i k == nearB es (l[i]?.getD 0) (l[k]?.getD 0))
def ringR (es : List (Int × Int)) (l : List Int) : Bool := decide (4 ≤ l.length) && (List.range l.length).all fun i => (List.range i).all (ringRAt es l i)

theorem ring_before {n i : Nat} (hi : i < n) (h4 : 4 ≤ n) : (i + n - 1) % n = if i = 0 then n - 1 else i - 1 := by
  by_cases h : i = 0
  · subst h; rw [if_pos rfl, Nat.zero_add]; exact Nat.mod_eq_of_lt (by omega)
  · rw [if_neg h, show i + n - 1 = (i - 1) + n by omega, Nat.add_mod_right]; exact Nat.mod_eq_of_lt (by omega)
theorem ring_after {n i : Nat} (hi : i < n) (_h4 : 4 ≤ n) : (i + 1) % n = if i + 1 = n then 0 else i + 1 := by
  by_cases h : i + 1 = n
  · rw [if_pos h, h, Nat.mod_self]
  · rw [if_neg h]; exact Nat.mod_eq_of_lt (by omega)

theorem ringAt_iff {n : Nat} {gs : List Nat} {es : List (Int × Int)} (h : Adj n gs es) {L : List Nat} (hlt : ∀ x ∈ L, x < n) (hnd : L.Nodup) (h4 : 4 ≤ L.length) {i : Nat} (hi : i < L.length) :
    ringAt gs L i = true ↔ ∀ k, k < L.length → k ≠ i → (nearB es ((L[i]?.getD 0 : Nat) : Int) ((L[k]?.getD 0 : Nat) : Int) = true ↔ (k = (i + L.length - 1) % L.length ∨ k = (i + 1) % L.length)) := by
  have hget : ∀ k, k < L.length → L[k]?.getD 0 ∈ L := fun k hk => by rw [List.getElem?_eq_getElem hk]; exact List.getElem_mem hk
  have hinj : ∀ k j, k < L.length → j < L.length → L[k]?.getD 0 = L[j]?.getD 0 → k = j := fun k j hk hj e => by
    rw [List.getElem?_eq_getElem hk, List.getElem?_eq_getElem hj] at e
    exact (List.getElem_inj hnd).1 e
  have hb : (i + L.length - 1) % L.length < L.length := Nat.mod_lt _ (by omega)
  have ha : (i + 1) % L.length < L.length := Nat.mod_lt _ (by omega)
  have hbi : (i + L.length - 1) % L.length ≠ i := by rw [ring_before hi h4]; split <;> omega
  have hai : (i + 1) % L.length ≠ i := by rw [ring_after hi h4]; split <;> omega
  rw [ringAt, beq_iff_eq]
  generalize (i + L.length - 1) % L.length = p at *
  generalize (i + 1) % L.length = q at *
  have hv := hlt _ (hget i hi)
  constructor
  · intro he k hk hki
    have e := congrArg (fun z => Nat.testBit z (L[k]?.getD 0)) he
    simp only [Nat.testBit_and, testBit_setN', h.bit _ _ hv] at e
    have e1 : L.contains (L[k]?.getD 0) = true := List.contains_iff_mem.2 (hget k hk)
    have e2 : decide (L[i]?.getD 0 = L[k]?.getD 0) = false := decide_eq_false fun e => hki (hinj _ _ hk hi e.symm)
    rw [e1, e2, Bool.and_true, Bool.false_or] at e
    rw [e, List.contains_iff_mem]
    simp only [List.mem_cons, List.not_mem_nil, or_false]
    constructor
    · rintro (e' | e' | e')
      · exact .inl (hinj _ _ hk hb e')
      · exact absurd (hinj _ _ hk hi e') hki
      · exact .inr (hinj _ _ hk ha e')
    · rintro (rfl | rfl)
      · exact .inl rfl
      · exact .inr (.inr rfl)
  · intro hall
    refine Nat.eq_of_testBit_eq fun b => ?_
    rw [Nat.testBit_and, testBit_setN', testBit_setN', h.bit _ _ hv, Bool.eq_iff_iff]
    simp only [Bool.and_eq_true, Bool.or_eq_true, decide_eq_true_eq, List.contains_iff_mem, List.mem_cons, List.not_mem_nil, or_false]
    constructor
    · rintro ⟨h1, h2⟩
      obtain ⟨k, hk, rfl⟩ := List.getElem_of_mem h2
      have ek : L[k]?.getD 0 = L[k] := by rw [List.getElem?_eq_getElem hk]; rfl
      by_cases hki : k = i
      · subst hki; exact .inr (.inl ek.symm)
      · rcases h1 with h1 | h1
        · exact absurd (hinj _ _ hk hi (by rw [ek, h1])) hki
        · rw [← ek] at h1
          rcases (hall k hk hki).1 h1 with rfl | rfl
          · exact .inl ek.symm
          · exact .inr (.inr ek.symm)
    · rintro (rfl | rfl | rfl)
      · exact ⟨.inr ((hall p hb hbi).2 (.inl rfl)), hget p hb⟩
      · exact ⟨.inl rfl, hget i hi⟩
      · exact ⟨.inr ((hall q ha hai).2 (.inr rfl)), hget q ha⟩

theorem ring_same {n : Nat} {gs : List Nat} {es : List (Int × Int)} (h : Adj n gs es) (hn : n ≤ 12) {L : List Nat} (hlt : ∀ x ∈ L, x < n) : ringN gs L = ringR es (L.map fun (x : Nat) => (x : Int)) := by
  have hl16 : ∀ x ∈ L, x < 16 := fun x hx => by have := hlt x hx; omega
  have hg : ∀ k, (L.map fun (x : Nat) => (x : Int))[k]?.getD 0 = ((L[k]?.getD 0 : Nat) : Int) := fun k => by
    rw [List.getElem?_map]
    cases L[k]? <;> rfl
  rw [Bool.eq_iff_iff]
  simp only [ringN, ringR, ringRAt, hg, List.length_map, Bool.and_eq_true, decide_eq_true_eq, List.all_eq_true, List.mem_range, Bool.not_eq_true', beq_eq_false_iff_ne, beq_iff_eq]
  rw [cnt_set L hl16]
  constructor
  · rintro ⟨h4, hnd, hall⟩
    refine ⟨h4, fun i hi k hk => ⟨fun e => ?_, ?_⟩⟩
    · have hk' : k < L.length := by omega
      rw [List.getElem?_eq_getElem hi, List.getElem?_eq_getElem hk'] at e
      have e2 : L[i] = L[k] := by
        have e3 : ((L[i] : Nat) : Int) = ((L[k] : Nat) : Int) := by simpa using e
        omega
      have := (List.getElem_inj hnd).1 e2
      omega
    · have := (ringAt_iff h hlt hnd h4 hi).1 (hall i hi) k (by omega) (by omega)
      rw [ring_before hi h4, ring_after hi h4] at this
      rw [Bool.eq_iff_iff, this]
      simp only [nextR, Bool.or_eq_true, Bool.and_eq_true, decide_eq_true_eq]
      split <;> split <;> omega
  · rintro ⟨h4, hall⟩
    have hnd : L.Nodup := by
      rw [List.nodup_iff_pairwise_ne, List.pairwise_iff_getElem]
      intro k i hk hi hki e
      refine (hall i hi k hki).1 ?_
      rw [List.getElem?_eq_getElem hi, List.getElem?_eq_getElem hk, e]
    refine ⟨h4, hnd, fun i hi => (ringAt_iff h hlt hnd h4 hi).2 fun k hk hki => ?_⟩
    rw [ring_before hi h4, ring_after hi h4]
    rcases Nat.lt_or_ge k i with h1 | h1
    · have := (hall i hi k h1).2
      rw [← this]
      simp only [nextR, Bool.or_eq_true, Bool.and_eq_true, decide_eq_true_eq]
      split <;> split <;> omega
    · have := (hall k hk i (by omega)).2
      rw [nearB_comm, ← this]
      simp only [nextR, Bool.or_eq_true, Bool.and_eq_true, decide_eq_true_eq]
      split <;> split <;> omega

end Go.Proofs.Yteckeobhlfddlaa.Rib
