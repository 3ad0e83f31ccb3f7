/-
  Simple folds: what one of them does to a strip and its letters, and that a strip folds exactly if they leave one segment (lists and numbers alone).
-/
import Derived.Test.YtfgenpailmgkiaaMc
import Derived.Test.YtfgenpailmgkiaaMe
namespace Go.Proofs.Ytfgenpailmgkiaa

theorem btw_neg (x a b : Int) : Btw (-x) (-a) (-b) ↔ Btw x a b := by unfold Btw; omega
theorem NC.negP {n : Nat} {p A : Nat → Int} (h : NC n p A) : NC n (fun i => - p i) A :=
  ⟨fun k i hk hi hb => h.seg k i hk hi ((btw_neg _ _ _).1 hb), fun j k hj hk (e : - p (j + 1) = - p (k + 1)) => h.cr j k hj hk (by omega)⟩
theorem NC.negA {n : Nat} {p A : Nat → Int} (h : NC n p A) : NC n p (fun i => - A i) :=
  ⟨fun k i hk hi hb hc => h.seg k i hk hi hb ((btw_neg _ _ _).1 hc), fun j k hj hk e hm => by rw [btw_neg, btw_neg]; exact h.cr j k hj hk e hm⟩
theorem Inj.neg {n : Nat} {A : Nat → Int} (h : Inj n A) : Inj n (fun i => - A i) := fun i j hi hj (e : - A i = - A j) => h i j hi hj (by omega)
theorem NC.congr {n : Nat} {p q A : Nat → Int} (h : NC n p A) (e : ∀ i, i ≤ n → p i = q i) : NC n q A :=
  ⟨fun k i hk hi hb => h.seg k i hk hi (by rw [e _ (by omega), e _ (by omega), e _ (by omega)]; exact hb), fun j k hj hk hp hm => h.cr j k hj hk (by rw [e _ (by omega), e _ (by omega)]; exact hp) hm⟩
theorem Fd.congr {n : Nat} {p q : Nat → Int} {c d : Nat → Bool} (h : Fd n p c) (e : ∀ i, i ≤ n → p i = q i) (f : ∀ k, k + 1 < n → c k = d k) : Fd n q d := by
  obtain ⟨A, h1, h2, h3⟩ := h
  exact ⟨A, h1, h2.congr e, fun k hk => by rw [← f k hk]; exact h3 k hk⟩

theorem fd_crimp {n j : Nat} {p p' l : Nat → Int} {c : Nat → Bool} (hj : j < n) (hz : Zig (n + 2) p l) (hl : ∀ i, i < n + 2 → 0 < l i) (h1 : l (j + 1) ≤ l j) (h2 : l (j + 1) ≤ l (j + 2))
    (hp1 : ∀ i, i ≤ j → p' i = p i) (hp2 : ∀ i, j < i → i ≤ n → p' i = p (i + 2)) (hcj : c j ≠ c (j + 1)) : Fd (n + 2) p c ↔ Fd n p' (fun k => if k < j then c k else c (k + 2)) := by
  have z : ∀ i, i < n + 2 → (p (i + 1) = p i + l i ∧ i % 2 = 0) ∨ (p (i + 1) = p i - l i ∧ i % 2 = 1) := by
    intro i h
    have := hz i h
    split at this
    · exact .inl ⟨this, by assumption⟩
    · exact .inr ⟨this, by omega⟩
  have z0 := z j (by omega)
  have z1 : (p (j + 2) = p (j + 1) + l (j + 1) ∧ (j + 1) % 2 = 0) ∨ (p (j + 2) = p (j + 1) - l (j + 1) ∧ (j + 1) % 2 = 1) := z (j + 1) (by omega)
  have z2 : (p (j + 3) = p (j + 2) + l (j + 2) ∧ (j + 2) % 2 = 0) ∨ (p (j + 3) = p (j + 2) - l (j + 2) ∧ (j + 2) % 2 = 1) := z (j + 2) (by omega)
  have l1 := hl (j + 1) (by omega)
  constructor
  · rintro ⟨A, hi, hn, hp⟩
    have key : ∀ (q q' C : Nat → Int), (∀ i, i < n + 2 → (i % 2 = j % 2 → q i < q (i + 1)) ∧ (i % 2 ≠ j % 2 → q (i + 1) < q i)) → q j ≤ q (j + 2) → q (j + 1) ≤ q (j + 3) → (∀ i, i ≤ j → q' i = q i) → (∀ i, j < i → i ≤ n → q' i = q (i + 2)) →
        Inj (n + 2) C → NC (n + 2) q C → ((C j < C (j + 1) ∧ C (j + 1) < C (j + 2)) ∨ (C (j + 2) < C (j + 1) ∧ C (j + 1) < C j)) →
        ∃ (B : Nat → Int) (r : Nat → Nat), (∀ i, i < j → r i = i) ∧ (∀ i, j ≤ i → r i = i + 2) ∧ Inj n B ∧ NC n q' B ∧ ∀ k, k + 1 < n → (B k < B (k + 1) ↔ C (r k) < C (r k + 1)) := by
      intro q q' C g1 g2 g3 g4 g5 g6 g7 g8
      rcases g8 with ⟨g8, g9⟩ | ⟨g8, g9⟩
      · exact crimp_down hj g1 g2 g3 g4 g5 g6 g7 g8 g9
      · obtain ⟨B, r, b1, b2, b3, b4, b5⟩ := crimp_down (A := fun i => - C i) hj g1 g2 g3 g4 g5 g6.neg g7.negA (by show - C j < - C (j + 1); omega) (by show - C (j + 1) < - C (j + 2); omega)
        refine ⟨fun i => - B i, r, b1, b2, b3.neg, b4.negA, fun k hk => ?_⟩
        have q := b5 k hk
        have q' : B k < B (k + 1) ↔ - C (r k) < - C (r k + 1) := q
        have n1 := b3.ne (show k < n by omega) hk (by omega)
        have n2 : C (r k) ≠ C (r k + 1) := by
          refine g6.ne ?_ ?_ (by omega)
          · by_cases h : k < j
            · rw [b1 k h]; omega
            · rw [b2 k (by omega)]; omega
          · by_cases h : k < j
            · rw [b1 k h]; omega
            · rw [b2 k (by omega)]; omega
        show - B k < - B (k + 1) ↔ _
        omega
    have hmono : (A j < A (j + 1) ∧ A (j + 1) < A (j + 2)) ∨ (A (j + 2) < A (j + 1) ∧ A (j + 1) < A j) := by
      have q0 := hp j (by omega)
      have q1 : c (j + 1) = true ↔ ((j + 1) % 2 = 0 ↔ A (j + 1) < A (j + 2)) := hp (j + 1) (by omega)
      have n0 := hi.ne (show j < n + 2 by omega) (show j + 1 < n + 2 by omega) (by omega)
      have n1 := hi.ne (show j + 1 < n + 2 by omega) (show j + 2 < n + 2 by omega) (by omega)
      have e : c (j + 1) = true ↔ ¬ c j = true := by
        revert hcj
        cases c j <;> cases c (j + 1) <;> simp
      rw [e, q0] at q1
      clear q0 e z z0 z1 z2
      omega
    have fin : ∀ (B : Nat → Int) (r : Nat → Nat), (∀ i, i < j → r i = i) → (∀ i, j ≤ i → r i = i + 2) → Inj n B → NC n p' B → (∀ k, k + 1 < n → (B k < B (k + 1) ↔ A (r k) < A (r k + 1))) → Fd n p' (fun k => if k < j then c k else c (k + 2)) := by
      intro B r r1 r2 b1 b2 b3
      refine ⟨B, b1, b2, fun k hk => ?_⟩
      show (if k < j then c k else c (k + 2)) = true ↔ _
      rw [b3 k hk]
      by_cases h : k < j
      · rw [if_pos h, r1 k h]
        exact hp k (by omega)
      · rw [if_neg h, r2 k (by omega), hp (k + 2) (by omega), show (k + 2) % 2 = k % 2 by omega]
    by_cases hj2 : j % 2 = 0
    · obtain ⟨B, r, b1, b2, b3, b4, b5⟩ := key p p' A (fun i h => by have := z i h; have := hl i h; omega) (by omega) (by omega) hp1 hp2 hi hn hmono
      exact fin B r b1 b2 b3 b4 b5
    · obtain ⟨B, r, b1, b2, b3, b4, b5⟩ := key (fun i => - p i) (fun i => - p' i) A (fun i h => by have := z i h; have := hl i h; show (_ → - p i < - p (i + 1)) ∧ (_ → - p (i + 1) < - p i); omega) (by show - p j ≤ - p (j + 2); omega) (by show - p (j + 1) ≤ - p (j + 3); omega)
        (fun i h => by show - p' i = - p i; rw [hp1 i h]) (fun i h h' => by show - p' i = - p (i + 2); rw [hp2 i h h']) hi hn.negP hmono
      refine fin B r b1 b2 b3 ?_ b5
      have := b4.negP
      exact this.congr fun i _ => by show - - p' i = p' i; omega
  · intro h
    exact crimp_up hj (by omega) hp1 hp2 hcj h

theorem posAt_succ (zs : List Int) (k : Nat) : posAt zs (k + 1) = if k % 2 = 0 then posAt zs k + zs[k]?.getD 0 else posAt zs k - zs[k]?.getD 0 := rfl
theorem zig_pos (zs : List Int) (n : Nat) : Zig n (posAt zs) (fun i => zs[i]?.getD 0) := fun i _ => posAt_succ zs i
theorem posAt_drop (zs : List Int) : ∀ i, posAt (zs.drop 1) i = posAt zs 1 - posAt zs (i + 1)
  | 0 => by show (0 : Int) = posAt zs 1 - posAt zs 1; omega
  | i + 1 => by
    rw [posAt_succ, posAt_drop zs i, posAt_succ zs (i + 1), List.getElem?_drop, Nat.add_comm 1 i]
    by_cases h : i % 2 = 0
    · rw [if_pos h, if_neg (by omega)]; omega
    · rw [if_neg h, if_pos (by omega)]; omega
theorem posAt_same {zs ys : List Int} : ∀ m, (∀ i, i < m → zs[i]? = ys[i]?) → posAt zs m = posAt ys m
  | 0, _ => rfl
  | m + 1, h => by rw [posAt_succ, posAt_succ, posAt_same m (fun i hi => h i (by omega)), h m (by omega)]
theorem posAt_shift {zs ys : List Int} (a d : Nat) (hd : d % 2 = 0) (h0 : posAt zs a = posAt ys (a + d)) : ∀ m, (∀ i, a ≤ i → i < a + m → zs[i]?.getD 0 = ys[i + d]?.getD 0) → posAt zs (a + m) = posAt ys (a + m + d)
  | 0, _ => h0
  | m + 1, h => by
    rw [show a + (m + 1) = (a + m) + 1 by omega, show a + m + 1 + d = (a + m + d) + 1 by omega, posAt_succ, posAt_succ, posAt_shift a d hd h0 m (fun i h1 h2 => h i h1 (by omega)), h (a + m) (by omega) (by omega)]
    rw [show (a + m + d) % 2 = (a + m) % 2 by omega]

/-- Whether the segment behind segment j can be folded in between its neighbours. -/
def crimpC (zs : List Int) (cs : List UInt8) (j : Nat) : Bool := decide (zs[j + 1]?.getD 0 ≤ zs[j]?.getD 0) && decide (zs[j + 1]?.getD 0 ≤ zs[j + 1 + 1]?.getD 0) && (cs[j]?.getD 0 != cs[j + 1]?.getD 0)
/-- What is left when the segment behind segment j is folded in. -/
def foldIn (zs : List Int) (j : Nat) : List Int := zs.take j ++ (zs[j]?.getD 0 - zs[j + 1]?.getD 0 + zs[j + 1 + 1]?.getD 0) :: zs.drop (j + 3)
/-- The first simple fold. -/
def redZ (zs : List Int) (cs : List UInt8) : Option (List Int × List UInt8) :=
  if zs.length < 2 then none
  else if zs[0]?.getD 0 ≤ zs[1]?.getD 0 then some (zs.drop 1, cs.drop 1)
  else if zs[zs.length - 1]?.getD 0 ≤ zs[zs.length - 2]?.getD 0 then some (zs.take (zs.length - 1), cs.take (zs.length - 2))
  else ((List.range (zs.length - 2)).find? (crimpC zs cs)).map fun j => (foldIn zs j, cs.take j ++ cs.drop (j + 2))
def redAll : Nat → List Int → List UInt8 → List Int × List UInt8
  | 0, zs, cs => (zs, cs)
  | k + 1, zs, cs => match redZ zs cs with
    | none => (zs, cs)
    | some p => redAll k p.1 p.2
/-- What every strip and its letters keep: as many letters as creases, M and V, and lengths that are above 0 and at most m together. -/
structure Good (m : Int) (zs : List Int) (cs : List UInt8) : Prop where
  one : 1 ≤ zs.length
  len : cs.length + 1 = zs.length
  let_ : ∀ b ∈ cs, letB b = true
  pos : ∀ z ∈ zs, 1 ≤ z
  sum : zs.sum ≤ m

theorem sum_nonneg : ∀ (zs : List Int), (∀ z ∈ zs, 1 ≤ z) → 0 ≤ zs.sum
  | [], _ => by simp
  | a :: t, h => by
    have := sum_nonneg t fun z hz => h z (by simp [hz])
    have := h a (by simp)
    rw [List.sum_cons]; omega
theorem le_sum : ∀ (zs : List Int), (∀ z ∈ zs, 1 ≤ z) → ∀ z ∈ zs, z ≤ zs.sum
  | a :: t, h, z, hz => by
    have h1 := sum_nonneg t fun z hz => h z (by simp [hz])
    have h2 := h a (by simp)
    rw [List.sum_cons]
    rcases List.mem_cons.1 hz with e | hz
    · omega
    · have := le_sum t (fun z hz => h z (by simp [hz])) z hz; omega
theorem three_of (zs : List Int) (j : Nat) (h : j + 2 < zs.length) : ∃ a b c, zs = zs.take j ++ a :: b :: c :: zs.drop (j + 3) ∧ zs[j]? = some a ∧ zs[j + 1]? = some b ∧ zs[j + 1 + 1]? = some c := by
  refine ⟨zs[j], zs[j + 1], zs[j + 2], ?_, List.getElem?_eq_getElem (by omega), List.getElem?_eq_getElem (by omega), List.getElem?_eq_getElem (by omega)⟩
  have e1 := List.drop_eq_getElem_cons (show j < zs.length by omega)
  have e2 := List.drop_eq_getElem_cons (show j + 1 < zs.length by omega)
  have e3 := List.drop_eq_getElem_cons (show j + 2 < zs.length by omega)
  rw [← e3, ← e2, ← e1, List.take_append_drop]

theorem crimpC_parts {zs : List Int} {cs : List UInt8} {j : Nat} (h : crimpC zs cs j = true) : zs[j + 1]?.getD 0 ≤ zs[j]?.getD 0 ∧ zs[j + 1]?.getD 0 ≤ zs[j + 2]?.getD 0 ∧ cs[j]?.getD 0 ≠ cs[j + 1]?.getD 0 := by
  simp only [crimpC, Bool.and_eq_true, decide_eq_true_eq, bne_iff_ne] at h
  exact ⟨h.1.1, h.1.2, h.2⟩
theorem foldIn_get (zs : List Int) (j : Nat) (h : j + 2 < zs.length) : (foldIn zs j).length + 2 = zs.length ∧ (∀ i, i < j → (foldIn zs j)[i]? = zs[i]?) ∧ (foldIn zs j)[j]? = some (zs[j]?.getD 0 - zs[j + 1]?.getD 0 + zs[j + 2]?.getD 0) ∧ ∀ i, j < i → (foldIn zs j)[i]? = zs[i + 2]? := by
  have ht : (zs.take j).length = j := by simp; omega
  refine ⟨by simp [foldIn]; omega, fun i hi => ?_, ?_, fun i hi => ?_⟩
  · rw [foldIn, List.getElem?_append_left (by omega), List.getElem?_take, if_pos hi]
  · rw [foldIn, List.getElem?_append_right (by omega), ht, Nat.sub_self]; rfl
  · rw [foldIn, List.getElem?_append_right (by omega), ht]
    obtain ⟨d, rfl⟩ : ∃ d, i = j + 1 + d := ⟨i - j - 1, by omega⟩
    rw [show j + 1 + d - j = d + 1 by omega, List.getElem?_cons_succ, List.getElem?_drop]
    congr 1; omega

theorem redZ_good {m : Int} {zs : List Int} {cs : List UInt8} (h : Good m zs cs) {p : List Int × List UInt8} (he : redZ zs cs = some p) : Good m p.1 p.2 ∧ p.1.length < zs.length := by
  unfold redZ at he
  split at he
  · cases he
  · rename_i h2
    split at he
    · cases he
      obtain ⟨a, t, rfl⟩ : ∃ a t, zs = a :: t := List.exists_cons_of_length_pos (by omega)
      have hs := h.sum
      have ha := h.pos a (by simp)
      have hl := h.len
      rw [List.sum_cons] at hs
      simp at h2 hl
      refine ⟨⟨by simp; omega, by simp; omega, fun b hb => h.let_ b (List.mem_of_mem_drop hb), fun z hz => h.pos z (List.mem_of_mem_drop hz), by simp; omega⟩, by simp⟩
    · split at he
      · cases he
        have hl := h.len
        have hs := h.sum
        have e : zs.sum = (zs.take (zs.length - 1)).sum + (zs.drop (zs.length - 1)).sum := by rw [← List.sum_append, List.take_append_drop]
        have hd := sum_nonneg (zs.drop (zs.length - 1)) fun z hz => h.pos z (List.mem_of_mem_drop hz)
        exact ⟨⟨by simp; omega, by simp; omega, fun b hb => h.let_ b (List.mem_of_mem_take hb), fun z hz => h.pos z (List.mem_of_mem_take hz), by show (zs.take (zs.length - 1)).sum ≤ m; omega⟩, by simp; omega⟩
      · rw [Option.map_eq_some_iff] at he
        obtain ⟨j, hj, rfl⟩ := he
        have hjr := List.mem_of_find?_eq_some hj
        have hjc := crimpC_parts (List.find?_some hj)
        rw [List.mem_range] at hjr
        obtain ⟨a, b, c, e, ea, eb, ec⟩ := three_of zs j (by omega)
        rw [show j + 2 = j + 1 + 1 by omega, ea, eb, ec] at hjc
        simp only [Option.getD_some] at hjc
        have hl := h.len
        have hs := h.sum
        have hpos := h.pos
        have hab := hpos a (List.mem_of_getElem? ea)
        have hbb := hpos b (List.mem_of_getElem? eb)
        have hcb := hpos c (List.mem_of_getElem? ec)
        have es : zs.sum = (zs.take j).sum + (a + (b + (c + (zs.drop (j + 3)).sum))) := by
          have := congrArg List.sum e
          rw [List.sum_append, List.sum_cons, List.sum_cons, List.sum_cons] at this
          exact this
        have ef : foldIn zs j = zs.take j ++ (a - b + c) :: zs.drop (j + 3) := by rw [foldIn, ea, eb, ec]; rfl
        have fl := (foldIn_get zs j (by omega)).1
        refine ⟨⟨by show 1 ≤ (foldIn zs j).length; omega, by show (cs.take j ++ cs.drop (j + 2)).length + 1 = (foldIn zs j).length; simp; omega, fun x hx => ?_, fun z hz => ?_, ?_⟩, by show (foldIn zs j).length < _; omega⟩
        · rcases List.mem_append.1 hx with hx | hx
          · exact h.let_ x (List.mem_of_mem_take hx)
          · exact h.let_ x (List.mem_of_mem_drop hx)
        · have hz' : z ∈ foldIn zs j := hz
          rw [ef] at hz'
          rcases List.mem_append.1 hz' with hz | hz
          · exact hpos z (List.mem_of_mem_take hz)
          · rcases List.mem_cons.1 hz with hz | hz
            · omega
            · exact hpos z (List.mem_of_mem_drop hz)
        · show (foldIn zs j).sum ≤ m
          rw [ef, List.sum_append, List.sum_cons]
          omega

/-- Some layers fold a strip with letters. -/
def FdL (zs : List Int) (cs : List UInt8) : Prop := Fd zs.length (posAt zs) (fun k => cs[k]?.getD 0 == 86)

theorem let_or {b : UInt8} (h : letB b = true) : b = 77 ∨ b = 86 := by
  unfold letB at h
  simpa using h
theorem redZ_fd {m : Int} {zs : List Int} {cs : List UInt8} (h : Good m zs cs) : (∀ p, redZ zs cs = some p → (FdL zs cs ↔ FdL p.1 p.2)) ∧ (redZ zs cs = none → (FdL zs cs ↔ zs.length = 1)) := by
  have hl0 : ∀ i : Nat, i < zs.length → 0 < zs[i]?.getD 0 := fun i hi => by
    rw [List.getElem?_eq_getElem hi]
    have := h.pos _ (List.getElem_mem hi)
    show 0 < zs[i]; omega
  have hcl : ∀ k : Nat, k < cs.length → (cs[k]?.getD 0 = 77 ∨ cs[k]?.getD 0 = 86) := fun k hk => by
    rw [List.getElem?_eq_getElem hk]
    exact let_or (h.let_ _ (List.getElem_mem hk))
  have hlen := h.len
  unfold redZ
  by_cases h2 : zs.length < 2
  · rw [if_pos h2]
    refine ⟨fun p hp => (by cases hp), fun _ => ⟨fun _ => by have := h.one; omega, fun e => ?_⟩⟩
    unfold FdL
    rw [e]
    exact Fd.one _ _
  · rw [if_neg h2]
    obtain ⟨n, hn⟩ : ∃ n, zs.length = n + 2 := ⟨zs.length - 2, by omega⟩
    have zz := zig_pos zs (n + 2)
    by_cases hf : zs[0]?.getD 0 ≤ zs[1]?.getD 0
    · rw [if_pos hf]
      refine ⟨fun p hp => ?_, fun hp => (by cases hp)⟩
      cases hp
      show FdL zs cs ↔ FdL (zs.drop 1) (cs.drop 1)
      unfold FdL
      rw [List.length_drop, hn, show n + 2 - 1 = n + 1 by omega]
      have ec : ∀ k : Nat, ((cs.drop 1)[k]?.getD 0 == 86) = (cs[k + 1]?.getD 0 == 86) := fun k => by rw [List.getElem?_drop, Nat.add_comm 1 k]
      have a0 := hl0 0 (by omega)
      have a1 := hl0 1 (by omega)
      have e1 : posAt zs 1 = posAt zs 0 + zs[0]?.getD 0 := rfl
      have e2 : posAt zs 2 = posAt zs 1 - zs[1]?.getD 0 := rfl
      constructor
      · intro hd
        exact (fd_first_down (posAt (zs.drop 1)) (posAt zs 1) (fun i _ => posAt_drop zs i) hd).congr (fun _ _ => rfl) fun k _ => (ec k).symm
      · intro hd
        exact fd_first_up (posAt (zs.drop 1)) (posAt zs 1) (by omega) (fun i _ => posAt_drop zs i) (by omega) (hd.congr (fun _ _ => rfl) fun k _ => ec k)
    · rw [if_neg hf]
      by_cases hb : zs[zs.length - 1]?.getD 0 ≤ zs[zs.length - 2]?.getD 0
      · rw [if_pos hb]
        refine ⟨fun p hp => ?_, fun hp => (by cases hp)⟩
        cases hp
        show FdL zs cs ↔ FdL (zs.take (zs.length - 1)) (cs.take (zs.length - 2))
        unfold FdL
        rw [List.length_take, hn, show min (n + 2 - 1) (n + 2) = n + 1 by omega, show n + 2 - 1 = n + 1 by omega, show n + 2 - 2 = n by omega]
        rw [hn, show n + 2 - 1 = n + 1 by omega, show n + 2 - 2 = n by omega] at hb
        have ep : ∀ i, i ≤ n + 1 → posAt (zs.take (n + 1)) i = posAt zs i := fun i hi => posAt_same i fun k hk => by rw [List.getElem?_take, if_pos (by omega)]
        have ec : ∀ k : Nat, k < n → ((cs.take n)[k]?.getD 0 == 86) = (cs[k]?.getD 0 == 86) := fun k hk => by rw [List.getElem?_take, if_pos hk]
        have a0 := hl0 n (by omega)
        have a1 := hl0 (n + 1) (by omega)
        have e1 := posAt_succ zs n
        have e2 := posAt_succ zs (n + 1)
        constructor
        · intro hd
          exact (fd_last_down hd).congr (fun i hi => (ep i hi).symm) fun k hk => (ec k (by omega)).symm
        · intro hd
          refine fd_last_up ?_ (hd.congr ep fun k hk => ec k (by omega))
          by_cases hpar : n % 2 = 0
          · rw [if_pos hpar] at e1
            rw [if_neg (by omega)] at e2
            omega
          · rw [if_neg hpar] at e1
            rw [if_pos (by omega)] at e2
            omega
      · rw [if_neg hb]
        rw [hn, show n + 2 - 1 = n + 1 by omega, show n + 2 - 2 = n by omega] at hb
        rw [hn, show n + 2 - 2 = n by omega]
        refine ⟨fun p hp => ?_, fun hp => ?_⟩
        · rw [Option.map_eq_some_iff] at hp
          obtain ⟨j, hj, rfl⟩ := hp
          have hjr := List.mem_of_find?_eq_some hj
          have hjc := crimpC_parts (List.find?_some hj)
          rw [List.mem_range] at hjr
          obtain ⟨fl, f1, f2, f3⟩ := foldIn_get zs j (by omega)
          show FdL zs cs ↔ FdL (foldIn zs j) (cs.take j ++ cs.drop (j + 2))
          unfold FdL
          rw [hn, show (foldIn zs j).length = n by omega]
          have hct : (cs.take j).length = j := by simp; omega
          have ec : ∀ k : Nat, ((cs.take j ++ cs.drop (j + 2))[k]?.getD 0 == 86) = if k < j then (cs[k]?.getD 0 == 86) else (cs[k + 2]?.getD 0 == 86) := by
            intro k
            by_cases hk : k < j
            · rw [if_pos hk, List.getElem?_append_left (by omega), List.getElem?_take, if_pos hk]
            · rw [if_neg hk, List.getElem?_append_right (by omega), hct, List.getElem?_drop, show j + 2 + (k - j) = k + 2 by omega]
          have hp1 : ∀ i, i ≤ j → posAt (foldIn zs j) i = posAt zs i := fun i hi => posAt_same i fun k hk => f1 k (by omega)
          have hp0 : posAt (foldIn zs j) (j + 1) = posAt zs (j + 1 + 2) := by
            rw [posAt_succ, hp1 j (Nat.le_refl _), f2, Option.getD_some, posAt_succ zs (j + 2), posAt_succ zs (j + 1), posAt_succ zs j]
            by_cases hpar : j % 2 = 0
            · rw [if_pos hpar, if_pos (by omega), if_neg (by omega), if_pos hpar]; omega
            · rw [if_neg hpar, if_neg (by omega), if_pos (by omega), if_neg hpar]; omega
          have hp2 : ∀ i, j < i → i ≤ n → posAt (foldIn zs j) i = posAt zs (i + 2) := by
            intro i h1 _
            obtain ⟨d, rfl⟩ : ∃ d, i = j + 1 + d := ⟨i - (j + 1), by omega⟩
            exact posAt_shift (j + 1) 2 rfl hp0 d fun k h1 _ => by rw [f3 k (by omega)]
          have hne : (cs[j]?.getD 0 == 86) ≠ (cs[j + 1]?.getD 0 == 86) := by
            have g1 := hcl j (by omega)
            have g2 := hcl (j + 1) (by omega)
            have g3 := hjc.2.2
            rcases g1 with g1 | g1 <;> rcases g2 with g2 | g2 <;> rw [g1, g2] at g3 ⊢
            · exact absurd rfl g3
            · decide
            · decide
            · exact absurd rfl g3
          have := fd_crimp (c := fun k => cs[k]?.getD 0 == 86) (by omega) zz (fun i hi => hl0 i (by omega)) hjc.1 hjc.2.1 hp1 hp2 hne
          rw [this]
          constructor
          · intro hd
            exact hd.congr (fun _ _ => rfl) fun k _ => (ec k).symm
          · intro hd
            exact hd.congr (fun _ _ => rfl) fun k _ => ec k
        · rw [Option.map_eq_none_iff, List.find?_eq_none] at hp
          refine ⟨fun hd => ?_, fun e => by omega⟩
          exfalso
          unfold FdL at hd
          rw [hn] at hd
          refine not_fd zz (fun i hi => hl0 i (by omega)) (by omega) (by omega) (by show zs[n + 2 - 2]?.getD 0 < zs[n + 2 - 1]?.getD 0; rw [show n + 2 - 1 = n + 1 by omega, show n + 2 - 2 = n by omega]; omega) (fun i hi h1 h2 => ?_) hd
          have := hp i (List.mem_range.2 (by omega))
          refine Classical.byContradiction fun hne => this ?_
          simp only [crimpC, Bool.and_eq_true, decide_eq_true_eq, bne_iff_ne]
          exact ⟨⟨h1, h2⟩, fun e => hne (by show (cs[i]?.getD 0 == 86) = (cs[i + 1]?.getD 0 == 86); rw [e])⟩

/-- F1: a strip folds with its letters exactly if the simple folds leave one segment. -/
theorem redAll_fd {m : Int} : ∀ (k : Nat) (zs : List Int) (cs : List UInt8), Good m zs cs → zs.length ≤ k + 1 → (FdL zs cs ↔ (redAll k zs cs).1.length = 1) ∧ Good m (redAll k zs cs).1 (redAll k zs cs).2
  | 0, zs, cs, h, hk => by
    have h1 := h.one
    refine ⟨⟨fun _ => by show zs.length = 1; omega, fun _ => ?_⟩, h⟩
    unfold FdL
    rw [show zs.length = 1 by omega]
    exact Fd.one _ _
  | k + 1, zs, cs, h, hk => by
    obtain ⟨r1, r2⟩ := redZ_fd h
    rw [redAll]
    cases e : redZ zs cs with
    | none => exact ⟨r2 e, h⟩
    | some p =>
      obtain ⟨g1, g2⟩ := redZ_good h e
      obtain ⟨i1, i2⟩ := redAll_fd k p.1 p.2 g1 (by omega)
      exact ⟨(r1 p e).trans i1, i2⟩

end Go.Proofs.Ytfgenpailmgkiaa
