/-
  strap: the program's normal form of a word, in lists of numbers, is the form at rest.
-/
import Derived.Test.YtbcggbmjbljnfaaBl
import Derived.Test.YtbcggbmjbljnfaaEa
namespace Go.Proofs.Ytbcggbmjbljnfaa
open Gar (Pm Sup Sups Mvs Stl Pair can arr cr tw mul one half Nf Eqv Cln whole)

theorem arr_get0 {n : Nat} {p : Pm} {x : Nat} (h : x < n) : (arr n p)[x]?.getD 0 = p.f x := by rw [Gar.arr_get h, Option.getD_some]
theorem arr_in {n : Nat} {p : Pm} (h : Sup n p) : InN n (arr n p) := ⟨Gar.arr_len n p, fun x hx => by
  obtain ⟨y, hy, rfl⟩ := List.mem_map.1 hx
  exact h.lt (List.mem_range.1 hy)⟩
theorem arr_one (n : Nat) : arr n one = idN n := List.map_id _
theorem arr_tw {n i : Nat} (h : i + 1 < n) : arr n (tw i) = exchN n (i + 1) := by
  refine List.ext_getElem? fun j => ?_
  unfold exchN
  rw [List.getElem?_set, List.getElem?_set, Nat.add_sub_cancel]
  simp only [List.length_set, List.length_range]
  by_cases hj : j < n
  · rw [Gar.arr_get hj, List.getElem?_range hj]
    simp only [tw, Gar.sw]
    by_cases h1 : i + 1 = j
    · subst h1; simp [h]
    · rw [if_neg h1]
      by_cases h2 : i = j
      · subst h2; simp [hj]
      · rw [if_neg h2, if_neg (by omega), if_neg (by omega)]
  · rw [if_neg (by omega), if_neg (by omega), List.getElem?_eq_none (by rw [Gar.arr_len]; omega), List.getElem?_eq_none (by simp; omega)]
theorem arr_mul {n : Nat} {p q : Pm} (hp : Sup n p) : thenN (arr n p) (arr n q) = arr n (mul p q) := by
  unfold thenN
  show (List.map p.f (List.range n)).map _ = _
  rw [List.map_map]
  exact List.map_congr_left fun x hx => arr_get0 (hp.lt (List.mem_range.1 hx))
theorem arr_half (n : Nat) : arr n (half n) = halfN n := by
  refine List.ext_getElem? fun j => ?_
  unfold halfN idN
  by_cases hj : j < n
  · rw [Gar.arr_get hj, List.getElem?_reverse (by simpa using hj), List.getElem?_range (by simp; omega)]
    simp only [half, Gar.hf, List.length_range]
    rw [if_pos hj]
  · rw [List.getElem?_eq_none (by rw [Gar.arr_len]; omega), List.getElem?_eq_none (by simp; omega)]
theorem arr_flip {n : Nat} {p : Pm} (hp : Sup n p) : flipN n (arr n p) = arr n (Gar.flip n p) := by
  unfold flipN
  rw [← arr_half, arr_mul (Sup.half n), arr_mul ((Sup.half n).mul hp)]
  rfl
theorem arr_inj {n : Nat} {p q : Pm} (hp : Sup n p) (hq : Sup n q) (h : arr n p = arr n q) : p = q := Pm.ext fun x => by
  by_cases hx : x < n
  · rw [← arr_get0 (p := p) hx, ← arr_get0 (p := q) hx, h]
  · rw [hp x (by omega), hq x (by omega)]
theorem arr_inv {n : Nat} {p : Pm} (hp : Sup n p) : ∀ k, k ≤ n → ∀ x, x < n → (invTo (arr n p) k)[x]?.getD 0 = if p.g x < k then p.g x else 0
  | 0, _, x, hx => by simp [invTo, Gar.arr_len, hx]
  | k + 1, hk, x, hx => by
    have ih := arr_inv hp k (by omega) x hx
    rw [invTo_succ, invStep, arr_get0 (by omega), List.getElem?_set, invTo_len, Gar.arr_len]
    by_cases h : p.f k = x
    · subst h
      rw [if_pos rfl, if_pos hx, p.gf, if_pos (by omega)]; rfl
    · rw [if_neg h, ih]
      have : p.g x ≠ k := fun e => h (by rw [← e, p.fg])
      by_cases h2 : p.g x < k
      · rw [if_pos h2, if_pos (by omega)]
      · rw [if_neg h2, if_neg (by omega)]
theorem movAt_can {n i : Nat} {s t : Pm} (hs : Sup n s) (hi : i + 1 < n) : movAt (invTo (arr n s) n) (arr n t) i = true ↔ can s t i := by
  unfold movAt can
  rw [arr_get0 hi, arr_get0 (by omega), arr_inv hs n (Nat.le_refl _) i (by omega), arr_inv hs n (Nat.le_refl _) (i + 1) hi, if_pos (hs.glt (by omega)), if_pos (hs.glt hi)]
  simp
theorem movN_some {n i : Nat} {s t : Pm} (hs : Sup n s) (h : movN n (arr n s) (arr n t) = some i) : can s t i ∧ i + 1 < n := by
  have h1 := movN_lt h
  have h2 := List.find?_some h
  exact ⟨(movAt_can hs h1).1 h2, h1⟩
theorem movN_pair {n : Nat} {s t : Pm} (hs : Sup n s) (ht : Sup n t) (h : movN n (arr n s) (arr n t) = none) : Pair s t := fun i hi => by
  have h1 := Gar.can_lt ht hi
  have h2 := List.find?_eq_none.1 h i (List.mem_range.2 (by omega))
  exact h2 ((movAt_can hs h1).2 hi)
theorem cr_le : ∀ l : List Nat, cr l ≤ l.length * l.length
  | [] => Nat.le_refl _
  | x :: l => by
    have := cr_le l
    have := List.countP_le_length (p := fun y => decide (y < x)) (l := l)
    simp only [cr, List.length_cons, Nat.add_mul, Nat.mul_add]
    omega
theorem setN_ok {n : Nat} : ∀ (f : Nat) (s t : Pm), Sup n s → Sup n t → cr (arr n t) < f → ∃ s' t', setN n f (arr n s) (arr n t) = some (arr n s', arr n t') ∧ Mvs [s, t] [s', t'] ∧ Pair s' t'
  | 0, _, _, _, _, h => by omega
  | f + 1, s, t, hs, ht, hf => by
    unfold setN
    cases hm : movN n (arr n s) (arr n t) with
    | none => exact ⟨s, t, rfl, .refl, movN_pair hs ht hm⟩
    | some i =>
      obtain ⟨hc, hi⟩ := movN_some hs hm
      have htw := Sup.tw hi
      have := Gar.cr_left hi hc.1
      obtain ⟨s', t', h1, h2, h3⟩ := setN_ok f (mul s (tw i)) (mul (tw i) t) (hs.mul htw) (htw.mul ht) (by omega)
      refine ⟨s', t', ?_, .step (.here hc) h2, h3⟩
      simp only []
      rw [← arr_tw hi, arr_mul hs, arr_mul htw]
      exact h1
theorem passN_cons {f n : Nat} {x : List Nat} : ∀ (k : Nat) (ps : List (List Nat)), k < ps.length → passN f n (k + 1) (x :: ps) = match passN f n k ps with
    | none => none
    | some qs => match setN n f x (qs[0]?.getD []) with
      | none => none
      | some r => some (r.1 :: qs.set 0 r.2)
  | 0, ps, _ => by
    unfold passN
    simp only [passN, List.getElem?_cons_zero, Option.getD_some, Nat.zero_add, List.getElem?_cons_succ, List.set_cons_zero, List.set_cons_succ]
    rfl
  | k + 1, ps, hk => by
    have e1 : (x :: ps)[k + 1]?.getD [] = ps[k]?.getD [] := by simp
    have e2 : (x :: ps)[k + 1 + 1]?.getD [] = ps[k + 1]?.getD [] := by simp
    have l : passN f n (k + 1 + 1) (x :: ps) = match setN n f (ps[k]?.getD []) (ps[k + 1]?.getD []) with
      | none => none
      | some r => passN f n (k + 1) (x :: (ps.set k r.1).set (k + 1) r.2) := by
      rw [passN, e1, e2]
      rfl
    have r : passN f n (k + 1) ps = match setN n f (ps[k]?.getD []) (ps[k + 1]?.getD []) with
      | none => none
      | some r => passN f n k ((ps.set k r.1).set (k + 1) r.2) := by
      rw [passN]
      rfl
    rw [l, r]
    cases setN n f (ps[k]?.getD []) (ps[k + 1]?.getD []) with
    | none => rfl
    | some r => exact passN_cons k _ (by simp; omega)
theorem passN_ok {f n : Nat} (hf : n * n < f) : ∀ (s : Pm) (L : List Pm), Sups n (s :: L) → ∃ R, passN f n L.length ((s :: L).map (arr n)) = some (R.map (arr n)) ∧ Gar.Pass (s :: L) R ∧ Sups n R
  | s, [], hs => ⟨[s], rfl, .one s, hs⟩
  | x, s :: L, hs => by
    obtain ⟨h1, h2⟩ := Gar.Sups.cons.1 hs
    obtain ⟨R, e, hp, hR⟩ := passN_ok hf s L h2
    cases R with
    | nil => cases hp
    | cons y R =>
      obtain ⟨hy, hR⟩ := Gar.Sups.cons.1 hR
      have hb : cr (arr n y) < f := Nat.lt_of_le_of_lt (by have := cr_le (arr n y); rwa [Gar.arr_len] at this) hf
      obtain ⟨x', y', h3, h4, h5⟩ := setN_ok f x y h1 hy hb
      have hS := h4.sups (Gar.Sups.cons.2 ⟨h1, Gar.Sups.cons.2 ⟨hy, fun _ h => by cases h⟩⟩)
      refine ⟨x' :: y' :: R, ?_, .more hp h4 h5, Gar.Sups.cons.2 ⟨(Gar.Sups.cons.1 hS).1, Gar.Sups.cons.2 ⟨(Gar.Sups.cons.1 (Gar.Sups.cons.1 hS).2).1, hR⟩⟩⟩
      rw [List.map_cons, List.length_cons, passN_cons _ _ (by simp), e]
      simp only [List.map_cons, List.getElem?_cons_zero, Option.getD_some, h3, List.set_cons_zero]
theorem headN_ok {n : Nat} (hn : 2 ≤ n) {M : List Pm} {j : Nat} (hs : Sups n M) (hc : Cln n M) : ∀ k, headN n ((whole n k M j).map (arr n)) = (k, (M ++ List.replicate j one).map (arr n))
  | 0 => by
    simp only [whole, List.replicate_zero, List.nil_append]
    cases M with
    | nil =>
      cases j with
      | zero => rfl
      | succ j =>
        simp only [List.nil_append, List.replicate_succ, List.map_cons, headN]
        rw [if_neg]
        rw [← arr_half]
        exact fun e => Gar.half_ne hn (arr_inj (Sup.one n) (Sup.half n) e).symm
    | cons m M =>
      simp only [List.cons_append, List.map_cons, headN]
      rw [if_neg]
      rw [← arr_half]
      exact fun e => (hc m (List.mem_cons_self ..)).1 (arr_inj (hs m (List.mem_cons_self ..)) (Sup.half n) e)
  | k + 1 => by
    have e : whole n (k + 1) M j = half n :: whole n k M j := by simp [whole, List.replicate_succ]
    rw [e, List.map_cons, headN, if_pos (arr_half n), headN_ok hn hs hc k]
theorem tailN_ok {n : Nat} {M : List Pm} (hs : Sups n M) (hc : Cln n M) : ∀ j, tailN n (M.length + j) ((M ++ List.replicate j one).map (arr n)) = M.map (arr n)
  | 0 => by
    simp only [List.replicate_zero, List.append_nil, Nat.add_zero]
    rcases List.eq_nil_or_concat M with rfl | ⟨A, m, rfl⟩
    · rfl
    · have e : (A ++ [m]).length = A.length + 1 := by simp
      rw [List.concat_eq_append, e, tailN, if_neg]
      have e2 : ((A ++ [m]).map (arr n))[A.length]?.getD [] = arr n m := by simp
      rw [List.concat_eq_append] at hs hc
      rw [e2, ← arr_one]
      exact fun h => (hc m (by simp)).2 (arr_inj (hs m (by simp)) (Sup.one n) h)
  | j + 1 => by
    have e : M ++ List.replicate (j + 1) one = (M ++ List.replicate j one) ++ [one] := by rw [List.replicate_succ', List.append_assoc]
    rw [e, ← Nat.add_assoc, tailN, if_pos, List.map_append, List.take_left' (by simp)]
    · exact tailN_ok hs hc j
    · rw [List.map_append, List.getElem?_append_right (by simp)]
      simp [arr_one]
def mapR (n : Nat) (r : Int × List Pm) : Int × List (List Nat) := (r.1, r.2.map (arr n))
theorem folN_ok {f n : Nat} (hf : n * n < f) (hn : 2 ≤ n) {pw : Int} {A : List Pm} {s : Pm} (hA : Sups n A) (hst : Stl A) (hs : Sup n s) : ∃ r, folN f n (pw, A.map (arr n)) (arr n s) = some (mapR n r) ∧ Nf n (pw, A ++ [s]) r := by
  have hS : Sups n (A ++ [s]) := Gar.sups_one.2 ⟨hA, hs⟩
  have key : ∃ R, passN f n A.length ((A ++ [s]).map (arr n)) = some (R.map (arr n)) ∧ Gar.Pass (A ++ [s]) R ∧ Sups n R := by
    cases A with
    | nil => exact passN_ok hf s [] hS
    | cons a A =>
      have := passN_ok hf a (A ++ [s]) hS
      rw [List.length_append] at this
      exact this
  obtain ⟨R, e, hp, hR⟩ := key
  have hst' := hp.stl rfl hst
  obtain ⟨k, M, j, rfl, hc⟩ := Gar.whole_exists hR hst'
  have hM : Sups n M := fun p hp => hR p (by simp [whole, hp])
  refine ⟨(pw + (k : Int), M), ?_, hS, k, j, hp.mvs, hst', hc, rfl⟩
  unfold folN
  simp only [List.length_map]
  have e2 : A.map (arr n) ++ [arr n s] = (A ++ [s]).map (arr n) := by simp
  rw [e2, e]
  simp only [headN_ok hn hM hc]
  have e3 : ((M ++ List.replicate j one).map (arr n)).length = M.length + j := by simp
  rw [e3, tailN_ok hM hc]
  rfl

theorem stl_left {A B : List Pm} (h : Stl (A ++ B)) : Stl A := fun C hc => h _ (hc.append B)
theorem stl_right {A B : List Pm} (h : Stl (A ++ B)) : Stl B := by
  induction A with
  | nil => exact h
  | cons a A ih => exact ih h.tail
theorem nf_mid {n : Nat} {a r : Int × List Pm} (h : Nf n a r) : Stl r.2 ∧ Sups n r.2 := by
  obtain ⟨hs, k, j, h1, h2, _⟩ := h
  have := h1.sups hs
  exact ⟨stl_left (stl_right h2), fun p hp => this p (by simp [whole, hp])⟩
theorem nf_eqv {n : Nat} {a r : Int × List Pm} (h : Nf n a r) : Eqv n a r := by
  obtain ⟨hs, k, j, h1, h2, _, h4⟩ := h
  obtain ⟨P, L⟩ := a
  obtain ⟨pw, M⟩ := r
  simp only at h1 h4
  refine .trans (.mv hs h1) ?_
  have e1 : ∀ j X, Eqv n (P, X ++ List.replicate j one) (P, X) := by
    intro j
    induction j with
    | zero => intro X; simp only [List.replicate_zero, List.append_nil]; exact .refl _
    | succ j ih =>
      intro X
      rw [List.replicate_succ', ← List.append_assoc]
      exact .trans (.snoc _ _) (ih X)
  have e2 : ∀ (k : Nat) (P : Int), Eqv n (P, List.replicate k (half n) ++ M) (P + (k : Int), M) := by
    intro k
    induction k with
    | zero => intro P; simp only [List.replicate_zero, List.nil_append, Int.natCast_zero, Int.add_zero]; exact .refl _
    | succ k ih =>
      intro P
      rw [List.replicate_succ, List.cons_append]
      have := ih (P + 1)
      rw [show P + 1 + (k : Int) = P + ((k + 1 : Nat) : Int) by omega] at this
      exact .trans (.half _ _) this
  rw [h4]
  refine .trans ?_ (e2 k P)
  unfold whole
  rw [← List.append_assoc]
  exact e1 j _
theorem flips_odd {n : Nat} {M : List Pm} (h : Sups n M) : flips n true (M.map (arr n)) = (Gar.flipL n M).map (arr n) := by
  unfold flips Gar.flipL
  rw [List.map_map, List.map_map]
  exact List.map_congr_left fun p hp => by simpa using arr_flip (h p hp)
theorem flips_even {n : Nat} {ps : List (List Nat)} : flips n false ps = ps := by
  unfold flips
  exact (List.map_congr_left fun p _ => by simp).trans (List.map_id ps)
/-- Of two strands there is nothing between nothing and a half twist. -/
theorem two_clean {M : List Pm} (hs : Sups 2 M) (hc : Cln 2 M) : M = [] := by
  cases M with
  | nil => rfl
  | cons p M =>
    exfalso
    have h := hs p (List.mem_cons_self ..)
    have hp := hc p (List.mem_cons_self ..)
    have h0 := h.lt (x := 0) (by omega)
    have h1 := h.lt (x := 1) (by omega)
    have hne : p.f 0 ≠ p.f 1 := fun e => by have := p.inj e; omega
    rcases Nat.lt_or_ge (p.f 0) (p.f 1) with hl | hl
    · refine hp.2 (Pm.ext fun x => ?_)
      show p.f x = x
      rcases x with _ | _ | x
      · omega
      · show p.f 1 = 1; omega
      · exact h _ (by omega)
    · refine hp.1 (Pm.ext fun x => ?_)
      show p.f x = Gar.hf 2 x
      rcases x with _ | _ | x
      · show p.f 0 = 1; omega
      · show p.f 1 = 0; omega
      · rw [h _ (by omega)]; simp [Gar.hf]
theorem letters_ne {n i : Nat} (hn : 3 ≤ n) : tw i ≠ half n ∧ tw i ≠ one ∧ mul (half n) (tw i) ≠ half n ∧ mul (half n) (tw i) ≠ one := by
  have h2 : tw i ≠ one := fun e => by
    have := congrArg (fun z => z.f i) e
    simp only [tw, one, id, Gar.sw_l] at this
    omega
  have h1 : tw i ≠ half n := fun e => by
    have := congrArg (fun z => z.f 0) e
    simp only [tw, half, Gar.hf, Gar.sw] at this
    rw [if_pos (by omega : 0 < n)] at this
    split at this <;> (try split at this) <;> omega
  refine ⟨h1, h2, fun e => h2 ?_, fun e => h1 ?_⟩
  · have := congrArg (fun z => mul (half n) z) e
    rw [← Gar.mul_assoc, Gar.half_half, Gar.one_mul] at this
    exact this
  · have := congrArg (fun z => mul (half n) z) e
    rw [← Gar.mul_assoc, Gar.half_half, Gar.one_mul, Gar.mul_one] at this
    exact this
theorem nf_self {n : Nat} {pw : Int} {M : List Pm} (hs : Sups n M) (h : Stl M) (hc : Cln n M) : Nf n (pw, M) (pw, M) := ⟨hs, 0, 0, by simp [whole]; exact .refl, by simpa [whole] using h, hc, by simp⟩
theorem clean_one {n : Nat} {s : Pm} (h1 : s ≠ half n) (h2 : s ≠ one) : Cln n [s] := fun p hp => by rw [List.mem_singleton.1 hp]; exact ⟨h1, h2⟩
theorem sups_s {n : Nat} {s : Pm} (h : Sup n s) : Sups n [s] := fun p hp => by rw [List.mem_singleton.1 hp]; exact h

/-- One letter more: the program's product is the form of one letter more. -/
theorem letter_step {f n : Nat} (hf : n * n < f) (hn : 2 ≤ n) {a r : Int × List Pm} {z : Int} (hz : Gar.Let n z) (h : Nf n a r) : ∃ l r', letN f n z = some l ∧ prodN f n (mapR n r) l = some (mapR n r') ∧ Nf n (Gar.step n a z) r' := by
  obtain ⟨hst, hM⟩ := nf_mid h
  have hE := (Eqv.step' (nf_eqv h) hz).2 h.1
  have key : ∀ r', Nf n (Gar.step n r z) r' → Nf n (Gar.step n a z) r' := fun r' h' => (hE.nf hn r').2 h'
  obtain ⟨z0, z1, z2⟩ := hz
  obtain ⟨i, hi⟩ : ∃ i, z.natAbs = i + 1 := ⟨z.natAbs - 1, by omega⟩
  have hin : i + 1 < n := by omega
  have htw := Sup.tw hin
  have hhw := (Sup.half n).mul htw
  obtain ⟨pw, M⟩ := r
  have hC : Cln n M := by obtain ⟨_, _, _, _, _, h3, _⟩ := h; exact h3
  simp only at hst hM
  by_cases hp : 0 < z
  · have es : Gar.step n (pw, M) z = (pw, M ++ [tw i]) := by
      have e : z = (i : Int) + 1 := by omega
      rw [e, Gar.step_pos]
    rw [es] at key
    have el : letN f n z = folN f n (0, [].map (arr n)) (arr n (tw i)) := by
      unfold letN
      rw [if_pos hp, hi, arr_tw hin]
      rfl
    obtain ⟨q, hq, hqn⟩ := folN_ok (f := f) hf hn (pw := 0) (A := []) (s := tw i) (fun _ h => by cases h) Gar.stl_nil htw
    rw [List.nil_append] at hqn
    by_cases h3 : 3 ≤ n
    · obtain ⟨n1, n2, _⟩ := letters_ne (i := i) h3
      have : q = (0, [tw i]) := hqn.one hn (nf_self (sups_s htw) (Gar.stl_one _) (clean_one n1 n2))
      subst this
      obtain ⟨r', h4, h5⟩ := folN_ok (f := f) hf hn (pw := pw) (A := M) (s := tw i) hM hst htw
      refine ⟨_, r', by rw [el, hq], ?_, key _ h5⟩
      show prodTo f n (pw + 0, flips n ((0 : Int).tmod 2 != 0) (M.map (arr n))) [arr n (tw i)] = _
      rw [show ((0 : Int).tmod 2 != 0) = false from rfl, flips_even, Int.add_zero, prodTo, h4]
      rfl
    · obtain rfl : n = 2 := by omega
      obtain rfl : i = 0 := by omega
      obtain rfl := two_clean hM hC
      have e1 : tw 0 = half 2 := Pm.ext fun x => by
        simp only [tw, half, Gar.hf, Gar.sw]; (repeat' split) <;> omega
      rw [e1] at hqn key
      have : q = (1, []) := hqn.one hn ((Nf.half hn).2 (by simpa using nf_self (n := 2) (pw := 0 + 1) (M := []) (fun _ h => by cases h) Gar.stl_nil (fun _ h => by cases h)))
      subst this
      refine ⟨_, (pw + 1, []), by rw [el, hq], ?_, key _ ((Nf.half hn).2 (nf_self (fun _ h => by cases h) Gar.stl_nil (fun _ h => by cases h)))⟩
      rfl
  · have es : Gar.step n (pw, M) z = (pw - 1, Gar.flipL n M ++ [mul (half n) (tw i)]) := by
      have e : z = -((i : Int) + 1) := by omega
      rw [e, Gar.step_neg]
    rw [es] at key
    have el : letN f n z = folN f n (-1, [].map (arr n)) (arr n (mul (half n) (tw i))) := by
      unfold letN
      rw [if_neg hp, hi, ← arr_mul (Sup.half n), arr_tw hin, arr_half]
      rfl
    obtain ⟨q, hq, hqn⟩ := folN_ok (f := f) hf hn (pw := -1) (A := []) (s := mul (half n) (tw i)) (fun _ h => by cases h) Gar.stl_nil hhw
    rw [List.nil_append] at hqn
    by_cases h3 : 3 ≤ n
    · obtain ⟨_, _, n1, n2⟩ := letters_ne (i := i) h3
      have : q = (-1, [mul (half n) (tw i)]) := hqn.one hn (nf_self (sups_s hhw) (Gar.stl_one _) (clean_one n1 n2))
      subst this
      obtain ⟨r', h4, h5⟩ := folN_ok (f := f) hf hn (pw := pw - 1) (A := Gar.flipL n M) (s := mul (half n) (tw i)) hM.flip (hst.flip hM) hhw
      refine ⟨_, r', by rw [el, hq], ?_, key _ h5⟩
      show prodTo f n (pw + -1, flips n ((-1 : Int).tmod 2 != 0) (M.map (arr n))) [arr n (mul (half n) (tw i))] = _
      rw [show ((-1 : Int).tmod 2 != 0) = true from rfl, flips_odd hM, ← Int.sub_eq_add_neg, prodTo, h4]
      rfl
    · obtain rfl : n = 2 := by omega
      obtain rfl : i = 0 := by omega
      obtain rfl := two_clean hM hC
      have e1 : mul (half 2) (tw 0) = one := Pm.ext fun x => by
        simp only [mul, one, tw, half, Gar.hf, Gar.sw, id]; (repeat' split) <;> omega
      rw [e1] at hqn key
      have hnil : ∀ pw : Int, Nf 2 (pw, [one]) (pw, []) := fun pw => (Nf.snoc (L := []) hn).2 (nf_self (fun _ h => by cases h) Gar.stl_nil (fun _ h => by cases h))
      have : q = (-1, []) := hqn.one hn (hnil _)
      subst this
      refine ⟨_, (pw - 1, []), by rw [el, hq], ?_, key _ (hnil _)⟩
      rfl
theorem normTo_ok {f n : Nat} (hf : n * n < f) (hn : 2 ≤ n) : ∀ {ws : List Int} {a r : Int × List Pm}, (∀ z ∈ ws, Gar.Let n z) → Nf n a r → ∃ r', normTo f n (mapR n r) ws = some (mapR n r') ∧ Nf n (Gar.word n a ws) r'
  | [], _, r, _, h => ⟨r, rfl, h⟩
  | z :: ws, a, r, hw, h => by
    obtain ⟨l, r', h1, h2, h3⟩ := letter_step hf hn (hw z (List.mem_cons_self ..)) h
    obtain ⟨r2, h4, h5⟩ := normTo_ok (ws := ws) hf hn (fun y hy => hw y (List.mem_cons_of_mem _ hy)) h3
    refine ⟨r2, ?_, h5⟩
    unfold normTo
    rw [h1]
    simp only [h2]
    exact h4
theorem nf_nil (n : Nat) : Nf n (0, []) (0, []) := nf_self (fun _ h => by cases h) Gar.stl_nil (fun _ h => by cases h)
/-- The normal form of a word. -/
theorem normal_word {f n : Nat} (hf : n * n < f) (hn : 2 ≤ n) {ws : List Int} (hw : ∀ z ∈ ws, Gar.Let n z) : ∃ r, normTo f n (0, []) ws = some (mapR n r) ∧ Nf n (Gar.word n (0, []) ws) r := normTo_ok hf hn hw (nf_nil n)

/-! ### Words that are equal as braids -/
open Gar (Wq Let)
theorem wq_cancel {n : Nat} {z : Int} (hz : Let n z) : Wq n [z, -z] [] := by
  obtain ⟨h0, h1, h2⟩ := hz
  by_cases hp : 0 < z
  · obtain ⟨i, rfl⟩ : ∃ i : Nat, z = (i : Int) + 1 := ⟨(z - 1).toNat, by omega⟩
    exact Gar.wq_pos (by omega)
  · obtain ⟨i, rfl⟩ : ∃ i : Nat, z = -((i : Int) + 1) := ⟨(-z - 1).toNat, by omega⟩
    have := Gar.wq_neg (n := n) (i := i) (by omega)
    rwa [Int.neg_neg]
def invW (u : List Int) : List Int := (u.map fun z => -z).reverse
theorem let_neg {n : Nat} {z : Int} (h : Let n z) : Let n (-z) := ⟨by have := h.1; omega, by have := h.2.2; omega, by have := h.2.1; omega⟩
theorem invW_let {n : Nat} {u : List Int} (h : ∀ z ∈ u, Let n z) : ∀ z ∈ invW u, Let n z := fun z hz => by
  obtain ⟨y, hy, rfl⟩ := List.mem_map.1 (List.mem_reverse.1 hz)
  exact let_neg (h y hy)
theorem invW_invW (u : List Int) : invW (invW u) = u := by
  unfold invW
  rw [List.map_reverse, List.reverse_reverse, List.map_map]
  exact (List.map_congr_left fun z _ => by simp).trans (List.map_id u)
theorem wq_right {n : Nat} : ∀ {u : List Int}, (∀ z ∈ u, Let n z) → Wq n (u ++ invW u) []
  | [], _ => .refl n _
  | z :: u, h => by
    have hz := h z (List.mem_cons_self ..)
    have hu := fun y hy => h y (List.mem_cons_of_mem z hy)
    have ih := wq_right (n := n) (u := u) hu
    have e : z :: u ++ invW (z :: u) = [z] ++ (u ++ invW u) ++ [-z] := by simp [invW]
    rw [e]
    refine (ih.mid [z] [-z] (fun y hy => ?_) (fun y hy => ?_) (fun y hy => ?_)).trans ?_
    · rw [List.mem_singleton.1 hy]; exact hz
    · exact (List.mem_append.1 hy).elim (hu y) (invW_let hu y)
    · rw [List.mem_singleton.1 hy]; exact let_neg hz
    · exact wq_cancel hz
theorem wq_left {n : Nat} {u : List Int} (h : ∀ z ∈ u, Let n z) : Wq n (invW u ++ u) [] := by
  have := wq_right (invW_let h)
  rwa [invW_invW] at this
theorem mem_app {n : Nat} {u v : List Int} (hu : ∀ z ∈ u, Let n z) (hv : ∀ z ∈ v, Let n z) : ∀ z ∈ u ++ v, Let n z := fun z hz => (List.mem_append.1 hz).elim (hu z) (hv z)
theorem mem_nil {n : Nat} : ∀ z ∈ ([] : List Int), Let n z := fun _ h => by cases h
theorem wq_app {n : Nat} {u v x y : List Int} (h : Wq n u v) (h' : Wq n x y) (hu : ∀ z ∈ u, Let n z) (hv : ∀ z ∈ v, Let n z) (hx : ∀ z ∈ x, Let n z) : Wq n (u ++ x) (v ++ y) := by
  have h1 := h.mid [] x mem_nil hu hx
  have h2 := h'.mid v [] hv hx mem_nil
  simp only [List.nil_append, List.append_nil] at h1 h2
  exact h1.trans h2
/-- The inverses of words that are equal are equal. -/
theorem wq_inv {n : Nat} {p q : List Int} (h : Wq n p q) (hp : ∀ z ∈ p, Let n z) (hq : ∀ z ∈ q, Let n z) : Wq n (invW p) (invW q) := by
  have ip := invW_let hp
  have iq := invW_let hq
  have h1 : Wq n (invW p) (invW p ++ (q ++ invW q)) := by
    have := (wq_right hq).mid (invW p) [] ip (mem_app hq iq) mem_nil
    simp only [List.append_nil] at this
    exact this.symm
  have h2 : Wq n (invW p ++ (q ++ invW q)) (invW p ++ (p ++ invW q)) := by
    have := h.mid (invW p) (invW q) ip hp iq
    rw [List.append_assoc, List.append_assoc] at this
    exact this.symm
  have h3 : Wq n (invW p ++ (p ++ invW q)) (invW q) := by
    have := (wq_left hp).mid [] (invW q) mem_nil (mem_app ip hp) iq
    simp only [List.nil_append, List.append_assoc] at this
    exact this
  exact h1.trans (h2.trans h3)
/-- The inverse of a letter commutes with what the letter commutes with. -/
theorem wq_mixed {n : Nat} {a b : Int} (h : Wq n [a, b] [b, a]) (ha : Let n a) (hb : Let n b) : Wq n [-a, b] [b, -a] := by
  have l1 : ∀ z ∈ [a], Let n z := fun z hz => by rw [List.mem_singleton.1 hz]; exact ha
  have l2 : ∀ z ∈ [b], Let n z := fun z hz => by rw [List.mem_singleton.1 hz]; exact hb
  have l3 : ∀ z ∈ [-a], Let n z := fun z hz => by rw [List.mem_singleton.1 hz]; exact let_neg ha
  have h1 : Wq n [-a, b] [-a, b, a, -a] := ((wq_cancel ha).mid [-a, b] [] (mem_app l3 l2) (mem_app l1 l3) mem_nil).symm
  have h2 : Wq n [-a, b, a, -a] [-a, a, b, -a] := (h.mid [-a] [-a] l3 (mem_app l1 l2) l3).symm
  have h3 : Wq n [-a, a, b, -a] [b, -a] := by
    have := wq_cancel (let_neg ha)
    rw [Int.neg_neg] at this
    exact this.mid [] [b, -a] mem_nil (mem_app l3 l1) (mem_app l2 l3)
  exact h1.trans (h2.trans h3)

end Go.Proofs.Ytbcggbmjbljnfaa
