/-
  strap: the word of a simple braid, pure; the law of the centre.
-/
import Derived.Test.YtbcggbmjbljnfaaEe
import Derived.Test.YtbcggbmjbljnfaaEi
namespace Go.Proofs.Ytbcggbmjbljnfaa
open Go.RowKit Go.Sort
open Gar (Pm Sup Sups Mvs arr cr tw mul one half Eqv Wq Let)

theorem arr_swap {n i : Nat} {t : Pm} (hi : i + 1 < n) : swapAt (arr n t) i = arr n (mul (tw i) t) := by
  unfold swapAt
  rw [arr_get0 hi, arr_get0 (show i < n by omega)]
  refine List.ext_getElem? fun j => ?_
  rw [List.getElem?_set, List.getElem?_set]
  simp only [List.length_set, Gar.arr_len]
  by_cases hj : j < n
  · rw [Gar.arr_get hj, Gar.arr_get hj]
    by_cases h1 : i + 1 = j
    · subst h1; rw [if_pos rfl, if_pos hj]; show _ = some (t.f (Gar.sw i (i + 1))); rw [Gar.sw_r]
    · rw [if_neg h1]
      by_cases h2 : i = j
      · subst h2; rw [if_pos rfl, if_pos (by omega)]; show _ = some (t.f (Gar.sw i i)); rw [Gar.sw_l]
      · rw [if_neg h2]; show _ = some (t.f (Gar.sw i j)); rw [Gar.sw_o (by omega) (by omega)]
  · rw [if_neg (by omega), if_neg (by omega), List.getElem?_eq_none (by rw [Gar.arr_len]; omega), List.getElem?_eq_none (by rw [Gar.arr_len]; omega)]
theorem upAt_arr {n i : Nat} {t : Pm} (hi : i + 1 < n) : upAt (arr n t) i = decide (t.f i < t.f (i + 1)) := by
  unfold upAt
  rw [arr_get0 hi, arr_get0 (show i < n by omega)]
theorem sups_snoc {n : Nat} {L : List Pm} {s : Pm} (h : Sups n L) (hs : Sup n s) : Sups n (L ++ [s]) := Gar.sups_one.2 ⟨h, hs⟩
/-- The word of a simple braid does what the braid does. -/
theorem simpN_ok {n : Nat} : ∀ (f : Nat) (t : Pm), Sup n t → cr (arr n t) < f → ∃ ks, simpN f (arr n t) = some ks ∧ (∀ k ∈ ks, k + 1 < n) ∧ ks.length = cr (arr n t) ∧ ∀ (pw : Int) (L : List Pm), Sups n L → Eqv n (pw, L ++ ks.map tw) (pw, L ++ [t])
  | 0, _, _, h => by omega
  | f + 1, t, ht, hf => by
    unfold simpN
    cases hm : fallN (arr n t) with
    | none =>
      have e : t = one := Gar.rises ht fun i hi => by
        have := List.find?_eq_none.1 hm i (List.mem_range.2 (by rw [Gar.arr_len]; omega))
        rw [upAt_arr hi] at this
        simpa using this
      subst e
      refine ⟨[], rfl, (fun _ h => by cases h), ?_, fun pw L hL => ?_⟩
      · have h0 : ∀ (m : Nat) (l : List Nat), (∀ i j, i < j → j < l.length → l[i]?.getD 0 < l[j]?.getD 0) → l.length = m → cr l = 0 := by
          intro m
          induction m with
          | zero => intro l _ hl; have : l = [] := List.eq_nil_of_length_eq_zero hl; subst this; rfl
          | succ m ih =>
            intro l hl hm
            cases l with
            | nil => rfl
            | cons x l =>
              have h1 : cr l = 0 := ih l (fun i j hij hj => by
                have := hl (i + 1) (j + 1) (by omega) (by simpa using hj)
                simpa using this) (by simpa using hm)
              have h2 : l.countP (fun y => decide (y < x)) = 0 := List.countP_eq_zero.2 fun y hy => by
                obtain ⟨j, hj, e⟩ := List.getElem_of_mem hy
                have := hl 0 (j + 1) (by omega) (by simpa using hj)
                simp [hj, e] at this
                simp; omega
              simp [cr, h1, h2]
        have := h0 n (arr n one) (fun i j hij hj => by
          rw [Gar.arr_len] at hj
          rw [arr_get0 (by omega), arr_get0 hj]
          exact hij) (Gar.arr_len n one)
        rw [this]; rfl
      · rw [List.map_nil, List.append_nil]; exact .symm (.snoc pw L)
    | some i =>
      obtain ⟨hi, hu⟩ := fallN_lt hm
      rw [Gar.arr_len] at hi
      rw [upAt_arr hi] at hu
      have hc : t.f (i + 1) < t.f i := by
        have h1 : ¬ t.f i < t.f (i + 1) := by simpa using hu
        have h2 : t.f i ≠ t.f (i + 1) := fun e => by have := t.inj e; omega
        omega
      have htw := Sup.tw hi
      have hcr := Gar.cr_left hi hc
      obtain ⟨ks, h1, h2, h3, h4⟩ := simpN_ok f (mul (tw i) t) (htw.mul ht) (by omega)
      refine ⟨i :: ks, ?_, fun k hk => ?_, by simp; omega, fun pw L hL => ?_⟩
      · simp only [arr_swap hi, h1]
      · rcases List.mem_cons.1 hk with rfl | hk
        · exact hi
        · exact h2 k hk
      · have h5 := h4 pw (L ++ [tw i]) (sups_snoc hL htw)
        have e1 : L ++ (i :: ks).map tw = L ++ [tw i] ++ ks.map tw := by simp
        rw [e1]
        refine h5.trans ?_
        have hab : Mvs [tw i, mul (tw i) t] [t, one] := by
          have h6 := Gar.absorb (n := n) htw (htw.mul ht) (fun p q hpq hcc => by
            by_cases hpi : p = i ∧ q = i + 1
            · obtain ⟨rfl, rfl⟩ := hpi
              have : t.f (Gar.sw p (p + 1)) < t.f (Gar.sw p p) := hcc
              rw [Gar.sw_l, Gar.sw_r] at this
              omega
            · exact Gar.sw_lt hpq hpi)
          rw [← Gar.mul_assoc, Gar.tw_tw, Gar.one_mul] at h6
          exact h6
        refine .trans (.mv (L' := L ++ [t] ++ [one]) (sups_snoc (sups_snoc hL htw) (htw.mul ht)) ?_) (.snoc pw _)
        simpa using hab.pre L
theorem letsN_let {n : Nat} {ks : List Nat} (h : ∀ k ∈ ks, k + 1 < n) : ∀ z ∈ letsN ks, Let n z := fun z hz => by
  obtain ⟨k, hk, rfl⟩ := List.mem_map.1 hz
  have := h k hk
  exact ⟨by omega, by omega, by omega⟩
/-- The half twist's word. -/
theorem half_word {n : Nat} (hn : 1 ≤ n) : ∃ ks, simpN (n * n + 1) (halfN n) = some ks ∧ (∀ k ∈ ks, k + 1 < n) ∧ ks.length = cr (halfN n) ∧ ∀ (a : Int × List Pm), Sups n a.2 → Eqv n (Gar.word n a (letsN ks)) (a.1 + 1, Gar.flipL n a.2) := by
  have hb := cr_le (arr n (half n))
  rw [Gar.arr_len] at hb
  obtain ⟨ks, h1, h2, h3, h4⟩ := simpN_ok (n * n + 1) (half n) (Sup.half n) (by omega)
  rw [arr_half] at h1 h3
  refine ⟨ks, h1, h2, h3, fun a ha => ?_⟩
  rw [letsN, Gar.word_pos]
  exact (h4 a.1 a.2 ha).trans (.trans (.mv (sups_snoc ha (Sup.half n)) (Gar.push ha)) (.half _ _))
theorem word_shift {n : Nat} (d : Int) : ∀ (ws : List Int) (p : Int) (L : List Pm), Gar.word n (p + d, L) ws = ((Gar.word n (p, L) ws).1 + d, (Gar.word n (p, L) ws).2)
  | [], _, _ => rfl
  | z :: ws, p, L => by
    show Gar.word n (Gar.step n (p + d, L) z) ws = ((Gar.word n (Gar.step n (p, L) z) ws).1 + d, (Gar.word n (Gar.step n (p, L) z) ws).2)
    have e : Gar.step n (p + d, L) z = ((Gar.step n (p, L) z).1 + d, (Gar.step n (p, L) z).2) := by
      unfold Gar.step
      split
      · rfl
      · simp only [Prod.mk.injEq, and_true]; omega
    rw [e]
    exact word_shift d ws _ _
/-- What becomes of a letter when a half twist passes it. -/
def turnZ (n : Nat) (z : Int) : Int := if z < 0 then -((n : Int) - z.natAbs) else (n : Int) - z.natAbs
theorem turnZ_let {n : Nat} {z : Int} (h : Let n z) : Let n (turnZ n z) := by
  obtain ⟨h0, h1, h2⟩ := h
  unfold turnZ
  split <;> exact ⟨by omega, by omega, by omega⟩
theorem step_turn {n : Nat} {z : Int} (hz : Let n z) (p : Int) (L : List Pm) : Gar.step n (p, Gar.flipL n L) (turnZ n z) = ((Gar.step n (p, L) z).1, Gar.flipL n (Gar.step n (p, L) z).2) := by
  obtain ⟨h0, h1, h2⟩ := hz
  by_cases hp : 0 < z
  · obtain ⟨i, rfl⟩ : ∃ i : Nat, z = (i : Int) + 1 := ⟨(z - 1).toNat, by omega⟩
    have e : turnZ n ((i : Int) + 1) = ((n - 2 - i : Nat) : Int) + 1 := by unfold turnZ; rw [if_neg (by omega)]; omega
    rw [e, Gar.step_pos, Gar.step_pos]
    simp [Gar.flipL, Gar.flip_tw (show i + 1 < n by omega)]
  · obtain ⟨i, rfl⟩ : ∃ i : Nat, z = -((i : Int) + 1) := ⟨(-z - 1).toNat, by omega⟩
    have e : turnZ n (-((i : Int) + 1)) = -(((n - 2 - i : Nat) : Int) + 1) := by unfold turnZ; rw [if_pos (by omega)]; omega
    rw [e, Gar.step_neg, Gar.step_neg]
    have e2 : Gar.flip n (mul (half n) (tw i)) = mul (half n) (tw (n - 2 - i)) := by rw [Gar.flip_mul, Gar.flip_half, Gar.flip_tw (by omega)]
    simp only [Prod.mk.injEq, true_and]
    show _ = Gar.flipL n (Gar.flipL n L ++ [mul (half n) (tw i)])
    simp [Gar.flipL, e2]
theorem word_turn {n : Nat} : ∀ (ws : List Int) (p : Int) (L : List Pm), (∀ z ∈ ws, Let n z) → Gar.word n (p, Gar.flipL n L) (ws.map (turnZ n)) = ((Gar.word n (p, L) ws).1, Gar.flipL n (Gar.word n (p, L) ws).2)
  | [], _, _, _ => rfl
  | z :: ws, p, L, h => by
    show Gar.word n (Gar.step n (p, Gar.flipL n L) (turnZ n z)) (ws.map (turnZ n)) = _
    rw [step_turn (h z (List.mem_cons_self ..))]
    exact word_turn ws _ _ fun y hy => h y (List.mem_cons_of_mem _ hy)
theorem centre1 {n : Nat} {h ws : List Int} (hl : ∀ z ∈ h, Let n z) (hw : ∀ z ∈ ws, Let n z) (hh : ∀ (a : Int × List Pm), Sups n a.2 → Eqv n (Gar.word n a h) (a.1 + 1, Gar.flipL n a.2)) :
    Eqv n (Gar.word n (0, []) (h ++ h ++ ws)) (Gar.word n (0, []) (ws ++ h ++ h)) := by
  have hnil : Sups n ((0, []) : Int × List Pm).2 := fun _ h => by cases h
  have s1 := Gar.word_sups hl hnil
  have e1 : Eqv n (Gar.word n (Gar.word n (0, []) h) h) (2, []) := by
    refine (Eqv.word hl s1 (hh _ hnil)).trans ?_
    exact hh (0 + 1, Gar.flipL n []) (fun _ h => by cases h)
  obtain ⟨P, L, hPL⟩ : ∃ P L, Gar.word n (0, []) ws = (P, L) := ⟨_, _, rfl⟩
  have sL : Sups n L := by have := Gar.word_sups hw hnil; rw [hPL] at this; exact this
  rw [Gar.word_app, Gar.word_app, Gar.word_app, Gar.word_app, hPL]
  refine (Eqv.word hw (Gar.word_sups hl s1) e1).trans ?_
  have e2 := word_shift (n := n) 2 ws 0 []
  rw [show ((0 : Int) + 2, ([] : List Pm)) = (2, []) from rfl, hPL] at e2
  rw [e2]
  refine .symm ((Eqv.word hl (Gar.word_sups hl sL) (hh (P, L) sL)).trans ((hh (P + 1, Gar.flipL n L) sL.flip).trans ?_))
  rw [Gar.flipL_flipL]
  have : P + 1 + 1 = P + 2 := by omega
  simp only [this]
  exact .refl _
theorem centre2 {n : Nat} {h ws : List Int} (hl : ∀ z ∈ h, Let n z) (hw : ∀ z ∈ ws, Let n z) (hh : ∀ (a : Int × List Pm), Sups n a.2 → Eqv n (Gar.word n a h) (a.1 + 1, Gar.flipL n a.2)) :
    Eqv n (Gar.word n (0, []) (ws ++ h)) (Gar.word n (0, []) (h ++ ws.map (turnZ n))) := by
  have hnil : Sups n ((0, []) : Int × List Pm).2 := fun _ h => by cases h
  obtain ⟨P, L, hPL⟩ : ∃ P L, Gar.word n (0, []) ws = (P, L) := ⟨_, _, rfl⟩
  have sL : Sups n L := by have := Gar.word_sups hw hnil; rw [hPL] at this; exact this
  have hwt : ∀ z ∈ ws.map (turnZ n), Let n z := fun z hz => by
    obtain ⟨y, hy, rfl⟩ := List.mem_map.1 hz
    exact turnZ_let (hw y hy)
  rw [Gar.word_app, Gar.word_app, hPL]
  refine (hh (P, L) sL).trans (.symm ((Eqv.word hwt (Gar.word_sups hl hnil) (hh _ hnil)).trans ?_))
  have e1 := word_turn ws (0 + 1) [] hw
  have e2 := word_shift (n := n) 1 ws 0 []
  rw [e2, hPL] at e1
  have e3 : Gar.word n (0 + 1, Gar.flipL n []) (ws.map (turnZ n)) = (P + 1, Gar.flipL n L) := e1
  rw [e3]
  exact .refl _

end Go.Proofs.Ytbcggbmjbljnfaa
