/-
  F1 for the orders of the program: some order that folds a strip has the letters exactly if the simple folds leave one segment.
-/
import Derived.Test.YtfgenpailmgkiaaMf
import Derived.Test.YtfgenpailmgkiaaHc
namespace Go.Proofs.Ytfgenpailmgkiaa

theorem btwB_Btw (x a b : Int) : btwB x a b = true ↔ Btw x a b := btwB_iff x a b

theorem crs_mem (zs : List Int) (k : Nat) (h : k + 1 < zs.length) : (⟨k, k + 1, posAt zs (k + 1)⟩ : Cr) ∈ (layCl zs).crs := by
  simp only [layCl, crsTo, List.mem_map, List.mem_range]
  exact ⟨k, by omega, rfl⟩
theorem crs_at (zs : List Int) (k : Nat) (h : k + 1 < zs.length) : (layCl zs).crs[k]? = some ⟨k, k + 1, posAt zs (k + 1)⟩ := by
  simp only [layCl, crsTo]
  rw [List.getElem?_map, List.getElem?_range (by omega)]; rfl

theorem noCross_nc {zs : List Int} {A : Nat → Int} : NoCross zs.length (posAt zs) (layCl zs).crs rightS A ↔ NC zs.length (posAt zs) A := by
  constructor
  · intro h
    refine ⟨fun k i hk hi hb hc => h.seg _ (crs_mem zs k hk) i hi ⟨(btwB_Btw _ _ _).2 hb, (btwB_Btw _ _ _).2 hc⟩, fun j k hj hk hp hm => ?_⟩
    have := h.cr _ (crs_mem zs k hk) _ (crs_mem zs j hj) hp (by unfold rightS; rw [decide_eq_decide]; show (j + 1) % 2 = 0 ↔ (k + 1) % 2 = 0; omega)
    rw [← btwB_Btw, ← btwB_Btw]
    exact Eq.to_iff (congrArg (· = true) this)
  · intro h
    refine ⟨fun f hf i hi hb => ?_, fun f hf g hg hp hr => ?_⟩
    · obtain ⟨k, hk, rfl⟩ := mem_crs hf
      exact h.seg k i hk hi ((btwB_Btw _ _ _).1 hb.1) ((btwB_Btw _ _ _).1 hb.2)
    · obtain ⟨k, hk, rfl⟩ := mem_crs hf
      obtain ⟨j, hj, rfl⟩ := mem_crs hg
      unfold rightS at hr
      rw [decide_eq_decide] at hr
      have hr' : (j + 1) % 2 = 0 ↔ (k + 1) % 2 = 0 := hr
      have := h.cr j k hj hk hp (by omega)
      rw [Bool.eq_iff_iff, btwB_Btw, btwB_Btw]
      exact this

theorem layersOf_get {n : Nat} {P : List Nat} (hn : P.Nodup) (hv : ∀ x ∈ P, x < n) (hl : P.length = n) {s : Nat} (hs : s < n) : (layersOf P n)[s]?.getD 0 = (layerN P s : Int) := by
  rw [layersOf, hl, layersTo_layer hn hv hl hs n (Nat.le_refl _), if_pos (layerN_lt hn hv hl hs)]

theorem crsOf_at {zs : List Int} {P : List Nat} (hn : P.Nodup) (hv : ∀ x ∈ P, x < zs.length) (hl : P.length = zs.length) (k : Nat) (hk : k + 1 < zs.length) :
    (crsOf zs P).data.toList[k]? = some (if ((k % 2 == 0) == decide ((layerN P k : Int) < layerN P (k + 1))) = true then 86 else 77) := by
  rw [crsOf, strOf_list, lettersZ, List.map_map, List.getElem?_map, crs_at zs k hk]
  simp only [Option.map_some, Function.comp, letterZ]
  rw [layersOf_get hn hv hl (by omega : k < zs.length), layersOf_get hn hv hl hk]
  split <;> rfl
theorem crsOf_length (zs : List Int) (P : List Nat) : (crsOf zs P).data.toList.length = zs.length - 1 := by
  rw [crsOf, strOf_list, List.length_map, lettersZ, List.length_map, layCl_crs]

theorem exists_order {zs : List Int} {cs : List UInt8} (hcl : cs.length + 1 = zs.length) (hlet : ∀ b ∈ cs, letB b = true) : (∃ O, O ∈ ordersOf (layCl zs) zs.length ∧ (crsOf zs O).data.toList = cs) ↔ FdL zs cs := by
  constructor
  · rintro ⟨O, hO, hc⟩
    obtain ⟨e1, e2, e3, e4⟩ := mem_orders.1 hO
    have hN := noCross_nc.1 ((okFrom_iff (strip_fair zs) e1 e2 e3).1 e4)
    refine ⟨fun s => (layerN O s : Int), fun i j hi hj (e : (layerN O i : Int) = layerN O j) => layerN_inj e1 e2 e3 hi hj (by omega), hN, fun k hk => ?_⟩
    have := crsOf_at e1 e2 e3 k hk
    rw [hc] at this
    show (cs[k]?.getD 0 == 86) = true ↔ (k % 2 = 0 ↔ (layerN O k : Int) < layerN O (k + 1))
    rw [this, Option.getD_some]
    by_cases h1 : k % 2 = 0 <;> by_cases h2 : (layerN O k : Int) < layerN O (k + 1) <;> simp [h1, h2]
  · rintro ⟨A, hi, hN, hp⟩
    have hperm := List.mergeSort_perm (List.range zs.length) (fun a b => decide (A a ≤ A b))
    have hsort := List.pairwise_mergeSort (le := fun a b => decide (A a ≤ A b)) (fun a b c h1 h2 => by simp only [decide_eq_true_eq] at *; omega) (fun a b => by simp only [Bool.or_eq_true, decide_eq_true_eq]; omega) (List.range zs.length)
    obtain ⟨O, hO⟩ : ∃ O, (List.range zs.length).mergeSort (fun a b => decide (A a ≤ A b)) = O := ⟨_, rfl⟩
    rw [hO] at hperm hsort
    have e1 : O.Nodup := hperm.nodup_iff.2 List.nodup_range
    have e2 : ∀ x ∈ O, x < zs.length := fun x hx => List.mem_range.1 (hperm.mem_iff.1 hx)
    have e3 : O.length = zs.length := by rw [hperm.length_eq, List.length_range]
    rw [List.pairwise_iff_getElem] at hsort
    have ord : ∀ s t, s < zs.length → t < zs.length → (((layerN O s : Nat) : Int) < (layerN O t : Nat) ↔ A s < A t) := by
      have one : ∀ s t, s < zs.length → t < zs.length → layerN O s < layerN O t → A s < A t := by
        intro s t hs ht h
        have l1 := layerN_lt e1 e2 e3 hs
        have l2 := layerN_lt e1 e2 e3 ht
        have a1 := layerN_at e1 e2 e3 hs
        have a2 := layerN_at e1 e2 e3 ht
        have := hsort (layerN O s) (layerN O t) (by omega) (by omega) h
        rw [List.getElem?_eq_getElem (by omega)] at a1 a2
        simp only [Option.getD_some] at a1 a2
        rw [a1, a2] at this
        have hle : A s ≤ A t := by simpa using this
        have hne : A s ≠ A t := fun e => by
          have := hi s t hs ht e
          subst this
          omega
        omega
      intro s t hs ht
      constructor
      · intro h; exact one s t hs ht (by omega)
      · intro h
        have : ¬ layerN O t ≤ layerN O s := by
          intro hc
          rcases Nat.lt_or_eq_of_le hc with hc | hc
          · have := one t s ht hs hc; omega
          · have := layerN_inj e1 e2 e3 ht hs hc
            subst this
            omega
        omega
    have hbt : ∀ i s t, i < zs.length → s < zs.length → t < zs.length → (Btw (layerN O i : Int) (layerN O s : Int) (layerN O t : Int) ↔ Btw (A i) (A s) (A t)) := fun i s t h1 h2 h3 => btw_of (ord i s h1 h2) (ord s i h2 h1) (ord i t h1 h3) (ord t i h3 h1)
    have hN' : NC zs.length (posAt zs) (fun s => (layerN O s : Int)) :=
      ⟨fun k i hk hi' hb hc => hN.seg k i hk hi' hb ((hbt i k (k + 1) hi' (by omega) hk).1 hc), fun j k hj hk e hm => by
        rw [hbt j k (k + 1) (by omega) (by omega) hk, hbt (j + 1) k (k + 1) hj (by omega) hk]; exact hN.cr j k hj hk e hm⟩
    refine ⟨O, mem_orders.2 ⟨e1, e2, e3, (okFrom_iff (strip_fair zs) e1 e2 e3).2 (noCross_nc.2 hN')⟩, ?_⟩
    refine List.ext_getElem? fun k => ?_
    by_cases hk : k + 1 < zs.length
    · rw [crsOf_at e1 e2 e3 k hk]
      have hkc : k < cs.length := by omega
      have q : (cs[k]?.getD 0 == 86) = true ↔ (k % 2 = 0 ↔ A k < A (k + 1)) := hp k hk
      have o := ord k (k + 1) (by omega) hk
      rw [List.getElem?_eq_getElem hkc] at q ⊢
      have l := let_or (hlet _ (List.getElem_mem hkc))
      simp only [Option.getD_some] at q
      congr 1
      rw [← o] at q
      generalize cs[k] = b at *
      rcases l with rfl | rfl
      · have q' : ¬ (k % 2 = 0 ↔ (layerN O k : Int) < layerN O (k + 1)) := fun h => by have := q.2 h; cases this
        by_cases h1 : k % 2 = 0 <;> by_cases h2 : (layerN O k : Int) < layerN O (k + 1) <;> simp [h1, h2] at q' ⊢
      · have q' : (k % 2 = 0 ↔ (layerN O k : Int) < layerN O (k + 1)) := q.1 rfl
        by_cases h1 : k % 2 = 0 <;> by_cases h2 : (layerN O k : Int) < layerN O (k + 1) <;> simp [h1, h2] at q' ⊢
    · rw [List.getElem?_eq_none (by rw [crsOf_length]; omega), List.getElem?_eq_none (by omega)]

/-- F1. -/
theorem reduced_iff {zs : List Int} {cs : List UInt8} (h : Good 1000000 zs cs) : (∃ O, O ∈ ordersOf (layCl zs) zs.length ∧ (crsOf zs O).data.toList = cs) ↔ (redAll zs.length zs cs).1.length = 1 := by
  rw [exists_order h.len h.let_]
  exact (redAll_fd zs.length zs cs h (by omega)).1

end Go.Proofs.Ytfgenpailmgkiaa
