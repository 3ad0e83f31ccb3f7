/-
  The walk of 'lives'.
-/
import Derived.Test.YthlbedhjekbfpaaDoorRw
namespace Go.Proofs.YthlbedhjekbfpaaDoor
open Go.RowKit Go.Sort

def pathE : List (Int × Int) := [(0, 1), (1, 2)]
theorem path_good : graphR 3 pathE = true := by decide +kernel
theorem path_graph : graphN 3 pathE = some [3, 7, 6] := by decide +kernel
theorem path_cliques : cliquesN [3, 7, 6] = [3, 6] := by decide +kernel
theorem path_lists : (srtN [3, 6]).map listI = [[0, 1], [1, 2]] := by
  rw [srtN, List.mergeSort_of_pairwise (by decide +kernel)]
  decide +kernel
theorem path_order : ordI 3 [3, 7, 6] = [0, 1, 2] := by decide +kernel
theorem path_perm : permR [0, 1, 2] 3 = true := by decide +kernel

theorem path_at {N : Int} {es : List (Int × Int)} {n : Nat} {gs : List Nat} (h : graphN N es = some gs) (hN : N = n) (hc : ∃ (m : Nat) (gs' : List Nat), N = m ∧ graphN N es = some gs' ∧ Adj m gs' es) : Adj n gs es := by
  obtain ⟨m, gs', h1, h2, h3⟩ := hc
  rw [h] at h2
  cases h2
  obtain rfl : m = n := by omega
  exact h3
theorem path_adj : Adj 3 [3, 7, 6] pathE := by
  obtain ⟨m, gs, h1, _, _, h4, _, h6⟩ := graphN_good path_good
  exact path_at path_graph rfl ⟨m, gs, h1, h4, h6⟩
theorem path_call (b : Nat) (w : World) (he : Edges w (some ⟨b, 0, none⟩) pathE) : Calls Tryd.prog 33 #[.int .i64 3, .slice (some ⟨b, 0, none⟩) 2 2] w (GoodG 3 [3, 7, 6] w) := by
  obtain ⟨n, gs, h1, _, _, h4, hcall⟩ := graphOf_good path_good
  obtain rfl : n = 3 := by omega
  have hc := hcall (some ⟨b, 0, none⟩) 2 2 w rfl (by omega) he
  have e : gs = [3, 7, 6] := by
    refine List.ext_getElem (by rw [h4.len]; rfl) fun i h1' h2' => ?_
    have hi : i < 3 := h2'
    refine Nat.eq_of_testBit_eq fun k => ?_
    have a := h4.bit i k hi
    have c := path_adj.bit i k hi
    rw [List.getElem?_eq_getElem h1'] at a
    rw [List.getElem?_eq_getElem h2'] at c
    exact a.trans c.symm
  rw [e] at hc
  exact hc

/-- Two lists, read. -/
theorem GivesL.two {l0 l1 : List Int} {w w' : World} {v : Value} (h : GivesL [l0, l1] w v w') : ∃ g cap a0 c0 a1 c1, v = .slice (some ⟨g, 0, none⟩) 2 cap ∧ w'.cell? ⟨g, 0, none⟩ = some (.slice a0 l0.length c0) ∧ w'.cell? ⟨g, 1, none⟩ = some (.slice a1 l1.length c1) ∧ Ints w' a0 l0 ∧ Ints w' a1 l1 ∧ Below w.heap.size w w' := by
  obtain ⟨a, cap, vs, rfl, hown, hrow, hb⟩ := h
  have h0 := hrow 0 (by simp)
  have h1 := hrow 1 (by simp)
  obtain ⟨a0, c0, e0⟩ := ownsRow_slice h0
  obtain ⟨a1, c1, e1⟩ := ownsRow_slice h1
  have hvl : vs.length = 2 := by simpa using hown.1
  obtain ⟨u0, u1, rfl⟩ : ∃ u0 u1, vs = [u0, u1] := by
    match vs, hvl with
    | [u0, u1], _ => exact ⟨u0, u1, rfl⟩
  simp only [List.getElem?_cons_zero, List.getElem?_cons_succ, Option.getD_some] at h0 h1 e0 e1
  subst e0 e1
  rcases hown.2 with ⟨e, h⟩ | ⟨g, cap', cur, e, _⟩
  · simp at h
  · cases e
    refine ⟨g, cap, a0, c0, a1, c1, rfl, hown.cellAt 0 (by simp), hown.cellAt 1 (by simp), Ints.of_owns h0, Ints.of_owns h1, hb⟩

theorem Ints.of_row {w : World} {b : Nat} {l : List Int} (h : w.heap[b]? = some (.cells (l.map (Value.int .i64)).toArray 3 (0, 0))) : Ints w (some ⟨b, 0, none⟩) l := fun i hi => ⟨b, 0, rfl, by rw [Nat.zero_add]; exact row_at h hi⟩

set_option maxRecDepth 100000 in
set_option maxHeartbeats 4000000 in
theorem lives_any (w : World) : Calls Tryd.prog 11 #[] w fun e w' => e = .returned (.bool true) ∧ Below w.heap.size w w' := by
  have HC := Lib.hid (fun (b : Nat) (wx : World) (he : Edges wx (some ⟨b, 0, none⟩) pathE) => Cliques_any 3 (some ⟨b, 0, none⟩) 2 2 pathE 3 [3, 7, 6] wx rfl (by omega) he rfl (by omega) path_adj (by rw [path_cliques]; simp) (path_call b wx he))
  have HO := Lib.hid (fun (b : Nat) (wx : World) (he : Edges wx (some ⟨b, 0, none⟩) pathE) => Order_any 3 (some ⟨b, 0, none⟩) 2 2 pathE 3 [3, 7, 6] wx rfl (by omega) path_adj (path_call b wx he))
  rw [show cliqueLists [3, 7, 6] = [[0, 1], [1, 2]] by rw [cliqueLists, path_cliques, path_lists]] at HC
  go_enter Tryd.func11, Tryd.ntmps11
  have HE : Hid (Edges (w.alloc (.cells #[.int .i64 0, .int .i64 1, .int .i64 1, .int .i64 2] 40)) (some ⟨w.heap.size, 0, none⟩) pathE) := Lib.hid (.inr ⟨w.heap.size, 0, rfl, fun i hi => by
    have hi' : i < 2 := hi
    match i, hi' with
    | 0, _ => exact ⟨World.cell?_alloc_at _ _ _ _ rfl, World.cell?_alloc_at _ _ _ _ rfl⟩
    | 1, _ => exact ⟨World.cell?_alloc_at _ _ _ _ rfl, World.cell?_alloc_at _ _ _ _ rfl⟩⟩)
  have HB0 : Hid (Below w.heap.size w (w.alloc (.cells #[.int .i64 0, .int .i64 1, .int .i64 1, .int .i64 2] 40))) := Lib.hid ((Below.refl _ w).alloc (Nat.le_refl _) _)
  go_wp2_with (go_at_call 29; refine (HC.out w.heap.size _ HE.out).mono ?_; rintro e w1 ⟨v, rfl, hv⟩; obtain ⟨g, cp, a0, c0, a1, c1, rfl, k0, k1, i0, i1, hb⟩ := hv.two; have H1 := Lib.hid (And.intro k0 (And.intro k1 (And.intro i0 (And.intro i1 hb)))); clear hv k0 k1 i0 i1 hb)
  have HE1 := Lib.hid (HE.out.below (H1.out.2.2.2.2))
  go_wp2_with (go_at_call 8; refine (HO.out w.heap.size _ HE1.out).mono ?_; rintro e w2 ⟨hb, h⟩; rw [path_order, if_neg (by decide)] at h; obtain ⟨a2, c2, rfl, hown⟩ := h; have H2 := Lib.hid (And.intro (Ints.of_owns hown) hb); clear hown hb; simp only [show ([0, 1, 2] : List Int).length = 3 from rfl]; have k0 : w2.cell? ⟨g, 0, none⟩ = some (.slice a0 2 c0) := (H2.out.2.cell (p := ⟨g, 0, none⟩) (World.block_lt_of_cell? _ _ H1.out.1)).trans H1.out.1; have k1 : w2.cell? ⟨g, 1, none⟩ = some (.slice a1 2 c1) := (H2.out.2.cell (p := ⟨g, 1, none⟩) (World.block_lt_of_cell? _ _ H1.out.2.1)).trans H1.out.2.1)
  have HI0 := Lib.hid (H1.out.2.2.1.below H2.out.2)
  have HI1 := Lib.hid (H1.out.2.2.2.1.below H2.out.2)
  have hb1 := HB0.out.trans (H1.out.2.2.2.2.mono HB0.out.size)
  have HB2 := Lib.hid (hb1.trans (H2.out.2.mono hb1.size))
  clear hb1 k0
  have hba := (Below.refl _ w2).alloc (Nat.le_refl _) (.cells #[.int .i64 0, .int .i64 1] 3)
  refine (same_any _ _ 2 2 c0 2 [0, 1] [0, 1] _ rfl rfl (by omega) (by omega) (HI0.out.below hba) (Ints.of_row (l := [0, 1]) (heap_alloc_new w2 _))).mono ?_
  rintro e w3 ⟨rfl, hb3⟩
  rw [show decide (([0, 1] : List Int) = [0, 1]) = true from rfl]
  have hb23 := hba.trans (hb3.mono (by simp))
  have H3 := Lib.hid (And.intro (HI1.out.below hb23) (And.intro (H2.out.1.below hb23) (HB2.out.trans (hb23.mono HB2.out.size))))
  replace k1 : w3.cell? ⟨g, 1, none⟩ = some (.slice a1 2 c1) := (hb23.cell (p := ⟨g, 1, none⟩) (World.block_lt_of_cell? _ _ k1)).trans k1
  clear hba hb3 hb23 H1 H2 HI0 HI1 HB2 HB0 HE1 HE HO HC
  go_wp2_with (fail)
  clear k1
  have hba := (Below.refl _ w3).alloc (Nat.le_refl _) (.cells #[.int .i64 1, .int .i64 2] 3)
  refine (same_any _ _ 2 2 c1 2 [1, 2] [1, 2] _ rfl rfl (by omega) (by omega) (H3.out.1.below hba) (Ints.of_row (l := [1, 2]) (heap_alloc_new w3 _))).mono ?_
  rintro e w4 ⟨rfl, hb4⟩
  rw [show decide (([1, 2] : List Int) = [1, 2]) = true from rfl]
  have hb34 := hba.trans (hb4.mono (by simp))
  have H4 := Lib.hid (And.intro (H3.out.2.1.below hb34) (H3.out.2.2.trans (hb34.mono H3.out.2.2.size)))
  clear hba hb4 hb34 H3
  go_wp2_with (fail)
  refine (Permutation_any a2 3 c2 [0, 1, 2] 3 w4 rfl (by omega) (by omega) (by omega) H4.out.1).mono ?_
  rintro e w5 ⟨rfl, hb5⟩
  rw [path_perm]
  have H5 := Lib.hid (H4.out.2.trans (hb5.mono H4.out.2.size))
  clear hb5 H4
  go_wp2_with (fail)
  go_ret
  exact ⟨rfl, H5.out⟩

end Go.Proofs.YthlbedhjekbfpaaDoor
