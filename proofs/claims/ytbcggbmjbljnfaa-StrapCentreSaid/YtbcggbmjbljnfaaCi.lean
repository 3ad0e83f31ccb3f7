/-
  strap: matrices of polynomials: 'letterMatrix', of a letter above 0.
-/
import Derived.Test.YtbcggbmjbljnfaaCh
namespace Go.Proofs.Ytbcggbmjbljnfaa
open Go.RowKit Go.Sort

/-- The matrix of a letter i + 1. -/
def letPN (i : Nat) : Nat → Nat → Pol := updM (updM (updM (updM unitN i i (0, [1, -1])) i (i + 1) (1, [1])) (i + 1) i (0, [1])) (i + 1) (i + 1) (0, [])

theorem entGen_any (low : Int) (zs : List Int) (he : entN low zs = (low, zs)) (hl : -1000000 ≤ low ∧ low ≤ 1000000) (hn : zs.length ≤ 1000) (g : Nat) (wx : World) (hr : RowZ wx g zs) :
    Calls Try.prog 116 #[.int .i64 low, .slice (some ⟨g, 0, none⟩) zs.length zs.length] wx (fun e w' => ∃ a d, e = .returned (.agg #[.int .i64 low, .slice a zs.length d]) ∧ IntsT w' a zs ∧ Below wx.heap.size wx w' ∧ zs.length ≤ d) := by
  refine (entryOf_any low zs.length zs.length (some ⟨g, 0, none⟩) zs _ rfl (Nat.le_refl _) (by omega) hl (RowZ.ints hr)).mono ?_
  rintro e w' ⟨a, d, rfl, hz, hb', hl⟩
  rw [he] at hz hl ⊢
  exact ⟨a, d, rfl, hz, hb', hl⟩
theorem rowz2 (w : World) (o : Obj) (zs : List Int) : RowZ ((w.alloc o).alloc (.cells (intC zs) 3)).drew (w.heap.size + 1) zs := by
  have h := heap_alloc_new (w.alloc o) (.cells (intC zs) 3)
  rw [show (w.alloc o).heap.size = w.heap.size + 1 by simp] at h
  exact h
theorem cell1_below {w w' : World} {a : Addr} {v : Value} (h : w.cell? a = some v ∧ True) (hb : Below w.heap.size w w') : w'.cell? a = some v ∧ True := ⟨(hb.cell (p := a) (World.block_lt_of_cell? w _ h.1)).trans h.1, trivial⟩
theorem cell1_alloc {w : World} {a : Addr} {v : Value} {o : Obj} (h : w.cell? a = some v ∧ True) : (w.alloc o).cell? a = some v ∧ True := cell1_below h ((Below.refl _ w).alloc (Nat.le_refl _) o)
theorem cell1_set {w : World} {b o B x y : Nat} {v u u' : Value} (h : w.cell? ⟨b, o, none⟩ = some v ∧ True) (hn : b ≠ B) : ((w.setCell ⟨B, x, none⟩ u).setCell ⟨B, y, none⟩ u').cell? ⟨b, o, none⟩ = some v ∧ True := ⟨by rw [cell_other hn, cell_other hn]; exact h.1, trivial⟩
/-- The cells of two neighbouring entries of a row, before and after the first one is stored. -/
theorem pair_cells {w : World} {b n i : Nat} {p : Nat → Pol} (h : RowE w b n p) (hi : i + 1 < n) (u v : Value) :
    (∃ x, w.cell? ⟨b, i * 2, none⟩ = some x) ∧ (∃ x, w.cell? ⟨b, i * 2 + 1, none⟩ = some x) ∧ (∃ x, ((w.setCell ⟨b, i * 2, none⟩ u).setCell ⟨b, i * 2 + 1, none⟩ v).cell? ⟨b, (i + 1) * 2, none⟩ = some x) ∧ (∃ x, ((w.setCell ⟨b, i * 2, none⟩ u).setCell ⟨b, i * 2 + 1, none⟩ v).cell? ⟨b, (i + 1) * 2 + 1, none⟩ = some x) ∧
    (∀ j, w.frozen? ⟨b, j, none⟩ = false) ∧ ∀ j, ((w.setCell ⟨b, i * 2, none⟩ u).setCell ⟨b, i * 2 + 1, none⟩ v).frozen? ⟨b, j, none⟩ = false := by
  obtain ⟨cs, h1, h2, _⟩ := h
  have y1 := heap_setCell_self (i := i * 2) h1 u
  have y2 := heap_setCell_self (i := i * 2 + 1) y1 v
  have ex : ∀ {a : Array Value} {k : Nat}, k < a.size → ∃ x, a[k]? = some x := fun h => ⟨_, Array.getElem?_eq_getElem h⟩
  refine ⟨?_, ?_, ?_, ?_, fun j => row_free h1 j, fun j => row_free y2 j⟩
  · simp only [World.cell?, h1]; exact ex (by omega)
  · simp only [World.cell?, h1]; exact ex (by omega)
  · simp only [World.cell?, y2]; exact ex (by simp; omega)
  · simp only [World.cell?, y2]; exact ex (by simp; omega)

set_option maxRecDepth 100000 in
set_option maxHeartbeats 1000000 in
theorem letterMat_pos (n i : Nat) (w : World) (hn : n ≤ 100) (hi : i + 1 < n) : Calls Try.prog 99 #[.int .i64 (n : Int), .int .i64 ((i : Int) + 1)] w (GivesM n (letPN i) w) := by
  have HU := Lib.hid (unit_any n w (by omega))
  unfold GivesM at HU
  have hiI : (i : Int) < (n : Int) := by omega
  have hjI : (i : Int) + 1 < (n : Int) := by omega
  have hi0 : (0 : Int) ≤ (i : Int) + 1 := by omega
  have hi1 : (0 : Int) < (i : Int) + 1 := by omega
  have hit : ((i : Int) + 1).toNat = i + 1 := by omega
  have hw1 : IntKind.i64.wrap ((i : Int) + 1 - 1) = (i : Int) := by rw [IntKind.wrap_i64]; omega
  have hw2 : IntKind.i64.wrap (i : Int) = (i : Int) := by rw [IntKind.wrap_i64]; omega
  have HE2 := Lib.hid (fun gx wx hr => entGen_any 0 [1, -1] (by decide) (by omega) (by simp) gx wx hr)
  have HE1 := Lib.hid (fun gx wx hr => entGen_any 1 [1] (by decide) (by omega) (by simp) gx wx hr)
  have HE0 := Lib.hid (fun gx wx hr => entGen_any 0 [1] (by decide) (by omega) (by simp) gx wx hr)
  go_enter Try.func99, Try.ntmps99
  go_wp2_with (fail)
  refine HU.out.mono ?_
  rintro e w1 ⟨g, rfl, hg, hm, hb⟩
  have HG := Lib.hid hg
  have HM := Lib.hid hm
  have r1 : w1.cell? ⟨g, i, none⟩ = some (.slice (some ⟨g + 1 + i, 0, none⟩) n n) ∧ True := ⟨hm.row (i := i) (by omega), trivial⟩
  have HB := Lib.hid hb
  have hgl := hm.lt
  clear hm hb hg
  go_upto_region 4 with fail
  go_cut [] from 17 to 32 (fun wx => Hid (MatC wx g n (updM (updM unitN i i (0, [1, -1])) i (i + 1) (1, [1])) ∧ Below w.heap.size w wx))
  case first =>
    have F1 : RowZ (w1.alloc (.cells #[.int .i64 1, .int .i64 (-1)] 3)).drew w1.heap.size [1, -1] := heap_alloc_new w1 _
    have F2 : RowZ ((w1.alloc (.cells #[.int .i64 1, .int .i64 (-1)] 3)).alloc (.cells #[.int .i64 1] 3)).drew w1.heap.size [1, -1] := (Below.heap_alloc _ _ _ (by simp)).trans (heap_alloc_new w1 _)
    have F3 : RowZ ((w1.alloc (.cells #[.int .i64 1] 3)).alloc (.cells #[.int .i64 1, .int .i64 (-1)] 3)).drew (w1.heap.size + 1) [1, -1] := rowz2 w1 _ [1, -1]
    have F2b : RowZ ((w1.alloc (.cells #[.int .i64 1, .int .i64 (-1)] 3)).alloc (.cells #[.int .i64 1] 3)).drew (w1.heap.size + 1) [1] := rowz2 w1 _ [1]
    have F3b : RowZ ((w1.alloc (.cells #[.int .i64 1] 3)).alloc (.cells #[.int .i64 1, .int .i64 (-1)] 3)).drew w1.heap.size [1] := (Below.heap_alloc _ _ _ (by simp)).trans (heap_alloc_new w1 _)
    have B1 : Below w1.heap.size w1 (w1.alloc (.cells #[.int .i64 1, .int .i64 (-1)] 3)).drew := ((Below.refl _ w1).alloc (Nat.le_refl _) _).drew
    have B2 : Below w1.heap.size w1 ((w1.alloc (.cells #[.int .i64 1, .int .i64 (-1)] 3)).alloc (.cells #[.int .i64 1] 3)).drew := (((Below.refl _ w1).alloc (Nat.le_refl _) _).alloc (by simp) _).drew
    have B3 : Below w1.heap.size w1 ((w1.alloc (.cells #[.int .i64 1] 3)).alloc (.cells #[.int .i64 1, .int .i64 (-1)] 3)).drew := (((Below.refl _ w1).alloc (Nat.le_refl _) _).alloc (by simp) _).drew
    have r1d : w1.drew.cell? ⟨g, i, none⟩ = some (.slice (some ⟨g + 1 + i, 0, none⟩) n n) ∧ True := r1
    have r2 := cell1_alloc (o := .cells #[.int .i64 1, .int .i64 (-1)] 3) r1
    have r3 := cell1_alloc (o := .cells #[.int .i64 1] 3) r1
    have r4 := cell1_alloc (o := .cells #[.int .i64 1] 3) r2
    have r5 := cell1_alloc (o := .cells #[.int .i64 1, .int .i64 (-1)] 3) r3
    have r2d : (w1.alloc (.cells #[.int .i64 1, .int .i64 (-1)] 3)).drew.cell? ⟨g, i, none⟩ = some (.slice (some ⟨g + 1 + i, 0, none⟩) n n) ∧ True := r2
    have r3d : (w1.alloc (.cells #[.int .i64 1] 3)).drew.cell? ⟨g, i, none⟩ = some (.slice (some ⟨g + 1 + i, 0, none⟩) n n) ∧ True := r3
    have r4d : ((w1.alloc (.cells #[.int .i64 1, .int .i64 (-1)] 3)).alloc (.cells #[.int .i64 1] 3)).drew.cell? ⟨g, i, none⟩ = some (.slice (some ⟨g + 1 + i, 0, none⟩) n n) ∧ True := r4
    have r5d : ((w1.alloc (.cells #[.int .i64 1] 3)).alloc (.cells #[.int .i64 1, .int .i64 (-1)] 3)).drew.cell? ⟨g, i, none⟩ = some (.slice (some ⟨g + 1 + i, 0, none⟩) n n) ∧ True := r5
    go_region_held3 (fun w' => w'.cell? ⟨g, i, none⟩ = some (.slice (some ⟨g + 1 + i, 0, none⟩) n n) ∧ True)
      (first | with_reducible assumption | with_reducible exact cell1_set (cell1_set K6 (by omega)) (by omega) | with_reducible exact cell1_set K6 (by omega))
      (first
        | (have _hx := hz5; go_at_call 116; refine (HE1.out _ _ (by first | with_reducible exact G1 | with_reducible exact G2 | with_reducible exact G3)).mono ?_; rintro e w6 ⟨a6, c6, rfl, hz6, hb6, hl6⟩; have hB6 : Below w1.heap.size w1 w6 := (by first | with_reducible exact G1b.trans (hb6.mono G1b.size) | with_reducible exact hB5.trans (hb6.mono hB5.size)); have hz56 : IntsT w6 a5 [1, -1] := (by first | with_reducible exact hz5.below hb6 | exact (hz5.below ((Below.refl _ w5).alloc (Nat.le_refl _) _)).below hb6); have K6 := cell1_below r1 hB6; have hm6 := HM.out.below hB6; obtain ⟨⟨x1, s1⟩, ⟨x2, s2⟩, ⟨x3, s3⟩, ⟨x4, s4⟩, s5, s6⟩ := pair_cells (hm6.2 i (by omega)) hi (.int .i64 0) (.slice a5 2 c5); have t1 := s5 (i * 2); have t2 := s5 (i * 2 + 1); have t3 := s6 ((i + 1) * 2); have t4 := s6 ((i + 1) * 2 + 1); have H6 := Lib.hid (And.intro hz6 (And.intro hB6 (And.intro hl6 hz56))); clear hm6 hb6 hl6 hz6 hz56 s5 s6)
        | (go_at_call 116; refine (HE2.out _ _ (by first | with_reducible exact F1 | with_reducible exact F2 | with_reducible exact F3)).mono ?_; rintro e w5 ⟨a5, c5, rfl, hz5, hb5, hl5⟩; have hB5 : Below w1.heap.size w1 w5 := (by first | with_reducible exact B1.trans (hb5.mono B1.size) | with_reducible exact B2.trans (hb5.mono B2.size) | with_reducible exact B3.trans (hb5.mono B3.size)); have K5 := cell1_below r1 hB5; have K5a := cell1_alloc (o := .cells #[.int .i64 1] 3) K5; have G1 : RowZ (w5.alloc (.cells #[.int .i64 1] 3)) w5.heap.size [1] := heap_alloc_new w5 _; have G1b : Below w1.heap.size w1 (w5.alloc (.cells #[.int .i64 1] 3)) := hB5.alloc hB5.size _; (try have G2 : RowZ w5 (w1.heap.size + 1) [1] := by with_reducible exact F2b.below hb5); (try have G3 : RowZ w5 w1.heap.size [1] := by with_reducible exact F3b.below hb5); have H5 := Lib.hid (And.intro hz5 (And.intro hB5 hl5)); clear hb5 hl5))
    all_goals
      go_wp2_with (fail)
      go_meet
      have hm6 := HM.out.below H6.out.2.1
      obtain ⟨cr, hcr, _⟩ := hm6.2 i (by omega)
      have y1 := heap_setCell_self (i := i * 2) hcr (.int .i64 0)
      have hp1 := hm6.put (q := (0, [1, -1])) (i := i) (j := i) (by omega) (by omega) H6.out.2.2.2 (show ([1, -1] : List Int).length ≤ c5 from H5.out.2.2)
      have hz6 := (H6.out.1.setCell (i := i * 2) (v := .int .i64 0) hcr (by decide)).setCell (i := i * 2 + 1) (v := .slice a5 2 c5) y1 (by decide)
      have hp2 := hp1.put (q := (1, [1])) (i := i) (j := i + 1) (by omega) (by omega) hz6 (show ([1] : List Int).length ≤ c6 from H6.out.2.2.1)
      have hgg := HG.out
      exact Lib.hid ⟨hp2, ((((HB.out.trans (H6.out.2.1.mono HB.out.size)).setCell (p := ⟨g + 1 + i, i * 2, none⟩) (by simp; omega) _).setCell (p := ⟨g + 1 + i, i * 2 + 1, none⟩) (by simp; omega) _).setCell (p := ⟨g + 1 + i, (i + 1) * 2, none⟩) (by simp; omega) _).setCell (p := ⟨g + 1 + i, (i + 1) * 2 + 1, none⟩) (by simp; omega) _⟩
  case rest =>
    have hmc := hcut.out.1
    have q1 : wc.cell? ⟨g, i + 1, none⟩ = some (.slice (some ⟨g + 1 + (i + 1), 0, none⟩) n n) ∧ True := ⟨hmc.row (i := i + 1) (by omega), trivial⟩
    have hgl2 := hmc.lt
    have HC := Lib.hid hcut.out
    clear hmc hcut r1 hgl HM HB
    have F1 : RowZ (wc.alloc (.cells #[.int .i64 1] 3)).drew wc.heap.size [1] := heap_alloc_new wc _
    have B1 : Below wc.heap.size wc (wc.alloc (.cells #[.int .i64 1] 3)).drew := ((Below.refl _ wc).alloc (Nat.le_refl _) _).drew
    have q1d : wc.drew.cell? ⟨g, i + 1, none⟩ = some (.slice (some ⟨g + 1 + (i + 1), 0, none⟩) n n) ∧ True := q1
    have q2 := cell1_alloc (o := .cells #[.int .i64 1] 3) q1
    have q2d : (wc.alloc (.cells #[.int .i64 1] 3)).drew.cell? ⟨g, i + 1, none⟩ = some (.slice (some ⟨g + 1 + (i + 1), 0, none⟩) n n) ∧ True := q2
    go_upto_region 5 with fail
    go_region_held3 (fun w' => w'.cell? ⟨g, i + 1, none⟩ = some (.slice (some ⟨g + 1 + (i + 1), 0, none⟩) n n) ∧ True)
      (first | with_reducible assumption | with_reducible exact cell1_set (cell1_set K6 (by omega)) (by omega) | with_reducible exact cell1_set K6 (by omega))
      ((go_at_call 116; refine (HE0.out _ _ (by with_reducible exact F1)).mono ?_; rintro e w6 ⟨a6, c6, rfl, hz6, hb6, hl6⟩; have hB6 : Below wc.heap.size wc w6 := B1.trans (hb6.mono B1.size); have K6 := cell1_below q1 hB6; have hm6 := HC.out.1.below hB6; obtain ⟨⟨x1, s1⟩, ⟨x2, s2⟩, ⟨x3, s3⟩, ⟨x4, s4⟩, s5, s6⟩ := pair_cells (hm6.2 (i + 1) (by omega)) hi (.int .i64 0) (.slice a6 1 c6); have t1 := s5 (i * 2); have t2 := s5 (i * 2 + 1); have t3 := s6 ((i + 1) * 2); have t4 := s6 ((i + 1) * 2 + 1); have H6 := Lib.hid (And.intro hz6 (And.intro hB6 hl6)); clear hm6 hb6 hl6 hz6 s5 s6))
    all_goals
      go_wp2_with (fail)
      go_ret
      have hm6 := HC.out.1.below H6.out.2.1
      have hp1 := hm6.put (q := (0, [1])) (i := i + 1) (j := i) (by omega) (by omega) H6.out.1 (show ([1] : List Int).length ≤ c6 from H6.out.2.2)
      have hp2 := hp1.put (q := (0, [])) (i := i + 1) (j := i + 1) (a := none) (c := 0) (by omega) (by omega) (.inl rfl) (Nat.le_refl _)
      have hgg := HG.out
      exact ⟨g, rfl, hgg, hp2, ((((HC.out.2.trans (H6.out.2.1.mono HC.out.2.size)).setCell (p := ⟨g + 1 + (i + 1), i * 2, none⟩) (by simp; omega) _).setCell (p := ⟨g + 1 + (i + 1), i * 2 + 1, none⟩) (by simp; omega) _).setCell (p := ⟨g + 1 + (i + 1), (i + 1) * 2, none⟩) (by simp; omega) _).setCell (p := ⟨g + 1 + (i + 1), (i + 1) * 2 + 1, none⟩) (by simp; omega) _⟩

end Go.Proofs.Ytbcggbmjbljnfaa
