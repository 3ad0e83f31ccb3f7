/-
  The walk of 'few'.
-/
import Derived.Test.YthlbedhjekbfpaaDoorRy
import Derived.Deep.CutRange
namespace Go.Proofs.YthlbedhjekbfpaaDoor
open Go.RowKit Go.Sort

def fewN (N : Int) : Int := if 8 < N ∧ N ≤ 12 then 8 else N
def fewE (es : List (Int × Int)) : List (Int × Int) := es.take 70
/-- What 'few' hands back. -/
def FewV (N : Int) (es : List (Int × Int)) (w : World) (e : Ending) (w' : World) : Prop := ∃ a' c', e = .returned (.agg #[.int .i64 (fewN N), .slice a' (fewE es).length c']) ∧ Edges w' a' (fewE es) ∧ Below w.heap.size w w'

/-- What every world of the region meets. -/
theorem few_alloc {B p : Nat} {N : Int} {v : Value} {W0 W : World} (h : W.cell? ⟨p, 0, none⟩ = some (.int .i64 N) ∧ W.cell? ⟨p, 1, none⟩ = some v ∧ Hid (Below B W0 W)) (hB : B = W0.heap.size) (o : Obj) :
    (W.alloc o).cell? ⟨p, 0, none⟩ = some (.int .i64 N) ∧ (W.alloc o).cell? ⟨p, 1, none⟩ = some v ∧ Hid (Below B W0 (W.alloc o)) := by
  obtain ⟨h1, h2, h3⟩ := h
  exact ⟨(World.cell?_alloc_past _ _ _ (World.block_lt_of_cell? W _ h1)).trans h1, (World.cell?_alloc_past _ _ _ (World.block_lt_of_cell? W _ h2)).trans h2, h3.out.alloc (by subst hB; exact h3.out.size) _⟩
theorem few_allocD {B p : Nat} {N : Int} {v : Value} {W0 W : World} (h : W.drew.cell? ⟨p, 0, none⟩ = some (.int .i64 N) ∧ W.drew.cell? ⟨p, 1, none⟩ = some v ∧ Hid (Below B W0 W.drew)) (hB : B = W0.heap.size) (o : Obj) :
    (W.alloc o).drew.cell? ⟨p, 0, none⟩ = some (.int .i64 N) ∧ (W.alloc o).drew.cell? ⟨p, 1, none⟩ = some v ∧ Hid (Below B W0 (W.alloc o).drew) := few_alloc (W := W.drew) h hB o
theorem blockA (W : World) (o : Obj) : (W.alloc o).drew.heap[W.heap.size]? = some o := heap_alloc_new W o
theorem blockB (W : World) (o1 o2 : Obj) : ((W.alloc o1).alloc o2).drew.heap[W.heap.size]? = some o1 := (Below.heap_alloc (W.alloc o1) o2 _ (by rw [sz_alloc]; omega)).trans (heap_alloc_new W o1)
theorem blockC (W : World) (o1 o2 : Obj) : ((W.alloc o1).alloc o2).drew.heap[W.heap.size + 1]? = some o2 := by
  have := heap_alloc_new (W.alloc o1) o2
  rwa [sz_alloc] at this
theorem few_realloc {B p : Nat} {N : Int} {v : Value} {W0 W : World} {o : Obj} (h : (W.alloc o).cell? ⟨p, 0, none⟩ = some (.int .i64 N) ∧ (W.alloc o).cell? ⟨p, 1, none⟩ = some v ∧ Hid (Below B W0 (W.alloc o))) (hB : B = W0.heap.size) (hp : p + 2 ≤ B) (hW : W0.heap.size ≤ W.heap.size) (o' : Obj) :
    (W.alloc o').cell? ⟨p, 0, none⟩ = some (.int .i64 N) ∧ (W.alloc o').cell? ⟨p, 1, none⟩ = some v ∧ Hid (Below B W0 (W.alloc o')) := by
  obtain ⟨h1, h2, h3⟩ := h
  have hs := h3.out.size
  rw [sz_alloc] at hs
  rw [World.cell?_alloc_past _ _ _ (by show p < _; omega)] at h1 h2
  refine ⟨(World.cell?_alloc_past _ _ _ (by show p < _; omega)).trans h1, (World.cell?_alloc_past _ _ _ (by show p < _; omega)).trans h2, Lib.hid ⟨h3.out.os, h3.out.tape, h3.out.output, by rw [sz_alloc]; exact hs, fun k hk => ?_⟩⟩
  have := h3.out.block k hk
  by_cases hkW : k < W.heap.size
  · rw [Below.heap_alloc _ _ _ hkW] at this ⊢
    exact this
  · omega
theorem few_set {B p H : Nat} {N : Int} {v : Value} {W0 W : World} (h : W.cell? ⟨p, 0, none⟩ = some (.int .i64 N) ∧ W.cell? ⟨p, 1, none⟩ = some v ∧ Hid (Below B W0 W)) (hH : B ≤ H) (hp : p < B) (i : Nat) (u : Value) :
    (W.setCell ⟨H, i, none⟩ u).cell? ⟨p, 0, none⟩ = some (.int .i64 N) ∧ (W.setCell ⟨H, i, none⟩ u).cell? ⟨p, 1, none⟩ = some v ∧ Hid (Below B W0 (W.setCell ⟨H, i, none⟩ u)) := by
  obtain ⟨h1, h2, h3⟩ := h
  exact ⟨(World.cell?_setCell_other _ _ _ _ (by intro e; simp only [Addr.mk.injEq] at e; omega)).trans h1, (World.cell?_setCell_other _ _ _ _ (by intro e; simp only [Addr.mk.injEq] at e; omega)).trans h2, h3.out.setCell hH _⟩
theorem few_grown {B p b : Nat} {N : Int} {v : Value} {W0 W w1 : World} (h : W.cell? ⟨p, 0, none⟩ = some (.int .i64 N) ∧ W.cell? ⟨p, 1, none⟩ = some v ∧ Hid (Below B W0 W)) (hg : W.grownBy w1 (some b)) (hB : B = W0.heap.size) (hb : B ≤ b) (hp : p < B) :
    w1.cell? ⟨p, 0, none⟩ = some (.int .i64 N) ∧ w1.cell? ⟨p, 1, none⟩ = some v ∧ Hid (Below B W0 w1) := by
  obtain ⟨h1, h2, h3⟩ := h
  exact ⟨hg.cell h1 (by simp; omega), hg.cell h2 (by simp; omega), h3.out.grown hg (by subst hB; exact h3.out.size) (fun k hk => by simp at hk; omega)⟩
theorem few_fact {W w1 : World} {b H : Nat} (hg : W.grownBy w1 (some b)) (hH : W.heap[H]? = some (.cells #[.int .i64 0, .slice none 0 0] 24 (0, 0))) (hne : H ≠ b) :
    w1.cell? ⟨H, 0, none⟩ = some (.int .i64 0) ∧ w1.cell? ⟨H, 1, none⟩ = some (.slice none 0 0) ∧ w1.frozen? ⟨H, 0, none⟩ = false ∧ w1.frozen? ⟨H, 1, none⟩ = false ∧ Hid (w1.heap[H]? = some (.cells #[.int .i64 0, .slice none 0 0] 24 (0, 0))) := by
  have h := (hg.block H (Array.getElem?_eq_some_iff.1 hH).1 (by simp; omega)).trans hH
  refine ⟨?_, ?_, ?_, ?_, Lib.hid h⟩ <;> simp [World.cell?, World.frozen?, h]
theorem few_src {B p : Nat} {N : Int} {v : Value} {W0 W : World} {ad : Option Addr} {r c : Nat} {L : List (Int × Int)} (h0 : Hid (SrcE W0 ad r c L)) (hB : B = W0.heap.size) (h : W.cell? ⟨p, 0, none⟩ = some (.int .i64 N) ∧ W.cell? ⟨p, 1, none⟩ = some v ∧ Hid (Below B W0 W)) : SrcE W ad r c L := by
  subst hB; exact h0.out.below h.2.2.out

/-- What is known behind the region. -/
def FewMid (w : World) (N : Int) (es : List (Int × Int)) (H : Nat) (a' : Option Addr) (r c' : Nat) (wx : World) : Prop :=
  wx.heap[H]? = some (.cells #[.int .i64 N, .slice a' r c'] 24 (0, 0)) ∧ Edges wx a' (fewE es) ∧ Below w.heap.size w wx ∧ wx.heap[w.heap.size + 1]? = some (.cells #[.int .i64 0, .slice none 0 0] 24 (0, 0)) ∧ w.heap.size + 2 ≤ H
theorem few_endA {w W0 w1 : World} {N : Int} {es : List (Int × Int)} {a' : Option Addr} {r c' B p : Nat} {v : Value} (hs : w.heap.size + 2 ≤ W0.heap.size) (HB0 : Hid (Below w.heap.size w W0)) (HY : Hid (W0.heap[w.heap.size + 1]? = some (.cells #[.int .i64 0, .slice none 0 0] 24 (0, 0))))
    (hS : (w1.alloc (.cells #[.int .i64 N, .slice a' r c'] 24)).cell? ⟨p, 0, none⟩ = some (.int .i64 N) ∧ (w1.alloc (.cells #[.int .i64 N, .slice a' r c'] 24)).cell? ⟨p, 1, none⟩ = some v ∧ Hid (Below W0.heap.size W0 (w1.alloc (.cells #[.int .i64 N, .slice a' r c'] 24))))
    (hw1 : W0.heap.size ≤ w1.heap.size) (hown : w1.ownsRow B 40 2 (.slice a' r c') r (prCells (fewE es))) : FewMid w N es w1.heap.size a' r c' (w1.alloc (.cells #[.int .i64 N, .slice a' r c'] 24)) :=
  ⟨heap_alloc_new w1 _, Edges.of_owns (hown.alloc _), HB0.out.trans (hS.2.2.out.mono HB0.out.size), (hS.2.2.out.block (w.heap.size + 1) (by omega)).trans HY.out, by omega⟩
theorem few_endB {w W0 w1 : World} {N : Int} {es : List (Int × Int)} {a' : Option Addr} {r c' B p H : Nat} {v : Value} (hs : w.heap.size + 2 ≤ W0.heap.size) (HB0 : Hid (Below w.heap.size w W0)) (HY : Hid (W0.heap[w.heap.size + 1]? = some (.cells #[.int .i64 0, .slice none 0 0] 24 (0, 0))))
    (hS : ((w1.setCell ⟨H, 0, none⟩ (.int .i64 N)).setCell ⟨H, 1, none⟩ (.slice a' r c')).cell? ⟨p, 0, none⟩ = some (.int .i64 N) ∧ ((w1.setCell ⟨H, 0, none⟩ (.int .i64 N)).setCell ⟨H, 1, none⟩ (.slice a' r c')).cell? ⟨p, 1, none⟩ = some v ∧ Hid (Below W0.heap.size W0 ((w1.setCell ⟨H, 0, none⟩ (.int .i64 N)).setCell ⟨H, 1, none⟩ (.slice a' r c'))))
    (f4 : Hid (w1.heap[H]? = some (.cells #[.int .i64 0, .slice none 0 0] 24 (0, 0)))) (hH : W0.heap.size ≤ H) (hown : w1.ownsRow B 40 2 (.slice a' r c') r (prCells (fewE es))) : FewMid w N es H a' r c' ((w1.setCell ⟨H, 0, none⟩ (.int .i64 N)).setCell ⟨H, 1, none⟩ (.slice a' r c')) := by
  have h1 := heap_setCell_self f4.out (i := 0) (.int .i64 N)
  have h2 := heap_setCell_self h1 (i := 1) (.slice a' r c')
  have hne := row_ne f4.out hown (by decide)
  have o1 := ownsRow_set_ne hown (p := ⟨H, 0, none⟩) hne (.int .i64 N)
  have o2 := ownsRow_set_ne o1 (p := ⟨H, 1, none⟩) hne (.slice a' r c')
  exact ⟨h2, Edges.of_owns o2, HB0.out.trans (hS.2.2.out.mono HB0.out.size), (hS.2.2.out.block (w.heap.size + 1) (by omega)).trans HY.out, by omega⟩
theorem edges_set {W : World} {a : Option Addr} {es : List (Int × Int)} {H n c : Nat} {x : Int} {s : Option Addr} {t : TypeId} (h : Edges W a es) (hH : W.heap[H]? = some (.cells #[.int .i64 x, .slice s n c] t (0, 0))) (i : Nat) (u : Value) : Edges (W.setCell ⟨H, i, none⟩ u) a es := by
  rcases h with h | ⟨b, off, rfl, hc⟩
  · exact .inl h
  · refine .inr ⟨b, off, rfl, fun i hi => ?_⟩
    obtain ⟨c0, c1⟩ := hc i hi
    by_cases e : b = H
    · subst e
      exfalso
      have hh : off + i * 2 = 0 ∨ off + i * 2 = 1 ∨ 2 ≤ off + i * 2 := by omega
      have d0 := c0
      have d1 := c1
      simp only [World.cell?, hH] at d0 d1
      rcases hh with e | e | e
      · rw [e] at d0 d1; simp at d1
      · rw [e] at d0; simp at d0
      · rw [Array.getElem?_eq_none (by simp; omega)] at d0; simp at d0
    · exact ⟨(World.cell?_setCell_other _ _ _ _ (by intro e'; simp only [Addr.mk.injEq] at e'; exact e e'.1.symm)).trans c0, (World.cell?_setCell_other _ _ _ _ (by intro e'; simp only [Addr.mk.injEq] at e'; exact e e'.1.symm)).trans c1⟩
theorem few_last {w wx : World} {N M : Int} {es : List (Int × Int)} {H : Nat} {a' : Option Addr} {r c' : Nat} (h : FewMid w N es H a' r c' wx) : FewMid w M es H a' r c' (wx.setCell ⟨H, 0, none⟩ (.int .i64 M)) := by
  obtain ⟨h1, h2, h3, h4, h5⟩ := h
  exact ⟨heap_setCell_self h1 _, edges_set h2 h1 _ _, h3.setCell (by show w.heap.size ≤ H; omega) _, (Below.heap_setCell wx _ _ _ (by show w.heap.size + 1 ≠ H; omega)).trans h4, h5⟩
theorem few_ret {w wx : World} {N : Int} {es : List (Int × Int)} {H : Nat} {a' : Option Addr} {r c' : Nat} (h : FewMid w N es H a' r c' wx) :
    ((wx.setCell ⟨w.heap.size + 1, 0, none⟩ (.int .i64 N)).setCell ⟨w.heap.size + 1, 1, none⟩ (.slice a' r c')).heap[w.heap.size + 1]? = some (.cells #[.int .i64 N, .slice a' r c'] 24 (0, 0)) ∧
      Edges ((wx.setCell ⟨w.heap.size + 1, 0, none⟩ (.int .i64 N)).setCell ⟨w.heap.size + 1, 1, none⟩ (.slice a' r c')) a' (fewE es) ∧ Below w.heap.size w ((wx.setCell ⟨w.heap.size + 1, 0, none⟩ (.int .i64 N)).setCell ⟨w.heap.size + 1, 1, none⟩ (.slice a' r c')) := by
  obtain ⟨h1, h2, h3, h4, h5⟩ := h
  have q1 : (wx.setCell ⟨w.heap.size + 1, 0, none⟩ (.int .i64 N)).heap[w.heap.size + 1]? = some (.cells #[.int .i64 N, .slice none 0 0] 24 (0, 0)) := heap_setCell_self h4 _
  exact ⟨heap_setCell_self q1 _, edges_set (edges_set h2 h4 _ _) q1 _ _, (h3.setCell (by show w.heap.size ≤ w.heap.size + 1; omega) _).setCell (by show w.heap.size ≤ w.heap.size + 1; omega) _⟩

set_option maxRecDepth 100000 in
set_option maxHeartbeats 4000000 in
theorem few_any (N : Int) (a : Option Addr) (m cap : Nat) (es : List (Int × Int)) (w : World) (hl : es.length = m) (hm : m ≤ 9223372036854775807) (hcap : m ≤ cap) (hnone : a = none → cap = 0) (he : Edges w a es) :
    Calls Tryd.prog 7 #[.agg #[.int .i64 N, .slice a m cap]] w (FewV N es w) := by
  obtain ⟨r, hr1, hr2, hr3, hmin⟩ : ∃ r : Nat, r ≤ m ∧ r ≤ 70 ∧ (fewE es).length = r ∧ min (m : Int) 70 = (r : Int) := by
    refine ⟨min m 70, by omega, by omega, by rw [fewE, List.length_take, hl]; omega, by omega⟩
  obtain ⟨W0, hW0⟩ : ∃ W0, (w.alloc (.cells #[.int .i64 N, .slice a m cap] 24)).alloc (.cells #[.int .i64 0, .slice none 0 0] 24) = W0 := ⟨_, rfl⟩
  have hs0 : w.heap.size + 2 ≤ W0.heap.size := by rw [← hW0]; simp
  have hb0 : Below w.heap.size w W0 := by rw [← hW0]; exact ((Below.refl _ w).alloc (Nat.le_refl _) _).alloc (by simp) _
  have c0 : W0.cell? ⟨w.heap.size, 0, none⟩ = some (.int .i64 N) := by rw [← hW0]; simp
  have c1 : W0.cell? ⟨w.heap.size, 1, none⟩ = some (.slice a m cap) := by rw [← hW0]; simp
  have y0 : W0.heap[w.heap.size + 1]? = some (.cells #[.int .i64 0, .slice none 0 0] 24 (0, 0)) := by
    rw [← hW0]
    have := heap_alloc_new (w.alloc (.cells #[.int .i64 N, .slice a m cap] 24)) (.cells #[.int .i64 0, .slice none 0 0] 24)
    rwa [sz_alloc] at this
  have he0 := he.below hb0
  have HSRC : Hid (SrcE W0 a r cap (fewE es)) := Lib.hid (by
    rcases he0 with rfl | ⟨b, off, rfl, hc⟩
    · have hr0 : r = 0 := by simp at hl; omega
      have hfe : fewE [] = [] := rfl
      cases a with
      | none => exact ⟨hr3, .inl ⟨rfl, hr0, hnone rfl⟩⟩
      | some ad => exact ⟨hr3, .inr ⟨ad, rfl, fun j u hj => by rw [hfe] at hj; simp [prCells] at hj⟩⟩
    · refine SrcE.of_edges hr3 fun i hi => ?_
      have e : (fewE es)[i]?.getD (0, 0) = es[i]?.getD (0, 0) := by rw [fewE, List.getElem?_take, if_pos (by omega)]
      rw [e]
      exact hc i (by omega))
  have hrc : (r : Int) ≤ (cap : Int) := by omega
  have HB0 := Lib.hid hb0
  have HY := Lib.hid y0
  have HR3 := Lib.hid hr3
  have HL := Lib.hid hl
  clear he he0 hb0 y0 hr3 hl hnone
  go_enter Tryd.func7, Tryd.ntmps7
  go_wp2
  try rw [hW0]
  have HW0 := Lib.hid hW0
  clear hW0
  go_cut [3] from 4 to 25 (fun v3 wx => ∃ (H : Nat) (a' : Option Addr) (c' : Nat), v3 = .pointer (some ⟨H, 0, none⟩) ∧ Hid (FewMid w N es H a' r c' wx))
  case first =>
    go_region_held3 (fun w' => w'.cell? ⟨w.heap.size, 0, none⟩ = some (.int .i64 N) ∧ w'.cell? ⟨w.heap.size, 1, none⟩ = some (.slice a m cap) ∧ Hid (Below W0.heap.size W0 w'))
      (first
        | assumption
        | exact ⟨c0, c1, Lib.hid ((Below.refl _ W0).drew)⟩
        | exact few_allocD (by assumption) rfl _
        | exact few_alloc (by assumption) rfl _
        | exact few_realloc (by assumption) rfl (by omega) (by have := hg.size; simp at this; omega) _
        | exact few_set (few_set (by assumption) (by omega) (by omega) _ _) (by omega) (by omega) _ _
        | exact few_set (few_set (few_alloc (by assumption) rfl _) (by omega) (by omega) _ _) (by omega) (by omega) _ _
        | exact few_grown (by assumption) hg rfl (by omega) (by omega))
      (first
        | (refine step_app_pairs rfl (.tmp 6) (.tmp 13) rfl W0.heap.size (by simp [Act.eval]) (by first | exact blockA _ _ | exact blockB _ _ _) a r cap (fewE es) (by simp [Act.eval]) (few_src HSRC rfl (by assumption)) (by omega) ?_; intro a' c' w1 hown hg; (try obtain ⟨f0, f1, f2, f3, f4⟩ := few_fact (H := W0.heap.size + 1) hg (blockC _ _ _) (by omega)))
        | (refine step_app_pairs rfl (.tmp 6) (.tmp 13) rfl (W0.heap.size + 1) (by simp [Act.eval]) (blockC _ _ _) a r cap (fewE es) (by simp [Act.eval]) (few_src HSRC rfl (by assumption)) (by omega) ?_; intro a' c' w1 hown hg; (try obtain ⟨f0, f1, f2, f3, f4⟩ := few_fact (H := W0.heap.size) hg (blockB _ _ _) (by omega))))
    all_goals
      go_wp2_with fail
      go_meet
      first
        | exact ⟨_, _, _, rfl, Lib.hid (few_endA hs0 HB0 HY (by assumption) (by have := hg.size; simp at this; omega) hown)⟩
        | exact ⟨_, _, _, rfl, Lib.hid (few_endB hs0 HB0 HY (by assumption) f4 (by omega) hown)⟩
  case rest =>
    obtain ⟨H, a', c', rfl, HM⟩ := hcut
    clear c0 c1
    have hHs := HM.out.2.2.2.2
    have d0 : wc.cell? ⟨H, 0, none⟩ = some (.int .i64 N) := by simp [World.cell?, HM.out.1]
    have d1 : wc.cell? ⟨H, 1, none⟩ = some (.slice a' r c') := by simp [World.cell?, HM.out.1]
    have d2 : wc.frozen? ⟨H, 0, none⟩ = false := row_free HM.out.1 0
    have z0 : wc.cell? ⟨w.heap.size + 1, 0, none⟩ = some (.int .i64 0) := by simp [World.cell?, HM.out.2.2.2.1]
    have z1 : wc.cell? ⟨w.heap.size + 1, 1, none⟩ = some (.slice none 0 0) := by simp [World.cell?, HM.out.2.2.2.1]
    have z2 : wc.frozen? ⟨w.heap.size + 1, 0, none⟩ = false := row_free HM.out.2.2.2.1 0
    have z3 : wc.frozen? ⟨w.heap.size + 1, 1, none⟩ = false := row_free HM.out.2.2.2.1 1
    have HR3' : Hid (r = (fewE es).length) := Lib.hid HR3.out.symm
    by_cases h8 : 8 < N
    · by_cases h12 : N ≤ 12
      · have HN : Hid (fewN N = 8) := Lib.hid (by rw [fewN, if_pos ⟨h8, h12⟩])
        go_wp2
        obtain ⟨r1, r2, r3⟩ := few_ret (few_last (M := 8) HM.out)
        refine bodyPost_ret_by (results_cell_row (P := Tryd.prog) rfl _ _ (w.heap.size + 1) 24 #[.int .i64 8, .slice a' r c'] (0, 0) _ rfl r1 Tryd.underlying24 rfl (by kernel_rfl)) rfl ?_
        exact ⟨a', c', by rw [HN.out, ← HR3'.out], r2, r3⟩
      · have HN : Hid (fewN N = N) := Lib.hid (by rw [fewN, if_neg (by omega)])
        go_wp2
        obtain ⟨r1, r2, r3⟩ := few_ret HM.out
        refine bodyPost_ret_by (results_cell_row (P := Tryd.prog) rfl _ _ (w.heap.size + 1) 24 #[.int .i64 N, .slice a' r c'] (0, 0) _ rfl r1 Tryd.underlying24 rfl (by kernel_rfl)) rfl ?_
        exact ⟨a', c', by rw [HN.out, ← HR3'.out], r2, r3⟩
    · have HN : Hid (fewN N = N) := Lib.hid (by rw [fewN, if_neg (by omega)])
      go_wp2
      obtain ⟨r1, r2, r3⟩ := few_ret HM.out
      refine bodyPost_ret_by (results_cell_row (P := Tryd.prog) rfl _ _ (w.heap.size + 1) 24 #[.int .i64 N, .slice a' r c'] (0, 0) _ rfl r1 Tryd.underlying24 rfl (by kernel_rfl)) rfl ?_
      exact ⟨a', c', by rw [HN.out, ← HR3'.out], r2, r3⟩

end Go.Proofs.YthlbedhjekbfpaaDoor
