/-
  Pairs as cells.
-/
import Derived.Test.YteckeobhlfddlaaRu
import Derived.Deep.RegionHeld3
import Derived.Laws.AppendOwnNone
import Derived.Deep.CutRange
namespace Go.Proofs.Yteckeobhlfddlaa.Rib

section
open Go.RowKit Go.Sort

theorem Try.infoPair : (Try.prog.info? 31).map (fun i => (i.zero, i.size, i.bytes)) = some (some (.agg #[.int .i64 0, .int .i64 0]), 2, 16) := by kernel_rfl
/-- The cells of some edges. -/
def prCells (es : List (Int × Int)) : List Value := es.flatMap fun e => [.int .i64 e.1, .int .i64 e.2]
theorem prCells_length (es : List (Int × Int)) : (prCells es).length = es.length * 2 := by
  induction es with
  | nil => rfl
  | cons e es ih => simp only [prCells, List.flatMap_cons, List.length_append, List.length_cons, List.length_nil] at ih ⊢; omega
theorem prCells_get (es : List (Int × Int)) : ∀ (i : Nat), i < es.length → (prCells es)[i * 2]? = some (.int .i64 (es[i]?.getD (0, 0)).1) ∧ (prCells es)[i * 2 + 1]? = some (.int .i64 (es[i]?.getD (0, 0)).2) := by
  induction es with
  | nil => intro i hi; simp at hi
  | cons e es ih =>
    intro i hi
    have hc : prCells (e :: es) = .int .i64 e.1 :: .int .i64 e.2 :: prCells es := rfl
    rw [hc]
    cases i with
    | zero => simp
    | succ i =>
      have h := ih i (by simpa using hi)
      rw [show (i + 1) * 2 = i * 2 + 1 + 1 by omega, show i * 2 + 1 + 1 + 1 = (i * 2 + 1) + 1 + 1 by omega]
      simp only [List.getElem?_cons_succ]
      exact h
theorem prCells_one (es : List (Int × Int)) : ∀ v ∈ prCells es, v.oneCell' = true := by
  intro v hv
  simp only [prCells, List.mem_flatMap] at hv
  obtain ⟨f, _, hf⟩ := hv
  rcases List.mem_cons.1 hf with rfl | hf
  · rfl
  · rcases List.mem_cons.1 hf with rfl | hf
    · rfl
    · cases hf
theorem Edges.of_owns {w : World} {base n cap : Nat} {a : Option Addr} {es : List (Int × Int)} (h : w.ownsRow base 31 2 (.slice a n cap) n (prCells es)) : Edges w a es := by
  have hn : es.length = n := by have := h.1; rw [prCells_length] at this; omega
  rcases h.2 with ⟨_, h0⟩ | ⟨g, cap', cur, e, _⟩
  · exact .inl (List.eq_nil_of_length_eq_zero (by omega))
  · cases e
    refine .inr ⟨g, 0, rfl, fun i hi => ?_⟩
    have hp := prCells_get es i hi
    have e0 := h.cellAt (i * 2) (by omega)
    have e1 := h.cellAt (i * 2 + 1) (by omega)
    rw [hp.1] at e0
    rw [hp.2] at e1
    rw [Nat.zero_add]
    exact ⟨e0, e1⟩

/-- Where some edges can be read from. -/
def SrcE (W : World) (ad : Option Addr) (r c : Nat) (L : List (Int × Int)) : Prop := L.length = r ∧ ((ad = none ∧ r = 0 ∧ c = 0) ∨ ∃ q, ad = some q ∧ ∀ j u, (prCells L)[j]? = some u → W.cell? (q.add j) = some u)
theorem SrcE.below {W0 W : World} {ad : Option Addr} {r c : Nat} {L : List (Int × Int)} (h : SrcE W0 ad r c L) (hb : Below W0.heap.size W0 W) : SrcE W ad r c L := by
  refine ⟨h.1, h.2.imp id ?_⟩
  rintro ⟨q, rfl, hc⟩
  exact ⟨q, rfl, fun j u hj => (hb.cell (World.block_lt_of_cell? W0 _ (hc j u hj))).trans (hc j u hj)⟩
theorem SrcE.of_edges {W : World} {b off r c : Nat} {L : List (Int × Int)} (hl : L.length = r) (hc : ∀ i, i < r → W.cell? ⟨b, off + i * 2, none⟩ = some (.int .i64 (L[i]?.getD (0, 0)).1) ∧ W.cell? ⟨b, off + i * 2 + 1, none⟩ = some (.int .i64 (L[i]?.getD (0, 0)).2)) : SrcE W (some ⟨b, off, none⟩) r c L := by
  refine ⟨hl, .inr ⟨_, rfl, fun j u hj => ?_⟩⟩
  have hjl : j < (prCells L).length := (List.getElem?_eq_some_iff.1 hj).1
  rw [prCells_length, hl] at hjl
  have hadd : (⟨b, off, none⟩ : Addr).add j = ⟨b, off + j, none⟩ := by unfold Addr.add; split <;> simp_all
  rw [hadd]
  have hi2 : j / 2 < r := by omega
  have hp := prCells_get L (j / 2) (by omega)
  have hcc := hc (j / 2) hi2
  rcases Nat.mod_two_eq_zero_or_one j with hm | hm
  · have e : j = j / 2 * 2 := by omega
    rw [e] at hj ⊢
    rw [hp.1] at hj
    rw [hcc.1, hj]
  · have e : j = j / 2 * 2 + 1 := by omega
    rw [e] at hj ⊢
    rw [hp.2] at hj
    rw [← Nat.add_assoc, hcc.2, hj]

/-- 'append([]api.Pair{}, x...)' in a region that draws. -/
theorem step_app_pairs {W : World} {ops : Array Oper} {o : Oper} {a : Act} {K : Act → World → Prop} {Q : Exit → Act → World → Prop} {E : Prop} (hgd : o.guard = none) (s x : Operand)
    (ho : o.op = .call { callee := .builtin .append, args := #[s, x], argTypes := #[27, 27] }) (B : Nat) (hs : a.eval s = .slice (some ⟨B, 0, none⟩) 0 0) (hB : W.heap[B]? = some (.cells #[] 31 (0, 0)))
    (ad : Option Addr) (r c : Nat) (L : List (Int × Int)) (hx : a.eval x = .slice ad r c) (hsrc : SrcE W ad r c L) (hn : r ≤ 1000)
    (h : ∀ (a' : Option Addr) (c' : Nat) (w' : World), w'.ownsRow B 31 2 (.slice a' r c') r (prCells L) → W.grownBy w' (some B) → K (a.put o.dst (.slice a' r c')) w') :
    if Region.wanted o (yielded ops a.tmps) = true then Oper.wp Try.prog o a W K Q else E := by
  have hw : Region.wanted o (yielded ops a.tmps) = true := by simp [Region.wanted, hgd]
  rw [if_pos hw]
  obtain ⟨i0, hi, hz0, hz1, hz2⟩ := info_parts Try.infoPair
  have hBlt : B < W.heap.size := (Array.getElem?_eq_some_iff.1 hB).1
  have hown : W.ownsRow B 31 2 (.slice (some ⟨B, 0, none⟩) 0 0) 0 [] := ⟨rfl, .inr ⟨B, 0, #[], rfl, Nat.le_refl _, hB, Nat.le_refl _, by unfold maxLen; omega, rfl, rfl⟩⟩
  obtain ⟨hl, hsrc⟩ := hsrc
  rcases hsrc with ⟨rfl, rfl, rfl⟩ | ⟨q, rfl, hc⟩
  · obtain rfl := List.eq_nil_of_length_eq_zero hl
    have hrun := run_append_owned_none (P := Try.prog) (w := W) B 27 o.type 31 i0 2 Try.underlying27 hi (.slice (some ⟨B, 0, none⟩) 0 0) 0 [] hown
    unfold Oper.wp
    simp [execOp, ho, resolve, invoke, builtin, hs, hx, hrun, Result.andThen]
    exact h _ _ W hown ⟨rfl, rfl, rfl, Nat.le_refl _, fun _ _ _ => rfl⟩
  · obtain ⟨v', w', hrun, hown', hg, _, _⟩ := run_append_own_at (P := Try.prog) W B 27 o.type 31 i0 (.agg #[.int .i64 0, .int .i64 0]) 2 16 Try.underlying27 hi hz0 hz1 hz2 rfl (by decide) (.slice (some ⟨B, 0, none⟩) 0 0) 0 [] hown q r c (prCells L) (by rw [prCells_length, hl]) hc (prCells_one L) (by unfold maxLen; omega) (by omega) (by omega)
    obtain ⟨a', c', rfl⟩ := ownsRow_slice hown'
    unfold Oper.wp
    simp only [Nat.zero_add, List.nil_append] at hown' hrun
    simp [execOp, ho, resolve, invoke, builtin, hs, hx, hrun, Result.andThen]
    exact h a' c' w' hown' hg
end

section
open Go.RowKit Go.Sort

def fewN (N : Int) : Int := if 8 < N ∧ N ≤ 12 then 8 else N
def fewE (es : List (Int × Int)) : List (Int × Int) := es.take 70
/-- What 'few' hands back. -/
def FewV (N : Int) (es : List (Int × Int)) (w : World) (e : Ending) (w' : World) : Prop := ∃ a' c', e = .returned (.agg #[.int .i64 (fewN N), .slice a' (fewE es).length c']) ∧ Edges w' a' (fewE es) ∧ Below w.heap.size w w'

/-- What every world of the region meets. -/
theorem few_alloc {B p : Nat} {N : Int} {v : Value} {W0 W : World} (h : W.cell? ⟨p, 0, none⟩ = some (.int .i64 N) ∧ W.cell? ⟨p, 1, none⟩ = some v ∧ Hid (Below B W0 W)) (hB : B = W0.heap.size) (o : Obj) :
    (W.alloc o).cell? ⟨p, 0, none⟩ = some (.int .i64 N) ∧ (W.alloc o).cell? ⟨p, 1, none⟩ = some v ∧ Hid (Below B W0 (W.alloc o)) := by
  obtain ⟨h1, h2, h3⟩ := h
  exact ⟨(World.cell?_alloc_past _ _ _ (World.block_lt_of_cell? W _ h1)).trans h1, (World.cell?_alloc_past _ _ _ (World.block_lt_of_cell? W _ h2)).trans h2, h3.out.alloc (by subst hB; exact h3.out.size) _⟩
theorem few_allocD {B p : Nat} {N : Int} {v : Value} {W0 W : World} (h : W.drew.cell? ⟨p, 0, none⟩ = some (.int .i64 N) ∧ W.drew.cell? ⟨p, 1, none⟩ = some v ∧ Hid (Below B W0 W.drew)) (hB : B = W0.heap.size) (o : Obj) :
    (W.alloc o).drew.cell? ⟨p, 0, none⟩ = some (.int .i64 N) ∧ (W.alloc o).drew.cell? ⟨p, 1, none⟩ = some v ∧ Hid (Below B W0 (W.alloc o).drew) := few_alloc (W := W.drew) h hB o
theorem blockA (W : World) (o : Obj) : (W.alloc o).drew.heap[W.heap.size]? = some o := heap_alloc_new W o
theorem blockB (W : World) (o1 o2 : Obj) : ((W.alloc o1).alloc o2).drew.heap[W.heap.size]? = some o1 := (Below.heap_alloc (W.alloc o1) o2 _ (by rw [sz_alloc]; omega)).trans (heap_alloc_new W o1)
theorem blockC (W : World) (o1 o2 : Obj) : ((W.alloc o1).alloc o2).drew.heap[W.heap.size + 1]? = some o2 := by
  have := heap_alloc_new (W.alloc o1) o2
  rwa [sz_alloc] at this
theorem few_realloc {B p : Nat} {N : Int} {v : Value} {W0 W : World} {o : Obj} (h : (W.alloc o).cell? ⟨p, 0, none⟩ = some (.int .i64 N) ∧ (W.alloc o).cell? ⟨p, 1, none⟩ = some v ∧ Hid (Below B W0 (W.alloc o))) (hB : B = W0.heap.size) (hp : p + 2 ≤ B) (hW : W0.heap.size ≤ W.heap.size) (o' : Obj) :
    (W.alloc o').cell? ⟨p, 0, none⟩ = some (.int .i64 N) ∧ (W.alloc o').cell? ⟨p, 1, none⟩ = some v ∧ Hid (Below B W0 (W.alloc o')) := by
  obtain ⟨h1, h2, h3⟩ := h
  have hs := h3.out.size
  rw [sz_alloc] at hs
  rw [World.cell?_alloc_past _ _ _ (by show p < _; omega)] at h1 h2
  refine ⟨(World.cell?_alloc_past _ _ _ (by show p < _; omega)).trans h1, (World.cell?_alloc_past _ _ _ (by show p < _; omega)).trans h2, Lib.hid ⟨h3.out.os, h3.out.tape, h3.out.output, by rw [sz_alloc]; exact hs, fun k hk => ?_⟩⟩
  have := h3.out.block k hk
  by_cases hkW : k < W.heap.size
  · rw [Below.heap_alloc _ _ _ hkW] at this ⊢
    exact this
  · omega
theorem few_set {B p H : Nat} {N : Int} {v : Value} {W0 W : World} (h : W.cell? ⟨p, 0, none⟩ = some (.int .i64 N) ∧ W.cell? ⟨p, 1, none⟩ = some v ∧ Hid (Below B W0 W)) (hH : B ≤ H) (hp : p < B) (i : Nat) (u : Value) :
    (W.setCell ⟨H, i, none⟩ u).cell? ⟨p, 0, none⟩ = some (.int .i64 N) ∧ (W.setCell ⟨H, i, none⟩ u).cell? ⟨p, 1, none⟩ = some v ∧ Hid (Below B W0 (W.setCell ⟨H, i, none⟩ u)) := by
  obtain ⟨h1, h2, h3⟩ := h
  exact ⟨(World.cell?_setCell_other _ _ _ _ (by intro e; simp only [Addr.mk.injEq] at e; omega)).trans h1, (World.cell?_setCell_other _ _ _ _ (by intro e; simp only [Addr.mk.injEq] at e; omega)).trans h2, h3.out.setCell hH _⟩
theorem few_grown {B p b : Nat} {N : Int} {v : Value} {W0 W w1 : World} (h : W.cell? ⟨p, 0, none⟩ = some (.int .i64 N) ∧ W.cell? ⟨p, 1, none⟩ = some v ∧ Hid (Below B W0 W)) (hg : W.grownBy w1 (some b)) (hB : B = W0.heap.size) (hb : B ≤ b) (hp : p < B) :
    w1.cell? ⟨p, 0, none⟩ = some (.int .i64 N) ∧ w1.cell? ⟨p, 1, none⟩ = some v ∧ Hid (Below B W0 w1) := by
  obtain ⟨h1, h2, h3⟩ := h
  exact ⟨hg.cell h1 (by simp; omega), hg.cell h2 (by simp; omega), h3.out.grown hg (by subst hB; exact h3.out.size) (fun k hk => by simp at hk; omega)⟩
theorem few_src {B p : Nat} {N : Int} {v : Value} {W0 W : World} {ad : Option Addr} {r c : Nat} {L : List (Int × Int)} (h0 : Hid (SrcE W0 ad r c L)) (hB : B = W0.heap.size) (h : W.cell? ⟨p, 0, none⟩ = some (.int .i64 N) ∧ W.cell? ⟨p, 1, none⟩ = some v ∧ Hid (Below B W0 W)) : SrcE W ad r c L := by
  subst hB; exact h0.out.below h.2.2.out

theorem edges_set {W : World} {a : Option Addr} {es : List (Int × Int)} {H n c : Nat} {x : Int} {s : Option Addr} {t : TypeId} (h : Edges W a es) (hH : W.heap[H]? = some (.cells #[.int .i64 x, .slice s n c] t (0, 0))) (i : Nat) (u : Value) : Edges (W.setCell ⟨H, i, none⟩ u) a es := by
  rcases h with h | ⟨b, off, rfl, hc⟩
  · exact .inl h
  · refine .inr ⟨b, off, rfl, fun i hi => ?_⟩
    obtain ⟨c0, c1⟩ := hc i hi
    by_cases e : b = H
    · subst e
      exfalso
      have hh : off + i * 2 = 0 ∨ off + i * 2 = 1 ∨ 2 ≤ off + i * 2 := by omega
      have d0 := c0
      have d1 := c1
      simp only [World.cell?, hH] at d0 d1
      rcases hh with e | e | e
      · rw [e] at d0 d1; simp at d1
      · rw [e] at d0; simp at d0
      · rw [Array.getElem?_eq_none (by simp; omega)] at d0; simp at d0
    · exact ⟨(World.cell?_setCell_other _ _ _ _ (by intro e'; simp only [Addr.mk.injEq] at e'; exact e e'.1.symm)).trans c0, (World.cell?_setCell_other _ _ _ _ (by intro e'; simp only [Addr.mk.injEq] at e'; exact e e'.1.symm)).trans c1⟩
end

end Go.Proofs.Yteckeobhlfddlaa.Rib
