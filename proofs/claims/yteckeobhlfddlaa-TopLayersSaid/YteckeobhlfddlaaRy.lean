/-
  Pairs as cells.
-/
import Derived.Test.YteckeobhlfddlaaRu
import Derived.Deep.RegionHeld3
import Derived.Laws.AppendOwnNone
import Derived.Deep.CutRange
import Derived.Lib.SmallJoins
import Derived.Deep.SlicePairs
import Derived.Carry
namespace Go.Proofs.Yteckeobhlfddlaa.Rib

section
open Go.RowKit Go.Sort

theorem Try.infoPair : (Try.prog.info? 31).map (fun i => (i.zero, i.size, i.bytes)) = some (some (.agg #[.int .i64 0, .int .i64 0]), 2, 16) := by kernel_rfl
/-- The cells of some edges. -/
def prCells (es : List (Int × Int)) : List Value := es.flatMap fun e => [.int .i64 e.1, .int .i64 e.2]
theorem prCells_length (es : List (Int × Int)) : (prCells es).length = es.length * 2 := by
  induction es with
  | nil => rfl
  | cons e es ih => simp only [prCells, List.flatMap_cons, List.length_append, List.length_cons, List.length_nil] at ih ⊢; omega
theorem prCells_get (es : List (Int × Int)) : ∀ (i : Nat), i < es.length → (prCells es)[i * 2]? = some (.int .i64 (es[i]?.getD (0, 0)).1) ∧ (prCells es)[i * 2 + 1]? = some (.int .i64 (es[i]?.getD (0, 0)).2) := by
  induction es with
  | nil => intro i hi; simp at hi
  | cons e es ih =>
    intro i hi
    have hc : prCells (e :: es) = .int .i64 e.1 :: .int .i64 e.2 :: prCells es := rfl
    rw [hc]
    cases i with
    | zero => simp
    | succ i =>
      have h := ih i (by simpa using hi)
      rw [show (i + 1) * 2 = i * 2 + 1 + 1 by omega, show i * 2 + 1 + 1 + 1 = (i * 2 + 1) + 1 + 1 by omega]
      simp only [List.getElem?_cons_succ]
      exact h
theorem prCells_one (es : List (Int × Int)) : ∀ v ∈ prCells es, v.oneCell' = true := by
  intro v hv
  simp only [prCells, List.mem_flatMap] at hv
  obtain ⟨f, _, hf⟩ := hv
  rcases List.mem_cons.1 hf with rfl | hf
  · rfl
  · rcases List.mem_cons.1 hf with rfl | hf
    · rfl
    · cases hf
theorem Edges.of_owns {w : World} {base n cap : Nat} {a : Option Addr} {es : List (Int × Int)} (h : w.ownsRow base 31 2 (.slice a n cap) n (prCells es)) : Edges w a es := by
  have hn : es.length = n := by have := h.1; rw [prCells_length] at this; omega
  rcases h.2 with ⟨_, h0⟩ | ⟨g, cap', cur, e, _⟩
  · exact .inl (List.eq_nil_of_length_eq_zero (by omega))
  · cases e
    refine .inr ⟨g, 0, rfl, fun i hi => ?_⟩
    have hp := prCells_get es i hi
    have e0 := h.cellAt (i * 2) (by omega)
    have e1 := h.cellAt (i * 2 + 1) (by omega)
    rw [hp.1] at e0
    rw [hp.2] at e1
    rw [Nat.zero_add]
    exact ⟨e0, e1⟩

/-- Where some edges can be read from. -/
def SrcE (W : World) (ad : Option Addr) (r c : Nat) (L : List (Int × Int)) : Prop := L.length = r ∧ ((ad = none ∧ r = 0 ∧ c = 0) ∨ ∃ q, ad = some q ∧ ∀ j u, (prCells L)[j]? = some u → W.cell? (q.add j) = some u)
theorem SrcE.below {W0 W : World} {ad : Option Addr} {r c : Nat} {L : List (Int × Int)} (h : SrcE W0 ad r c L) (hb : Below W0.heap.size W0 W) : SrcE W ad r c L := by
  refine ⟨h.1, h.2.imp id ?_⟩
  rintro ⟨q, rfl, hc⟩
  exact ⟨q, rfl, fun j u hj => (hb.cell (World.block_lt_of_cell? W0 _ (hc j u hj))).trans (hc j u hj)⟩
theorem SrcE.of_edges {W : World} {b off r c : Nat} {L : List (Int × Int)} (hl : L.length = r) (hc : ∀ i, i < r → W.cell? ⟨b, off + i * 2, none⟩ = some (.int .i64 (L[i]?.getD (0, 0)).1) ∧ W.cell? ⟨b, off + i * 2 + 1, none⟩ = some (.int .i64 (L[i]?.getD (0, 0)).2)) : SrcE W (some ⟨b, off, none⟩) r c L := by
  refine ⟨hl, .inr ⟨_, rfl, fun j u hj => ?_⟩⟩
  have hjl : j < (prCells L).length := (List.getElem?_eq_some_iff.1 hj).1
  rw [prCells_length, hl] at hjl
  have hadd : (⟨b, off, none⟩ : Addr).add j = ⟨b, off + j, none⟩ := by unfold Addr.add; split <;> simp_all
  rw [hadd]
  have hi2 : j / 2 < r := by omega
  have hp := prCells_get L (j / 2) (by omega)
  have hcc := hc (j / 2) hi2
  rcases Nat.mod_two_eq_zero_or_one j with hm | hm
  · have e : j = j / 2 * 2 := by omega
    rw [e] at hj ⊢
    rw [hp.1] at hj
    rw [hcc.1, hj]
  · have e : j = j / 2 * 2 + 1 := by omega
    rw [e] at hj ⊢
    rw [hp.2] at hj
    rw [← Nat.add_assoc, hcc.2, hj]

/-- 'append([]api.Pair{}, x...)' in a region that draws. -/
theorem step_app_pairs {W : World} {ops : Array Oper} {o : Oper} {a : Act} {K : Act → World → Prop} {Q : Exit → Act → World → Prop} {E : Prop} (hgd : o.guard = none) (s x : Operand)
    (ho : o.op = .call { callee := .builtin .append, args := #[s, x], argTypes := #[27, 27] }) (B : Nat) (hs : a.eval s = .slice (some ⟨B, 0, none⟩) 0 0) (hB : W.heap[B]? = some (.cells #[] 31 (0, 0)))
    (ad : Option Addr) (r c : Nat) (L : List (Int × Int)) (hx : a.eval x = .slice ad r c) (hsrc : SrcE W ad r c L) (hn : r ≤ 1000)
    (h : ∀ (a' : Option Addr) (c' : Nat) (w' : World), w'.ownsRow B 31 2 (.slice a' r c') r (prCells L) → W.grownBy w' (some B) → K (a.put o.dst (.slice a' r c')) w') :
    if Region.wanted o (yielded ops a.tmps) = true then Oper.wp Try.prog o a W K Q else E := by
  have hw : Region.wanted o (yielded ops a.tmps) = true := by simp [Region.wanted, hgd]
  rw [if_pos hw]
  obtain ⟨i0, hi, hz0, hz1, hz2⟩ := info_parts Try.infoPair
  have hBlt : B < W.heap.size := (Array.getElem?_eq_some_iff.1 hB).1
  have hown : W.ownsRow B 31 2 (.slice (some ⟨B, 0, none⟩) 0 0) 0 [] := ⟨rfl, .inr ⟨B, 0, #[], rfl, Nat.le_refl _, hB, Nat.le_refl _, by unfold maxLen; omega, rfl, rfl⟩⟩
  obtain ⟨hl, hsrc⟩ := hsrc
  rcases hsrc with ⟨rfl, rfl, rfl⟩ | ⟨q, rfl, hc⟩
  · obtain rfl := List.eq_nil_of_length_eq_zero hl
    have hrun := run_append_owned_none (P := Try.prog) (w := W) B 27 o.type 31 i0 2 Try.underlying27 hi (.slice (some ⟨B, 0, none⟩) 0 0) 0 [] hown
    unfold Oper.wp
    simp [execOp, ho, resolve, invoke, builtin, hs, hx, hrun, Result.andThen]
    exact h _ _ W hown ⟨rfl, rfl, rfl, Nat.le_refl _, fun _ _ _ => rfl⟩
  · obtain ⟨v', w', hrun, hown', hg, _, _⟩ := run_append_own_at (P := Try.prog) W B 27 o.type 31 i0 (.agg #[.int .i64 0, .int .i64 0]) 2 16 Try.underlying27 hi hz0 hz1 hz2 rfl (by decide) (.slice (some ⟨B, 0, none⟩) 0 0) 0 [] hown q r c (prCells L) (by rw [prCells_length, hl]) hc (prCells_one L) (by unfold maxLen; omega) (by omega) (by omega)
    obtain ⟨a', c', rfl⟩ := ownsRow_slice hown'
    unfold Oper.wp
    simp only [Nat.zero_add, List.nil_append] at hown' hrun
    simp [execOp, ho, resolve, invoke, builtin, hs, hx, hrun, Result.andThen]
    exact h a' c' w' hown' hg
end

section
open Go.RowKit Go.Sort

def fewN (N : Int) : Int := if 8 < N ∧ N ≤ 12 then 8 else N
def fewE (es : List (Int × Int)) : List (Int × Int) := es.take 70
/-- What 'few' hands back. -/
def FewV (N : Int) (es : List (Int × Int)) (w : World) (e : Ending) (w' : World) : Prop := ∃ a' c', e = .returned (.agg #[.int .i64 (fewN N), .slice a' (fewE es).length c']) ∧ Edges w' a' (fewE es) ∧ Below w.heap.size w w'

/-- What every world of the region meets. -/
theorem few_alloc {B p : Nat} {N : Int} {v : Value} {W0 W : World} (h : W.cell? ⟨p, 0, none⟩ = some (.int .i64 N) ∧ W.cell? ⟨p, 1, none⟩ = some v ∧ Hid (Below B W0 W)) (hB : B = W0.heap.size) (o : Obj) :
    (W.alloc o).cell? ⟨p, 0, none⟩ = some (.int .i64 N) ∧ (W.alloc o).cell? ⟨p, 1, none⟩ = some v ∧ Hid (Below B W0 (W.alloc o)) := by
  obtain ⟨h1, h2, h3⟩ := h
  exact ⟨(World.cell?_alloc_past _ _ _ (World.block_lt_of_cell? W _ h1)).trans h1, (World.cell?_alloc_past _ _ _ (World.block_lt_of_cell? W _ h2)).trans h2, h3.out.alloc (by subst hB; exact h3.out.size) _⟩
theorem few_allocD {B p : Nat} {N : Int} {v : Value} {W0 W : World} (h : W.drew.cell? ⟨p, 0, none⟩ = some (.int .i64 N) ∧ W.drew.cell? ⟨p, 1, none⟩ = some v ∧ Hid (Below B W0 W.drew)) (hB : B = W0.heap.size) (o : Obj) :
    (W.alloc o).drew.cell? ⟨p, 0, none⟩ = some (.int .i64 N) ∧ (W.alloc o).drew.cell? ⟨p, 1, none⟩ = some v ∧ Hid (Below B W0 (W.alloc o).drew) := few_alloc (W := W.drew) h hB o
theorem blockA (W : World) (o : Obj) : (W.alloc o).drew.heap[W.heap.size]? = some o := heap_alloc_new W o
theorem blockB (W : World) (o1 o2 : Obj) : ((W.alloc o1).alloc o2).drew.heap[W.heap.size]? = some o1 := (Below.heap_alloc (W.alloc o1) o2 _ (by rw [sz_alloc]; omega)).trans (heap_alloc_new W o1)
theorem blockC (W : World) (o1 o2 : Obj) : ((W.alloc o1).alloc o2).drew.heap[W.heap.size + 1]? = some o2 := by
  have := heap_alloc_new (W.alloc o1) o2
  rwa [sz_alloc] at this
theorem few_realloc {B p : Nat} {N : Int} {v : Value} {W0 W : World} {o : Obj} (h : (W.alloc o).cell? ⟨p, 0, none⟩ = some (.int .i64 N) ∧ (W.alloc o).cell? ⟨p, 1, none⟩ = some v ∧ Hid (Below B W0 (W.alloc o))) (hB : B = W0.heap.size) (hp : p + 2 ≤ B) (hW : W0.heap.size ≤ W.heap.size) (o' : Obj) :
    (W.alloc o').cell? ⟨p, 0, none⟩ = some (.int .i64 N) ∧ (W.alloc o').cell? ⟨p, 1, none⟩ = some v ∧ Hid (Below B W0 (W.alloc o')) := by
  obtain ⟨h1, h2, h3⟩ := h
  have hs := h3.out.size
  rw [sz_alloc] at hs
  rw [World.cell?_alloc_past _ _ _ (by show p < _; omega)] at h1 h2
  refine ⟨(World.cell?_alloc_past _ _ _ (by show p < _; omega)).trans h1, (World.cell?_alloc_past _ _ _ (by show p < _; omega)).trans h2, Lib.hid ⟨h3.out.os, h3.out.tape, h3.out.output, by rw [sz_alloc]; exact hs, fun k hk => ?_⟩⟩
  have := h3.out.block k hk
  by_cases hkW : k < W.heap.size
  · rw [Below.heap_alloc _ _ _ hkW] at this ⊢
    exact this
  · omega
theorem few_set {B p H : Nat} {N : Int} {v : Value} {W0 W : World} (h : W.cell? ⟨p, 0, none⟩ = some (.int .i64 N) ∧ W.cell? ⟨p, 1, none⟩ = some v ∧ Hid (Below B W0 W)) (hH : B ≤ H) (hp : p < B) (i : Nat) (u : Value) :
    (W.setCell ⟨H, i, none⟩ u).cell? ⟨p, 0, none⟩ = some (.int .i64 N) ∧ (W.setCell ⟨H, i, none⟩ u).cell? ⟨p, 1, none⟩ = some v ∧ Hid (Below B W0 (W.setCell ⟨H, i, none⟩ u)) := by
  obtain ⟨h1, h2, h3⟩ := h
  exact ⟨(World.cell?_setCell_other _ _ _ _ (by intro e; simp only [Addr.mk.injEq] at e; omega)).trans h1, (World.cell?_setCell_other _ _ _ _ (by intro e; simp only [Addr.mk.injEq] at e; omega)).trans h2, h3.out.setCell hH _⟩
theorem few_grown {B p b : Nat} {N : Int} {v : Value} {W0 W w1 : World} (h : W.cell? ⟨p, 0, none⟩ = some (.int .i64 N) ∧ W.cell? ⟨p, 1, none⟩ = some v ∧ Hid (Below B W0 W)) (hg : W.grownBy w1 (some b)) (hB : B = W0.heap.size) (hb : B ≤ b) (hp : p < B) :
    w1.cell? ⟨p, 0, none⟩ = some (.int .i64 N) ∧ w1.cell? ⟨p, 1, none⟩ = some v ∧ Hid (Below B W0 w1) := by
  obtain ⟨h1, h2, h3⟩ := h
  exact ⟨hg.cell h1 (by simp; omega), hg.cell h2 (by simp; omega), h3.out.grown hg (by subst hB; exact h3.out.size) (fun k hk => by simp at hk; omega)⟩
theorem few_src {B p : Nat} {N : Int} {v : Value} {W0 W : World} {ad : Option Addr} {r c : Nat} {L : List (Int × Int)} (h0 : Hid (SrcE W0 ad r c L)) (hB : B = W0.heap.size) (h : W.cell? ⟨p, 0, none⟩ = some (.int .i64 N) ∧ W.cell? ⟨p, 1, none⟩ = some v ∧ Hid (Below B W0 W)) : SrcE W ad r c L := by
  subst hB; exact h0.out.below h.2.2.out

theorem edges_set {W : World} {a : Option Addr} {es : List (Int × Int)} {H n c : Nat} {x : Int} {s : Option Addr} {t : TypeId} (h : Edges W a es) (hH : W.heap[H]? = some (.cells #[.int .i64 x, .slice s n c] t (0, 0))) (i : Nat) (u : Value) : Edges (W.setCell ⟨H, i, none⟩ u) a es := by
  rcases h with h | ⟨b, off, rfl, hc⟩
  · exact .inl h
  · refine .inr ⟨b, off, rfl, fun i hi => ?_⟩
    obtain ⟨c0, c1⟩ := hc i hi
    by_cases e : b = H
    · subst e
      exfalso
      have hh : off + i * 2 = 0 ∨ off + i * 2 = 1 ∨ 2 ≤ off + i * 2 := by omega
      have d0 := c0
      have d1 := c1
      simp only [World.cell?, hH] at d0 d1
      rcases hh with e | e | e
      · rw [e] at d0 d1; simp at d1
      · rw [e] at d0; simp at d0
      · rw [Array.getElem?_eq_none (by simp; omega)] at d0; simp at d0
    · exact ⟨(World.cell?_setCell_other _ _ _ _ (by intro e'; simp only [Addr.mk.injEq] at e'; exact e e'.1.symm)).trans c0, (World.cell?_setCell_other _ _ _ _ (by intro e'; simp only [Addr.mk.injEq] at e'; exact e e'.1.symm)).trans c1⟩
end

section
open Go.RowKit Go.Sort

theorem owns_empty (w : World) (t : TypeId) : (w.alloc (.cells #[] t)).ownsRow w.heap.size t 1 (.slice (some ⟨w.heap.size, 0, none⟩) 0 0) 0 [] :=
  ⟨rfl, .inr ⟨w.heap.size, 0, #[], rfl, Nat.le_refl _, heap_alloc_new w _, Nat.le_refl _, by unfold maxLen; omega, rfl, rfl⟩⟩

/-- 'append(v, x...)' of integers that are any numbers. -/
theorem wpList_app_zs {W : World} {ops : Array Oper} {rest : List Oper} {o : Oper} {a : Act} {Q : Exit → Act → World → Prop} (hgd : o.guard = none) (s x : Operand)
    (ho : o.op = .call { callee := .builtin .append, args := #[s, x], argTypes := #[22, 22] }) (base : Nat) (v : Value) (n : Nat) (xs : List Value) (hs : a.eval s = v) (b off m c : Nat) (zs : List Int)
    (hx : a.eval x = .slice (some ⟨b, off, none⟩) m c) (hl : zs.length = m) (hc : ∀ j, j < zs.length → W.cell? ⟨b, off + j, none⟩ = some (.int .i64 (zs[j]?.getD 0))) (hown : W.ownsRow base 3 1 v n xs) (r : Nat) (hr : n + m = r) (hn : r ≤ 1000000) (hbase : base ≤ W.heap.size)
    (h : ∀ (a' : Option Addr) (c' : Nat) (w' : World), w'.ownsRow base 3 1 (.slice a' r c') r (xs ++ zs.map (Value.int .i64)) → W.grownBy w' v.ownBlock → wpList Try.prog ops Q rest (a.put o.dst (.slice a' r c')) w') :
    wpList Try.prog ops Q (o :: rest) a W := by
  obtain ⟨i0, hi, hz0, hz1, hz2⟩ := info_parts Try.info3
  subst hr
  refine wpList_append_own_at _ hgd s x 22 ho base 3 i0 (.int .i64 0) 1 8 Try.underlying22 hi hz0 hz1 hz2 rfl (by decide) v n xs hs hown ⟨b, off, none⟩ m c (zs.map (Value.int .i64)) hx (by simp [hl]) ?_ (by simp [Value.oneCell']) (by unfold maxLen; omega) (by omega) hbase ?_
  · intro j u hj
    have hjl : j < zs.length := by have := (List.getElem?_eq_some_iff.1 hj).1; simpa using this
    have hadd : (⟨b, off, none⟩ : Addr).add j = ⟨b, off + j, none⟩ := by unfold Addr.add; split <;> simp_all
    rw [hadd, hc j hjl, ← hj]
    simp [hjl]
  · intro v' w' hown' hg _ _
    obtain ⟨a', c', rfl⟩ := ownsRow_slice hown'
    exact h a' c' w' hown' hg

/-- 'append(v, x...)' of nothing. -/
theorem wpList_app_nothing {W : World} {ops : Array Oper} {rest : List Oper} {o : Oper} {a : Act} {Q : Exit → Act → World → Prop} (hgd : o.guard = none) (s x : Operand)
    (ho : o.op = .call { callee := .builtin .append, args := #[s, x], argTypes := #[22, 22] }) (base : Nat) (v : Value) (n : Nat) (xs : List Value) (hs : a.eval s = v) (ad : Option Addr) (c : Nat)
    (hx : a.eval x = .slice ad 0 c) (hnone : ad = none → c = 0) (hown : W.ownsRow base 3 1 v n xs) (hn : n ≤ 1000000) (hbase : base ≤ W.heap.size)
    (h : ∀ (a' : Option Addr) (c' : Nat) (w' : World), w'.ownsRow base 3 1 (.slice a' n c') n xs → W.grownBy w' v.ownBlock → wpList Try.prog ops Q rest (a.put o.dst (.slice a' n c')) w') :
    wpList Try.prog ops Q (o :: rest) a W := by
  obtain ⟨i0, hi, hz0, hz1, hz2⟩ := info_parts Try.info3
  cases ad with
  | none =>
    have := hnone rfl
    subst this
    obtain ⟨a', c', rfl⟩ := ownsRow_slice hown
    exact wpList_append_own_none hgd s x 22 ho base 3 i0 1 Try.underlying22 hi _ n xs hs hown hx (h a' c' W hown ⟨rfl, rfl, rfl, Nat.le_refl _, fun _ _ _ => rfl⟩)
  | some ad =>
    refine wpList_append_own_at _ hgd s x 22 ho base 3 i0 (.int .i64 0) 1 8 Try.underlying22 hi hz0 hz1 hz2 rfl (by decide) v n xs hs hown ad 0 c [] hx rfl (fun j u hj => by simp at hj) (by simp) (by unfold maxLen; omega) (by omega) hbase ?_
    intro v' w' hown' hg _ _
    obtain ⟨a', c', rfl⟩ := ownsRow_slice hown'
    rw [List.append_nil] at hown'
    exact h a' c' w' hown' hg

/-- What 'cut' hands back. -/
def CutV (l : List Int) (w : World) (e : Ending) (w' : World) : Prop := ∃ a' c', e = .returned (.slice a' l.length c') ∧ Ints w' a' l ∧ Below w.heap.size w w'
theorem cut_fin {w w2 : World} {a2 : Option Addr} {r c2 : Nat} {l : List Int} (hlr : l.length = r) (hr2 : w2.ownsRow w.heap.size 3 1 (.slice a2 r c2) r ([] ++ l.map (Value.int .i64))) (hg2 : (w.alloc (.cells #[] 3)).grownBy w2 (Value.slice (some ⟨w.heap.size, 0, none⟩) 0 0).ownBlock) :
    CutV l w (.returned (.slice a2 r c2)) w2 := by
  subst hlr
  exact ⟨a2, c2, rfl, Ints.of_owns hr2, ((Below.refl _ w).alloc (Nat.le_refl _) (.cells #[] 3)).grown hg2 (by simp) (fun x hx => by
    have : w.heap.size = x := by simpa [Value.ownBlock] using hx
    omega)⟩
end

section
open Go.RowKit Go.Sort

/-- What stays as the law goes on. -/
def St (w : World) (B : Nat) (N : Int) (aE : Option Addr) (m cE : Nat) (es : List (Int × Int)) (aO : Option Addr) (os : List Int) (aL : Option Addr) (ls : List Int) (wc : World) : Prop :=
  Below w.heap.size w wc ∧ Edges wc aE es ∧ Ints wc aO os ∧ Ints wc aL ls ∧ wc.cell? ⟨B, 0, none⟩ = some (.int .i64 N) ∧ wc.cell? ⟨B, 1, none⟩ = some (.slice aE m cE)
theorem St.next {w : World} {B : Nat} {N : Int} {aE : Option Addr} {m cE : Nat} {es : List (Int × Int)} {aO : Option Addr} {os : List Int} {aL : Option Addr} {ls : List Int} {wc w' : World} (h : St w B N aE m cE es aO os aL ls wc) (hb : Below wc.heap.size wc w') : St w B N aE m cE es aO os aL ls w' := by
  obtain ⟨h1, h2, h3, h4, h5, h6⟩ := h
  exact ⟨h1.trans (hb.mono h1.size), h2.below hb, h3.below hb, h4.below hb, (hb.cell (World.block_lt_of_cell? wc _ h5)).trans h5, (hb.cell (World.block_lt_of_cell? wc _ h6)).trans h6⟩
end

section
open Go.ChangeShapes Go.WideShapes Go.ChangeAt Go.RowKit

theorem laidOut : laidOutB Try.prog = true := by kernel_rfl
/-- An argument reads as before when the world has grown. -/
theorem arg_kept {H : Type} {enc : TypeId × Value → H} {t : TypeId} (hr : Try.prog.readableRec t = true) (hrow : t < Try.prog.types.size) {W : World} {v : Value} {d : DataW H} {ps : List MemPlace}
    (h : DataW.Trod enc Try.prog W 0 (fun _ => true) true t v d ps) (hlt : ∀ x ∈ ps, x.block < W.heap.size) {W' : World} (hb : Below W.heap.size W W') : DataW.Trod enc Try.prog W' 0 (fun b => decide (b < W.heap.size)) true t v d ps :=
  Below.trod laidOut hr hrow h hb hlt
theorem cellsPair : Try.prog.cellsOf 31 = 2 := by kernel_rfl

set_option maxRecDepth 100000 in
/-- A slice of edges, opened. -/
theorem arg_edges {H : Type} {enc : TypeId × Value → H} {W : World} {fuel : Nat} {v : Value} {x : DataW H × List MemPlace} (hf : DataW.trod enc Try.prog W 0 (fun _ => true) true fuel 27 [v] = some x) :
    ∃ (a : Option Addr) (n cap : Nat) (es : List (Int × Int)), v = .slice a n cap ∧ es.length = n ∧ n ≤ 9223372036854775807 ∧ n ≤ cap ∧ (a = none → cap = 0) ∧ Edges W a es := by
  rcases Deep.open_slice_pairs Try.underlying27 Try.underlying31 cellsPair rfl rfl cellsInt cellsInt hf with ⟨hcs, _⟩ | ⟨a, len, cap, m, n, V0, V1, D0, D1, P0, P1, hcs, _, hl, hm, hmm, _, hx⟩
  · simp at hcs
    subst hcs
    exact ⟨none, 0, 0, [], rfl, rfl, by omega, Nat.le_refl _, fun _ => rfl, .inl rfl⟩
  · simp at hcs
    subst hcs
    simp only [if_true] at hmm
    have hlm : len ≤ m := by omega
    refine ⟨some a, len, cap, (List.range len).map fun i => (intOf (V0 i), intOf (V1 i)), rfl, by simp, by unfold maxLen at hm; omega, hl, (fun h => by cases h), ?_⟩
    by_cases h0 : len = 0
    · subst h0; exact .inl rfl
    · obtain ⟨b, off, spot⟩ := a
      have hspot : spot = none := by
        have := (hx 0 (by omega)).1
        simpa [Addr.add] using World.cell?_spot this
      subst hspot
      refine .inr ⟨b, off, rfl, fun i hi => ?_⟩
      have hi' : i < len := by simpa using hi
      obtain ⟨g0, g1, t0, t1⟩ := hx i (by omega)
      obtain ⟨z0, e0, _, _⟩ := DataW.trod_int Try.underlying3 t0
      obtain ⟨z1, e1, _, _⟩ := DataW.trod_int Try.underlying3 t1
      simp only [List.cons.injEq, and_true] at e0 e1
      have eg : ((List.range len).map fun i => (intOf (V0 i), intOf (V1 i)))[i]?.getD (0, 0) = (z0, z1) := by
        simp [hi', e0, e1, intOf]
      rw [eg]
      rw [add_plain] at g0 g1
      rw [e0] at g0
      rw [e1] at g1
      exact ⟨g0, g1⟩
end

end Go.Proofs.Yteckeobhlfddlaa.Rib
