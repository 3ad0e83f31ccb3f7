/-
  What the closures of 'orders' keep.
-/
import Derived.Test.YteckeobhlfddlaaFf
import Derived.RangeFuncNested
import Derived.RangeFuncBound
import Derived.RangeFuncCalls
import Derived.RangeFuncLeaves
import Derived.Shelf.Abstract
import Derived.Shelf.RegionOpen
import Derived.OwnWalkIn
import Derived.TacticsInMore
import Derived.LoopNIn
import Derived.LoopIn
import Derived.Maps.OwnIn
namespace Go.Proofs.Yteckeobhlfddlaa
open Go.RowKit Go.Sort

/-- The blocks of an iteration. -/
structure Ids where
  N0 : Nat
  N1 : Nat
  By : Nat
  Bl : Nat
  gl : Nat
  Bo : Nat
  Bp : Nat
  Bc : Nat
  l : Nat
  n : Nat
structure Ids.ok (d : Ids) : Prop where
  h0 : d.N0 ≤ d.By
  h1 : d.By < d.gl
  h2 : d.gl < d.Bl
  h3 : d.Bl < d.Bo
  h4 : d.Bo < d.Bp
  h5 : d.Bp < d.N1
  hc : d.Bc < d.N0
  hn : 1 ≤ d.n
  hn9 : d.n ≤ 9

def Ids.fnV (d : Ids) : Value := .func (.func 41) #[] #[.pointer (some ⟨d.Bo, 0, none⟩), .pointer (some ⟨d.Bl, 0, none⟩), .pointer (some ⟨d.By, 0, none⟩), .pointer (some ⟨d.Bc, 0, none⟩), .pointer (some ⟨d.Bp, 0, none⟩)]
def intsOf (O : List Nat) : List Value := O.map fun (x : Nat) => Value.int .i64 x

/-- The iterator's own memory: L the layers, O the order so far. -/
structure PS (d : Ids) (W : World) (L : List Int) (O : List Nat) : Prop where
  hy : W.heap[d.By]? = some (.cells #[.func (.yield d.l) #[] #[]] 58 (0, 0))
  hl : W.heap[d.Bl]? = some (.cells #[.slice (some ⟨d.gl, 0, none⟩) d.n d.n] 22 (0, 0))
  hg : W.heap[d.gl]? = some (.cells (L.map (Value.int .i64)).toArray 3 (0, 0))
  hL : L.length = d.n
  hp : W.heap[d.Bp]? = some (.cells #[d.fnV] 84 (0, 0))
  ho : ∃ a cap, W.heap[d.Bo]? = some (.cells #[.slice a O.length cap] 22 (0, 0)) ∧ W.ownsRow d.N0 3 1 (.slice a O.length cap) O.length (intsOf O) ∧ (Value.slice a O.length cap).ownBlock ≠ some d.gl
  hN : d.N1 ≤ W.heap.size

/-- What a round keeps: whatever lies from N on. -/
structure Above (N : Nat) (W W' : World) : Prop where
  size : W.heap.size ≤ W'.heap.size
  block : ∀ b, N ≤ b → b < W.heap.size → W'.heap[b]? = W.heap[b]?

/-- What the iterator turns when it unwinds: blocks between N0 and N1 alone. -/
structure Mid (N0 N1 : Nat) (W W' : World) : Prop where
  os : W'.os = W.os
  tape : W'.tape = W.tape
  output : W'.output = W.output
  size : W'.heap.size = W.heap.size
  block : ∀ b, b < N0 ∨ N1 ≤ b → W'.heap[b]? = W.heap[b]?
theorem Mid.refl (N0 N1 : Nat) (W : World) : Mid N0 N1 W W := ⟨rfl, rfl, rfl, rfl, fun _ _ => rfl⟩
theorem Mid.setCell {N0 N1 : Nat} {W W' : World} (h : Mid N0 N1 W W') {a : Addr} (h0 : N0 ≤ a.block) (h1 : a.block < N1) (v : Value) : Mid N0 N1 W (W'.setCell a v) :=
  ⟨h.os, h.tape, h.output, by rw [← h.size]; show (W'.heap.modify _ _).size = _; rw [Array.size_modify], fun b hb => (Below.heap_setCell W' a v b (by omega)).trans (h.block b hb)⟩

theorem ownsRow_of_block {w w' : World} {base : Nat} {e : TypeId} {size : Nat} {v : Value} {n : Nat} {xs : List Value} (h : w.ownsRow base e size v n xs) (hb : ∀ g, v.ownBlock = some g → w'.heap[g]? = w.heap[g]?) : w'.ownsRow base e size v n xs := by
  refine ⟨h.1, h.2.imp id ?_⟩
  rintro ⟨g, cap, cur, rfl, h1, h2, h3⟩
  exact ⟨g, cap, cur, rfl, h1, (hb g rfl).trans h2, h3⟩

/-- The iterator's memory behind whatever leaves its blocks. -/
theorem PS.keep {d : Ids} (hd : d.ok) {W W' : World} {L : List Int} {O : List Nat} (h : PS d W L O) (hs : W.heap.size ≤ W'.heap.size) (hb : ∀ b, d.N0 ≤ b → b < W.heap.size → W'.heap[b]? = W.heap[b]?) : PS d W' L O := by
  have k0 := hd.h0; have k1 := hd.h1; have k2 := hd.h2; have k3 := hd.h3; have k4 := hd.h4; have k5 := hd.h5; have hN := h.hN
  obtain ⟨a, cap, ho, hr, hne⟩ := h.ho
  refine ⟨(hb _ (by omega) (by omega)).trans h.hy, (hb _ (by omega) (by omega)).trans h.hl, (hb _ (by omega) (by omega)).trans h.hg, h.hL, (hb _ (by omega) (by omega)).trans h.hp, ⟨a, cap, (hb _ (by omega) (by omega)).trans ho, ?_, hne⟩, by omega⟩
  exact ownsRow_of_block hr fun g hg => hb g (hr.lt g hg).1 (hr.lt g hg).2
theorem PS.above {d : Ids} (hd : d.ok) {W W' : World} {L : List Int} {O : List Nat} (h : PS d W L O) (hk : Above d.N0 W W') : PS d W' L O := h.keep hd hk.size fun b h0 h1 => hk.block b h0 h1
theorem PS.below {d : Ids} (hd : d.ok) {W W' : World} {L : List Int} {O : List Nat} (h : PS d W L O) (hk : Below W.heap.size W W') : PS d W' L O := h.keep hd hk.size fun b _ h1 => hk.block b h1

/-- A store into the layers. -/
theorem PS.setL {d : Ids} (hd : d.ok) {W : World} {L : List Int} {O : List Nat} (h : PS d W L O) (s : Nat) (v : Int) : PS d (W.setCell ⟨d.gl, s, none⟩ (.int .i64 v)) (L.set s v) O := by
  have k0 := hd.h0; have k1 := hd.h1; have k2 := hd.h2; have k3 := hd.h3; have k4 := hd.h4; have k5 := hd.h5
  obtain ⟨a, cap, ho, hr, hne⟩ := h.ho
  have far : ∀ b, b ≠ d.gl → (W.setCell ⟨d.gl, s, none⟩ (.int .i64 v)).heap[b]? = W.heap[b]? := fun b hb => Below.heap_setCell W _ _ b hb
  refine ⟨(far _ (by omega)).trans h.hy, (far _ (by omega)).trans h.hl, ?_, by simpa using h.hL, (far _ (by omega)).trans h.hp, ⟨a, cap, (far _ (by omega)).trans ho, ownsRow_setCell_other hr hne _, hne⟩, ?_⟩
  · rw [heap_setCell_self h.hg]
    congr 2
    rw [← Array.toList_inj]
    simp [List.map_set]
  · show d.N1 ≤ (W.heap.modify _ _).size
    rw [Array.size_modify]; exact h.hN

theorem PS.boxO {d : Ids} {W : World} {L : List Int} {O : List Nat} (h : PS d W L O) (hd : d.ok) {base k : Nat} {v : Value} {xs : List Value} (hr : W.ownsRow base 3 1 v k xs) : v.ownBlock ≠ some d.Bo ∧ v.ownBlock ≠ some d.Bl ∧ v.ownBlock ≠ some d.By ∧ v.ownBlock ≠ some d.Bp := by
  obtain ⟨a, cap, ho, _, _⟩ := h.ho
  have aux : ∀ (b : Nat) (u : Value) (t : TypeId), t ≠ 3 → W.heap[b]? = some (.cells #[u] t (0, 0)) → v.ownBlock ≠ some b := fun b u t ht hb e => by
    rcases hr.2 with ⟨rfl, _⟩ | ⟨g, cap, cur, rfl, _, hgb, _⟩
    · cases e
    · obtain rfl : g = b := by simpa [Value.ownBlock] using e
      rw [hgb] at hb
      simp at hb
      exact ht hb.2.symm
  exact ⟨aux _ _ _ (by decide) ho, aux _ _ _ (by decide) h.hl, aux _ _ _ (by decide) h.hy, aux _ _ _ (by decide) h.hp⟩

/-- Behind 'order = append(order, s)'. -/
theorem PS.push {d : Ids} (hd : d.ok) {W W1 : World} {L : List Int} {O : List Nat} (h : PS d W L O) (s : Nat) {a : Option Addr} {cap g cap' : Nat} (ho : W.heap[d.Bo]? = some (.cells #[.slice a O.length cap] 22 (0, 0)))
    (hr : W.ownsRow d.N0 3 1 (.slice a O.length cap) O.length (intsOf O)) (hne : (Value.slice a O.length cap).ownBlock ≠ some d.gl)
    (hr1 : W1.ownsRow d.N0 3 1 (.slice (some ⟨g, 0, none⟩) (O.length + 1) cap') (O.length + 1) (intsOf O ++ [.int .i64 s])) (hg : W.grownBy W1 (Value.slice a O.length cap).ownBlock) (hat : some g = (Value.slice a O.length cap).ownBlock ∨ W.heap.size ≤ g) :
    W1.heap[d.Bo]? = some (.cells #[.slice a O.length cap] 22 (0, 0)) ∧ PS d (W1.setCell ⟨d.Bo, 0, none⟩ (.slice (some ⟨g, 0, none⟩) (O.length + 1) cap')) L (O ++ [s]) ∧ Below d.N0 W (W1.setCell ⟨d.Bo, 0, none⟩ (.slice (some ⟨g, 0, none⟩) (O.length + 1) cap')) := by
  have k0 := hd.h0; have k1 := hd.h1; have k2 := hd.h2; have k3 := hd.h3; have k4 := hd.h4; have k5 := hd.h5; have hN := h.hN
  obtain ⟨n1, n2, n3, n4⟩ := h.boxO hd hr
  have old : ∀ b, b < W.heap.size → (Value.slice a O.length cap).ownBlock ≠ some b → W1.heap[b]? = W.heap[b]? := fun b hb hne => hg.block b hb (Ne.symm hne)
  have hoW1 := (old d.Bo (by omega) n1).trans ho
  have gne : ∀ b, b < W.heap.size → (Value.slice a O.length cap).ownBlock ≠ some b → g ≠ b := fun b hb hne e => by
    rcases hat with e' | e'
    · exact hne (e'.symm.trans (by rw [e]))
    · omega
  have far : ∀ b, b < W.heap.size → (Value.slice a O.length cap).ownBlock ≠ some b → b ≠ d.Bo → (W1.setCell ⟨d.Bo, 0, none⟩ (.slice (some ⟨g, 0, none⟩) (O.length + 1) cap')).heap[b]? = W.heap[b]? := fun b hb hne hbo => (Below.heap_setCell W1 _ _ b hbo).trans (old b hb hne)
  refine ⟨hoW1, ⟨(far _ (by omega) n3 (by omega)).trans h.hy, (far _ (by omega) n2 (by omega)).trans h.hl, (far _ (by omega) hne (by omega)).trans h.hg, h.hL, (far _ (by omega) n4 (by omega)).trans h.hp, ⟨some ⟨g, 0, none⟩, cap', ?_, ?_, ?_⟩, ?_⟩, ?_⟩
  · rw [heap_setCell_self hoW1]; simp
  · have e : intsOf (O ++ [s]) = intsOf O ++ [.int .i64 (s : Int)] := by simp [intsOf]
    rw [e, List.length_append]
    exact ownsRow_setCell_other hr1 (by simpa [Value.ownBlock] using gne d.Bo (by omega) n1) _
  · have := gne d.gl (by omega) hne
    simpa [Value.ownBlock] using this
  · show d.N1 ≤ (W1.heap.modify _ _).size
    rw [Array.size_modify]; have := hg.size; omega
  · exact ((Below.refl d.N0 W).grown hg (by omega) (fun k hk => (hr.lt k hk).1)).setCell (by simp; omega) _

/-- Behind 'order = order[:len(order)-1]'. -/
theorem PS.pop {d : Ids} (hd : d.ok) {W : World} {L : List Int} {O : List Nat} {s : Nat} (h : PS d W L (O ++ [s])) {a : Option Addr} {cap : Nat} (ho : W.heap[d.Bo]? = some (.cells #[.slice a (O.length + 1) cap] 22 (0, 0)))
    (hr : W.ownsRow d.N0 3 1 (.slice a (O.length + 1) cap) (O.length + 1) (intsOf O ++ [.int .i64 s])) (hne : (Value.slice a (O.length + 1) cap).ownBlock ≠ some d.gl) :
    PS d (W.setCell ⟨d.Bo, 0, none⟩ (.slice a O.length cap)) L O ∧ Mid d.N0 d.N1 W (W.setCell ⟨d.Bo, 0, none⟩ (.slice a O.length cap)) := by
  have k0 := hd.h0; have k1 := hd.h1; have k2 := hd.h2; have k3 := hd.h3; have k4 := hd.h4; have k5 := hd.h5; have hN := h.hN
  have hm : Mid d.N0 d.N1 W (W.setCell ⟨d.Bo, 0, none⟩ (.slice a O.length cap)) := (Mid.refl _ _ _).setCell (by simp; omega) (by simp; omega) _
  obtain ⟨n1, n2, n3, n4⟩ := h.boxO hd hr
  have far : ∀ b, b ≠ d.Bo → (W.setCell ⟨d.Bo, 0, none⟩ (.slice a O.length cap)).heap[b]? = W.heap[b]? := fun b hb => Below.heap_setCell W _ _ b hb
  refine ⟨⟨(far _ (by omega)).trans h.hy, (far _ (by omega)).trans h.hl, (far _ (by omega)).trans h.hg, h.hL, (far _ (by omega)).trans h.hp, ⟨a, cap, ?_, ?_, ?_⟩, by rw [hm.size]; exact hN⟩, hm⟩
  · rw [heap_setCell_self ho]; simp
  · obtain ⟨g, cap2, e⟩ := ownsRow_succ' hr
    cases e
    exact ownsRow_setCell_other (ownsRow_pop (by simp [intsOf]) hr) (by simpa [Value.ownBlock] using n1) _
  · obtain ⟨g, cap2, e⟩ := ownsRow_succ' hr
    cases e
    exact hne

end Go.Proofs.Yteckeobhlfddlaa
