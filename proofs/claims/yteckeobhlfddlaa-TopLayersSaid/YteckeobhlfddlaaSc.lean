/-
  A graph among a law's arguments: what it reads as, and that it still does when the world has grown.
-/
import Derived.Test.YteckeobhlfddlaaSa
import Derived.Lib.SmallJoins
import Derived.Deep.SlicePairs
import Derived.Carry
namespace Go.Proofs.Yteckeobhlfddlaa.Rib
open Go.ChangeShapes Go.WideShapes Go.ChangeAt Go.RowKit

theorem laidOut : laidOutB Try.prog = true := by kernel_rfl
/-- An argument reads as before when the world has grown. -/
theorem arg_kept {H : Type} {enc : TypeId × Value → H} {t : TypeId} (hr : Try.prog.readableRec t = true) (hrow : t < Try.prog.types.size) {W : World} {v : Value} {d : DataW H} {ps : List MemPlace}
    (h : DataW.Trod enc Try.prog W 0 (fun _ => true) true t v d ps) (hlt : ∀ x ∈ ps, x.block < W.heap.size) {W' : World} (hb : Below W.heap.size W W') : DataW.Trod enc Try.prog W' 0 (fun b => decide (b < W.heap.size)) true t v d ps :=
  Below.trod laidOut hr hrow h hb hlt
theorem cellsPair : Try.prog.cellsOf 31 = 2 := by kernel_rfl

set_option maxRecDepth 100000 in
/-- A slice of edges, opened. -/
theorem arg_edges {H : Type} {enc : TypeId × Value → H} {W : World} {fuel : Nat} {v : Value} {x : DataW H × List MemPlace} (hf : DataW.trod enc Try.prog W 0 (fun _ => true) true fuel 27 [v] = some x) :
    ∃ (a : Option Addr) (n cap : Nat) (es : List (Int × Int)), v = .slice a n cap ∧ es.length = n ∧ n ≤ 9223372036854775807 ∧ n ≤ cap ∧ (a = none → cap = 0) ∧ Edges W a es := by
  rcases Deep.open_slice_pairs Try.underlying27 Try.underlying31 cellsPair rfl rfl cellsInt cellsInt hf with ⟨hcs, _⟩ | ⟨a, len, cap, m, n, V0, V1, D0, D1, P0, P1, hcs, _, hl, hm, hmm, _, hx⟩
  · simp at hcs
    subst hcs
    exact ⟨none, 0, 0, [], rfl, rfl, by omega, Nat.le_refl _, fun _ => rfl, .inl rfl⟩
  · simp at hcs
    subst hcs
    simp only [if_true] at hmm
    have hlm : len ≤ m := by omega
    refine ⟨some a, len, cap, (List.range len).map fun i => (intOf (V0 i), intOf (V1 i)), rfl, by simp, by unfold maxLen at hm; omega, hl, (fun h => by cases h), ?_⟩
    by_cases h0 : len = 0
    · subst h0; exact .inl rfl
    · obtain ⟨b, off, spot⟩ := a
      have hspot : spot = none := by
        have := (hx 0 (by omega)).1
        simpa [Addr.add] using World.cell?_spot this
      subst hspot
      refine .inr ⟨b, off, rfl, fun i hi => ?_⟩
      have hi' : i < len := by simpa using hi
      obtain ⟨g0, g1, t0, t1⟩ := hx i (by omega)
      obtain ⟨z0, e0, _, _⟩ := DataW.trod_int Try.underlying3 t0
      obtain ⟨z1, e1, _, _⟩ := DataW.trod_int Try.underlying3 t1
      simp only [List.cons.injEq, and_true] at e0 e1
      have eg : ((List.range len).map fun i => (intOf (V0 i), intOf (V1 i)))[i]?.getD (0, 0) = (z0, z1) := by
        simp [hi', e0, e1, intOf]
      rw [eg]
      rw [add_plain] at g0 g1
      rw [e0] at g0
      rw [e1] at g1
      exact ⟨g0, g1⟩

end Go.Proofs.Yteckeobhlfddlaa.Rib
