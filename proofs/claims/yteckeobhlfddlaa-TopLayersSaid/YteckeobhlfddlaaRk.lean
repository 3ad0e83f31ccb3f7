/-
  The reference: the walks of 'in', 'Near', 'Clique' and 'Permutation'.
-/
import Derived.Test.YteckeobhlfddlaaRi
import Derived.Test.YteckeobhlfddlaaRj
namespace Go.Proofs.Yteckeobhlfddlaa.Rib
open Go.RowKit Go.Sort

theorem Edges.below {w w' : World} {a : Option Addr} {es : List (Int × Int)} (h : Edges w a es) (hb : Below w.heap.size w w') : Edges w' a es := by
  rcases h with rfl | ⟨b, off, rfl, hc⟩
  · exact .inl rfl
  · refine .inr ⟨b, off, rfl, fun i hi => ?_⟩
    obtain ⟨c0, c1⟩ := hc i hi
    exact ⟨(hb.cell (p := ⟨b, off + i * 2, none⟩) (World.block_lt_of_cell? w _ c0)).trans c0, (hb.cell (p := ⟨b, off + i * 2 + 1, none⟩) (World.block_lt_of_cell? w _ c1)).trans c1⟩
theorem Edges.after {w0 w : World} {a : Option Addr} {es : List (Int × Int)} (h : Edges w0 a es) (hb : Below w0.heap.size w0 w) : Edges w a es := h.below hb

theorem quiet_same {P : Program} {f : FuncId} {args : Array Value} {w : World} {n : Nat} {v : Value}
    (h : Calls P f args (w.drewN n) fun e w' => e = .returned v ∧ w.drewN n = w') : Calls P f args (w.drewN n) fun e w'' => e = .returned v ∧ ∃ m, w'' = w.drewN m :=
  h.mono fun _ _ ⟨he, hm⟩ => ⟨he, n, hm.symm⟩
theorem any_next {α : Type} (p : α → Bool) (l : List α) (k : Nat) (hk : k < l.length) (h : (l.take k).any p = false) (hp : p l[k] = false) : (l.take (k + 1)).any p = false := by
  rw [List.take_succ_eq_append_getElem hk, List.any_append, h]; simp [hp]
theorem any_here {α : Type} (p : α → Bool) (l : List α) (k : Nat) (hk : k < l.length) (hp : p l[k] = true) : l.any p = true := List.any_eq_true.2 ⟨_, List.getElem_mem hk, hp⟩

/-- One row of the reference's 'Clique'. -/
def nearRow (es : List (Int × Int)) (l : List Int) (i : Nat) : Bool := (List.range i).all fun k => nearB es (l[i]?.getD 0) (l[k]?.getD 0)
theorem cliqueR_rows (es : List (Int × Int)) (l : List Int) : cliqueR es l = (List.range l.length).all (nearRow es l) := rfl

end Go.Proofs.Yteckeobhlfddlaa.Rib
