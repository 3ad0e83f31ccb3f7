/-
  The walk of 'RibEliminates'.
-/
import Derived.Test.YthlbedhjekbfpaaDoorRz
import Derived.Test.YthlbedhjekbfpaaDoorSa
namespace Go.Proofs.YthlbedhjekbfpaaDoor
open Go.RowKit Go.Sort

/-- What stays as the law goes on. -/
def St (w : World) (B : Nat) (N : Int) (aE : Option Addr) (m cE : Nat) (es : List (Int × Int)) (aO : Option Addr) (os : List Int) (aL : Option Addr) (ls : List Int) (wc : World) : Prop :=
  Below w.heap.size w wc ∧ Edges wc aE es ∧ Ints wc aO os ∧ Ints wc aL ls ∧ wc.cell? ⟨B, 0, none⟩ = some (.int .i64 N) ∧ wc.cell? ⟨B, 1, none⟩ = some (.slice aE m cE)
theorem St.next {w : World} {B : Nat} {N : Int} {aE : Option Addr} {m cE : Nat} {es : List (Int × Int)} {aO : Option Addr} {os : List Int} {aL : Option Addr} {ls : List Int} {wc w' : World} (h : St w B N aE m cE es aO os aL ls wc) (hb : Below wc.heap.size wc w') : St w B N aE m cE es aO os aL ls w' := by
  obtain ⟨h1, h2, h3, h4, h5, h6⟩ := h
  exact ⟨h1.trans (hb.mono h1.size), h2.below hb, h3.below hb, h4.below hb, (hb.cell (World.block_lt_of_cell? wc _ h5)).trans h5, (hb.cell (World.block_lt_of_cell? wc _ h6)).trans h6⟩

end Go.Proofs.YthlbedhjekbfpaaDoor
