/-
  Spans that match a graph are spans of an interval graph.
-/
import Derived.Test.YteckeobhlfddlaaXf
import Derived.Test.YteckeobhlfddlaaXh
namespace Go.Proofs.Yteckeobhlfddlaa.Rib
open Go.RowKit Go.Sort

theorem match_rep {es : List (Int × Int)} {sp : List (Int × Int)} {n : Nat} (hl : sp.length = n) (hs : sp.all spanB = true) (h : matchR es sp n = true) : Rep es n (fun a => (atS sp a).1) (fun a => (atS sp a).2) where
  le a ha := atS_ok hs (by omega)
  near a b ha hb hab := by
    have key : ∀ a b, a < n → b < a → (nearE es a b ↔ (atS sp a).1 ≤ (atS sp b).2 ∧ (atS sp b).1 ≤ (atS sp a).2) := fun a b ha hb => by
      simp only [matchR, List.all_eq_true, List.mem_range] at h
      have := h a ha b hb
      rw [matchRAt, beq_iff_eq] at this
      unfold nearE
      rw [this, meetB, Bool.and_eq_true, decide_eq_true_iff, decide_eq_true_iff]
    rcases Nat.lt_or_gt_of_ne hab with h1 | h1
    · rw [show nearE es a b ↔ nearE es b a from ⟨nearE_sym es a b, nearE_sym es b a⟩, key b a hb h1]
      exact And.comm
    · exact key a b ha h1

end Go.Proofs.Yteckeobhlfddlaa.Rib
