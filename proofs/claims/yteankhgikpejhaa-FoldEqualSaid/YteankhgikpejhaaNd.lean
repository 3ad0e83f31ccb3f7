/-
  The walk of 'clothOfVertex'.
-/
import Derived.Test.YteankhgikpejhaaNc
namespace Go.Proofs.Yteankhgikpejhaa
open Go.RowKit Go.Sort

theorem insert_any (base bv m cc : Nat) (ac : Option Addr) (l : List Cr) (f : Cr) (w : World) (hl : l.length = m) (h1 : 1 ≤ m) (hm : m ≤ 9) (hown : w.ownsRow base 101 3 (.slice ac m cc) m (crCells l)) (hbase : base ≤ w.heap.size)
    (hb : w.heap[bv]? = some (.cells (crCells [f]).toArray 101 (0, 0))) (hne : ∀ q, ac = some q → q.block ≠ bv) :
    Calls Try.prog 78 #[.slice ac m cc, .int .i64 0, .slice (some ⟨bv, 0, none⟩) 1 1] w
      fun e w' => ∃ g c, e = .returned (.slice (some ⟨g, 0, none⟩) (m + 1) c) ∧ w'.ownsRow base 101 3 (.slice (some ⟨g, 0, none⟩) (m + 1) c) (m + 1) (crCells (f :: l)) ∧ w.grownBy w' (Value.slice ac m cc).ownBlock := by
  have hlf : (crCells (f :: l)).length = (m + 1) * 3 := by rw [crCells_length, List.length_cons, hl]
  rcases hown.2 with ⟨e, h0⟩ | ⟨g, c, cur, e, hbg, hg, hc1, hc2, hc3, hc4⟩
  · omega
  · cases e
    have hlen : (crCells l).length = m * 3 := by rw [crCells_length, hl]
    have hcur : cur = (crCells l ++ cur.toList.drop (m * 3)).toArray := by
      rw [← Array.toList_inj, List.toList_toArray]
      try rw [hlen] at hc4
      conv => lhs; rw [← List.take_append_drop (m * 3) cur.toList, hc4]
    by_cases hroom : m + 1 ≤ cc
    · have hbg' : bv ≠ g := fun e => hne _ rfl e.symm
      refine (insert_room g bv m cc l f (cur.toList.drop (m * 3)) w hl h1 hm hroom hc2 (by rw [List.length_drop, Array.length_toList, hc3]; omega) hbg' (by rw [← hcur]; exact hg) hb).mono ?_
      rintro e w' ⟨rfl, ⟨r', hr', hrow⟩, hgr⟩
      refine ⟨g, cc, rfl, ⟨hlf, .inr ⟨g, cc, _, rfl, hbg, hrow, hroom, hc2, ?_, ?_⟩⟩, hgr⟩
      · rw [List.size_toArray, List.length_append, hlf]
        have : (cur.toList.drop (m * 3)).length = cc * 3 - m * 3 := by rw [List.length_drop, Array.length_toList, hc3]
        omega
      · rw [List.toList_toArray, ← hlf, List.take_left]
    · have hce : cc = m := by omega
      subst hce
      refine (insert_grow g bv cc l f w hl h1 hm (fun j v hj => ?_) hb).mono ?_
      · have hj' : j < (crCells l).length := (List.getElem?_eq_some_iff.1 hj).1
        rw [hcur] at hg
        exact row_cell hg j v (by rw [List.getElem?_append_left hj', hj])
      · rintro e w' ⟨G, rfl, ⟨g1, g2⟩, ⟨r', hr', hrow⟩, hbl⟩
        refine ⟨w.heap.size, G, rfl, ⟨hlf, .inr ⟨w.heap.size, G, _, rfl, hbase, hrow, g1, g2, ?_, ?_⟩⟩, ⟨hbl.os, hbl.tape, hbl.output, hbl.size, fun k hk _ => hbl.block k hk⟩⟩
        · rw [List.size_toArray, List.length_append, hlf]; omega
        · rw [List.toList_toArray, ← hlf, List.take_left]

/-- What 'clothOfVertex' hands back. -/
def VtxPost (zs : List Int) (w : World) (e : Ending) (w' : World) : Prop := Below w.heap.size w w' ∧
  (match closesB zs with
   | true => ∃ v, e = .returned (.tuple #[v, .bool true]) ∧ ClothV w' w.heap.size (vtxCl zs) v
   | false => ∃ v, e = .returned (.tuple #[v, .bool false]))

end Go.Proofs.Yteankhgikpejhaa
