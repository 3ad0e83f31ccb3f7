/-
  The walk of 'graphOf'.
-/
import Derived.Test.YthlbedhjekbfpaaDoorRg
namespace Go.Proofs.YthlbedhjekbfpaaDoor
open Go.RowKit Go.Sort

theorem Tryd.infoSet : (Tryd.prog.info? 67).map (fun i => (i.zero, i.size, i.bytes)) = some (some (.int .u16 0), 1, 2) := by kernel_rfl
theorem made_sets (n : Nat) : madeCells #[Value.int .u16 0] n = (List.replicate n (Value.int .u16 0)).toArray := by
  rw [← Array.toList_inj, toList_madeCells_one]
theorem make_sets (n : Nat) (h : n ≤ 1000) (w : World) :
    (Instr.makeSlice 60 (.int .i64 (n : Int)) (.int .i64 (n : Int))).run Tryd.prog w = .ok (.slice (some ⟨w.heap.size, 0, none⟩) n n) (w.alloc (.cells (List.replicate n (Value.int .u16 0)).toArray 67)) := by
  obtain ⟨i0, hi, hz0, hz1, hz2⟩ := info_parts Tryd.infoSet
  have hr := run_make (P := Tryd.prog) w 60 67 i0 (.int .u16 0) Tryd.underlying60 hi hz0 .i64 .i64 n n (by omega) (Int.le_refl _) (by rw [hz2]; omega) (by omega)
  rw [hz1, Nat.mul_one, Int.toNat_natCast] at hr
  rw [hr, ← made_sets]
  rfl

theorem sz_set (w : World) (p : Addr) (v : Value) : (w.setCell p v).heap.size = w.heap.size := by
  show (w.heap.modify p.block _).size = _
  rw [Array.size_modify]
theorem sz_alloc (w : World) (o : Obj) : (w.alloc o).heap.size = w.heap.size + 1 := by simp
/-- A block that holds sets. -/
def RowG (w : World) (g : Nat) (gs : List Nat) : Prop := w.heap[g]? = some (.cells (gs.map fun (x : Nat) => Value.int .u16 x).toArray 67 (0, 0))
theorem RowG.at {w : World} {g : Nat} {gs : List Nat} (h : RowG w g gs) {j : Nat} (hj : j < gs.length) : w.cell? ⟨g, j, none⟩ = some (.int .u16 ((gs[j]?.getD 0 : Nat) : Int)) := by
  unfold RowG at h
  simp [World.cell?, h, hj]
theorem RowG.free {w : World} {g : Nat} {gs : List Nat} (h : RowG w g gs) (j : Nat) : w.frozen? ⟨g, j, none⟩ = false := row_free h j
theorem RowG.put {w : World} {g : Nat} {gs : List Nat} (h : RowG w g gs) (j x : Nat) : RowG (w.setCell ⟨g, j, none⟩ (.int .u16 (x : Int))) g (gs.set j x) := by
  rw [RowG, heap_setCell_self h]
  simp [List.map_set]
theorem RowG.sets {w : World} {g : Nat} {gs : List Nat} (h : RowG w g gs) : Sets w (some ⟨g, 0, none⟩) gs := fun i hi => ⟨g, 0, rfl, by rw [Nat.zero_add]; exact h.at hi⟩
theorem RowG.below {w w' : World} {g B : Nat} {gs : List Nat} (h : RowG w g gs) (hb : Below B w w') (hg : g < B) : RowG w' g gs := row_below h hb hg

/-- The sets of the first nodes are laid. -/
def startTo (n k : Nat) : List Nat := (List.range k).map (2 ^ ·) ++ List.replicate (n - k) 0
theorem startTo_len {n k : Nat} (h : k ≤ n) : (startTo n k).length = n := by simp [startTo]; omega
theorem startTo_zero (n : Nat) : startTo n 0 = List.replicate n 0 := by simp [startTo]
theorem startTo_done (n : Nat) : startTo n n = startG n := by simp [startTo, startG]
theorem startTo_next {n k : Nat} (h : k < n) : (startTo n k).set k (2 ^ k) = startTo n (k + 1) := by
  unfold startTo
  rw [List.set_append_right _ _ (by simp), List.length_map, List.length_range, Nat.sub_self]
  obtain ⟨d, hd⟩ : ∃ d, n - k = d + 1 := ⟨n - k - 1, by omega⟩
  rw [hd, show n - (k + 1) = d by omega, List.replicate_succ, List.set_cons_zero, List.range_succ, List.map_append, List.append_assoc]
  rfl

theorem row_new (w : World) (n : Nat) : RowG (w.alloc (.cells (List.replicate n (Value.int .u16 0)).toArray 67)) w.heap.size (startTo n 0) := by
  rw [RowG, startTo_zero, heap_alloc_new, List.map_replicate]
  rfl

end Go.Proofs.YthlbedhjekbfpaaDoor
