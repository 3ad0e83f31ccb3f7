/-
  A graph, its rows.
-/
import Derived.Test.YteckeobhlfddlaaRb
namespace Go.Proofs.Yteckeobhlfddlaa.Rib

section
open Go.RowKit Go.Sort

/-- The graph without edges: every node is in its own set. -/
def startG (n : Nat) : List Nat := (List.range n).map (2 ^ ·)
/-- An edge more. -/
def addEdge (gs : List Nat) (A B : Nat) : List Nat :=
  let g1 := gs.set A ((gs[A]?.getD 0) ||| 2 ^ B)
  g1.set B ((g1[B]?.getD 0) ||| 2 ^ A)
/-- Whether an edge may not be added. -/
def badEdge (n : Nat) (gs : List Nat) (A B : Int) : Bool := decide (A < 0) || (decide (B ≤ A) || (decide ((n : Int) ≤ B) || (gs[A.toNat]?.getD 0).testBit B.toNat))
/-- The graph of some edges more, if they are valid. -/
def graphFrom (n : Nat) : List Nat → List (Int × Int) → Option (List Nat)
  | gs, [] => some gs
  | gs, (A, B) :: es => if badEdge n gs A B = true then none else graphFrom n (addEdge gs A.toNat B.toNat) es
def graphN (n : Int) (es : List (Int × Int)) : Option (List Nat) :=
  if 1 ≤ n ∧ n ≤ 12 then graphFrom n.toNat (startG n.toNat) es else none

theorem startG_len (n : Nat) : (startG n).length = n := by simp [startG]
theorem addEdge_len (gs : List Nat) (A B : Nat) : (addEdge gs A B).length = gs.length := by simp [addEdge]
theorem startG_lt {n : Nat} (hn : n ≤ 12) (i : Nat) (hi : i < n) : (startG n)[i]?.getD 0 < 65536 := by
  have : (startG n)[i]?.getD 0 = 2 ^ i := by simp [startG, hi]
  rw [this]
  exact Nat.pow_lt_pow_right (n := 16) (by omega) (by omega)
theorem set_lt {gs : List Nat} (h : ∀ i, i < gs.length → gs[i]?.getD 0 < 65536) (A x : Nat) (hx : x < 65536) : ∀ i, i < (gs.set A x).length → (gs.set A x)[i]?.getD 0 < 65536 := by
  intro i hi
  rw [List.length_set] at hi
  rw [List.getElem?_set]
  by_cases e : A = i
  · subst e; simp [hi, hx]
  · simp only [e, if_false]; exact h i hi
theorem get_lt {gs : List Nat} (h : ∀ i, i < gs.length → gs[i]?.getD 0 < 65536) (A : Nat) : gs[A]?.getD 0 < 65536 := by
  by_cases e : A < gs.length
  · exact h A e
  · rw [List.getElem?_eq_none (by omega)]; simp
theorem addEdge_lt {gs : List Nat} (h : ∀ i, i < gs.length → gs[i]?.getD 0 < 65536) (A B : Nat) (hA : A < 16) (hB : B < 16) : ∀ i, i < (addEdge gs A B).length → (addEdge gs A B)[i]?.getD 0 < 65536 := by
  have pA : 2 ^ A < 2 ^ 16 := Nat.pow_lt_pow_right (by omega) hA
  have pB : 2 ^ B < 2 ^ 16 := Nat.pow_lt_pow_right (by omega) hB
  have h1 := set_lt h A ((gs[A]?.getD 0) ||| 2 ^ B) (Nat.or_lt_two_pow (n := 16) (get_lt h A) pB)
  exact set_lt h1 B _ (Nat.or_lt_two_pow (n := 16) (get_lt h1 B) pA)

theorem graphOf_bad (v : Value) (z : Int) (w : World) (hz : z < 1 ∨ 12 < z) :
    Calls Try.prog 14 #[.int .i64 z, v] w fun e w' => e = .returned (.tuple #[.slice none 0 0, .bool false]) ∧ w = w' := by
  by_cases h : z < 1
  · clear hz
    go_enter Try.func14, Try.ntmps14
    go_wp2
    go_ret2
    exact ⟨rfl, rfl⟩
  · have h2 : 12 < z := by omega
    clear hz
    go_enter Try.func14, Try.ntmps14
    go_wp2
    go_ret2
    exact ⟨rfl, rfl⟩
end

section
open Go.RowKit Go.Sort

theorem Try.infoSet : (Try.prog.info? 68).map (fun i => (i.zero, i.size, i.bytes)) = some (some (.int .u16 0), 1, 2) := by kernel_rfl
theorem made_sets (n : Nat) : madeCells #[Value.int .u16 0] n = (List.replicate n (Value.int .u16 0)).toArray := by
  rw [← Array.toList_inj, toList_madeCells_one]
theorem make_sets (n : Nat) (h : n ≤ 1000) (w : World) :
    (Instr.makeSlice 48 (.int .i64 (n : Int)) (.int .i64 (n : Int))).run Try.prog w = .ok (.slice (some ⟨w.heap.size, 0, none⟩) n n) (w.alloc (.cells (List.replicate n (Value.int .u16 0)).toArray 68)) := by
  obtain ⟨i0, hi, hz0, hz1, hz2⟩ := info_parts Try.infoSet
  have hr := run_make (P := Try.prog) w 48 68 i0 (.int .u16 0) Try.underlying48 hi hz0 .i64 .i64 n n (by omega) (Int.le_refl _) (by rw [hz2]; omega) (by omega)
  rw [hz1, Nat.mul_one, Int.toNat_natCast] at hr
  rw [hr, ← made_sets]
  rfl

theorem sz_set (w : World) (p : Addr) (v : Value) : (w.setCell p v).heap.size = w.heap.size := by
  show (w.heap.modify p.block _).size = _
  rw [Array.size_modify]
theorem sz_alloc (w : World) (o : Obj) : (w.alloc o).heap.size = w.heap.size + 1 := by simp
/-- A block that holds sets. -/
def RowG (w : World) (g : Nat) (gs : List Nat) : Prop := w.heap[g]? = some (.cells (gs.map fun (x : Nat) => Value.int .u16 x).toArray 68 (0, 0))
theorem RowG.at {w : World} {g : Nat} {gs : List Nat} (h : RowG w g gs) {j : Nat} (hj : j < gs.length) : w.cell? ⟨g, j, none⟩ = some (.int .u16 ((gs[j]?.getD 0 : Nat) : Int)) := by
  unfold RowG at h
  simp [World.cell?, h, hj]
theorem RowG.free {w : World} {g : Nat} {gs : List Nat} (h : RowG w g gs) (j : Nat) : w.frozen? ⟨g, j, none⟩ = false := row_free h j
theorem RowG.put {w : World} {g : Nat} {gs : List Nat} (h : RowG w g gs) (j x : Nat) : RowG (w.setCell ⟨g, j, none⟩ (.int .u16 (x : Int))) g (gs.set j x) := by
  rw [RowG, heap_setCell_self h]
  simp [List.map_set]
theorem RowG.sets {w : World} {g : Nat} {gs : List Nat} (h : RowG w g gs) : Sets w (some ⟨g, 0, none⟩) gs := fun i hi => ⟨g, 0, rfl, by rw [Nat.zero_add]; exact h.at hi⟩
theorem RowG.below {w w' : World} {g B : Nat} {gs : List Nat} (h : RowG w g gs) (hb : Below B w w') (hg : g < B) : RowG w' g gs := row_below h hb hg

/-- The sets of the first nodes are laid. -/
def startTo (n k : Nat) : List Nat := (List.range k).map (2 ^ ·) ++ List.replicate (n - k) 0
theorem startTo_len {n k : Nat} (h : k ≤ n) : (startTo n k).length = n := by simp [startTo]; omega
theorem startTo_zero (n : Nat) : startTo n 0 = List.replicate n 0 := by simp [startTo]
theorem startTo_done (n : Nat) : startTo n n = startG n := by simp [startTo, startG]
theorem startTo_next {n k : Nat} (h : k < n) : (startTo n k).set k (2 ^ k) = startTo n (k + 1) := by
  unfold startTo
  rw [List.set_append_right _ _ (by simp), List.length_map, List.length_range, Nat.sub_self]
  obtain ⟨d, hd⟩ : ∃ d, n - k = d + 1 := ⟨n - k - 1, by omega⟩
  rw [hd, show n - (k + 1) = d by omega, List.replicate_succ, List.set_cons_zero, List.range_succ, List.map_append, List.append_assoc]
  rfl

theorem row_new (w : World) (n : Nat) : RowG (w.alloc (.cells (List.replicate n (Value.int .u16 0)).toArray 68)) w.heap.size (startTo n 0) := by
  rw [RowG, startTo_zero, heap_alloc_new, List.map_replicate]
  rfl
end

end Go.Proofs.Yteckeobhlfddlaa.Rib
