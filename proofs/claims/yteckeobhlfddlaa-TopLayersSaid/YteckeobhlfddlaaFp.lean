/-
  What the laws share.
-/
import Derived.Test.YteckeobhlfddlaaFm
import Derived.Lib.SliceRun
namespace Go.Proofs.Yteckeobhlfddlaa

section
open Go.RowKit Go.Sort

theorem cell_of_row' {w : World} {g : Nat} {xs : List Value} {t : TypeId} (h : w.heap[g]? = some (.cells xs.toArray t (0, 0))) (j : Nat) : w.cell? ⟨g, j, none⟩ = xs[j]? := by simp [World.cell?, h]
theorem grownBy_setCell1 (W : World) (b o : Nat) (v : Value) : W.grownBy (W.setCell ⟨b, o, none⟩ v) (some b) :=
  ⟨rfl, rfl, rfl, (KeepsWalks.setCell W _ v).size, fun k _ hk => Below.heap_setCell _ _ _ k (fun e => hk (by rw [e]))⟩
theorem setCell_list {w : World} {g j : Nat} {xs ys : List Value} {t : TypeId} {v : Value} (h : w.heap[g]? = some (.cells xs.toArray t (0, 0))) (e : xs.set j v = ys) : (w.setCell ⟨g, j, none⟩ v).heap[g]? = some (.cells ys.toArray t (0, 0)) := by
  rw [heap_setCell_self h, ← e]; simp

/-- A builtin whose run is known. -/
theorem wpList_append_run {w w' : World} {ops : Array Oper} {rest : List Oper} {o : Oper} {a : Act} {Q : Exit → Act → World → Prop} (hgd : o.guard = none) (s x : Operand) (t : TypeId)
    (ho : o.op = .call { callee := .builtin .append, args := #[s, x], argTypes := #[t, t] }) (v u r : Value) (hs : a.eval s = v) (hx : a.eval x = u)
    (hrun : ∀ ty, (Builtin.append_ #[t, t] ty #[v, u]).run Try.prog w = .ok r w') (h : wpList Try.prog ops Q rest (a.put o.dst r) w') : wpList Try.prog ops Q (o :: rest) a w := by
  refine wpList_plain hgd fun K hK => ?_
  unfold Oper.wp
  simp [execOp, ho, resolve, invoke, builtin, hs, hx, hrun, Result.andThen]
  exact hK _ _ h
theorem wpList_clear_run {w w' : World} {ops : Array Oper} {rest : List Oper} {o : Oper} {a : Act} {Q : Exit → Act → World → Prop} (hgd : o.guard = none) (s : Operand) (t : TypeId)
    (ho : o.op = .call { callee := .builtin .clear, args := #[s], argTypes := #[t] }) (v r : Value) (hs : a.eval s = v)
    (hrun : ∀ ty, (Builtin.clear_ #[t] ty #[v]).run Try.prog w = .ok r w') (h : wpList Try.prog ops Q rest (a.put o.dst r) w') : wpList Try.prog ops Q (o :: rest) a w := by
  refine wpList_plain hgd fun K hK => ?_
  unfold Oper.wp
  simp [execOp, ho, resolve, invoke, builtin, hs, hrun, Result.andThen]
  exact hK _ _ h
end

section
open Go.RowKit Go.Sort

/-- Whether the segment behind segment j can be folded in between its neighbours. -/
def crimpB (zs : List Int) (s : ByteArray) (j : Nat) : Bool := decide (zs[j + 1]?.getD 0 ≤ zs[j]?.getD 0) && decide (zs[j + 1]?.getD 0 ≤ zs[j + 1 + 1]?.getD 0) && (s.data.toList[j]?.getD 0 != s.data.toList[j + 1]?.getD 0)

theorem byte_ne (a b : UInt8) : (((a.toNat : Int)) != (b.toNat : Int)) = (a != b) := by
  rw [Bool.eq_iff_iff, bne_iff_ne, bne_iff_ne, Ne, Ne, ← UInt8.toNat_inj]; omega
end

section
open Go.RowKit Go.Sort

def vm : ByteArray := ⟨#[86, 77]⟩
def row313 (rest : List Value) : List Value := [Value.int .i64 3, Value.int .i64 1, Value.int .i64 3] ++ rest
def row5 (rest : List Value) : List Value := [Value.int .i64 5, Value.int .i64 0, Value.int .i64 0] ++ rest

theorem ints_313 {w : World} {g : Nat} {rest : List Value} (hg : w.heap[g]? = some (.cells (row313 rest).toArray 3 (0, 0))) : Ints w (some ⟨g, 0, none⟩) [3, 1, 3] := by
  intro i hi
  refine ⟨g, 0, rfl, ?_⟩
  rw [cell_of_row' hg]
  match i, hi with
  | 0, _ => rfl
  | 1, _ => rfl
  | 2, _ => rfl

/-- The world while 3 1 3 still lies there. -/
structure R3 (g : Nat) (rest : List Value) (w wq : World) : Prop where
  row : wq.heap[g]? = some (.cells (row313 rest).toArray 3 (0, 0))
  gr : w.grownBy wq (some g)
theorem R3.drewN {g : Nat} {rest : List Value} {w wq : World} (h : R3 g rest w wq) (n : Nat) : R3 g rest w (wq.drewN n) := ⟨h.row, World.grownBy.trans h.gr ⟨rfl, rfl, rfl, Nat.le_refl _, fun _ _ _ => rfl⟩⟩
theorem R3.cells {g : Nat} {rest : List Value} {w wq : World} (h : R3 g rest w wq) : wq.cell? ⟨g, 0, none⟩ = some (.int .i64 3) ∧ wq.cell? ⟨g, 1, none⟩ = some (.int .i64 1) ∧ wq.cell? ⟨g, 2, none⟩ = some (.int .i64 3) := by
  refine ⟨?_, ?_, ?_⟩ <;> rw [cell_of_row' h.row] <;> rfl
theorem R3.name {g : Nat} {rest : List Value} {w wq : World} (h : R3 g rest w wq) (n : Nat) : ∃ w1, wq.drewN n = w1 ∧ R3 g rest w w1 := ⟨_, rfl, h.drewN n⟩

theorem grownBy_drewN (w : World) (n : Nat) (x : Option Nat) : w.grownBy (w.drewN n) x := ⟨rfl, rfl, rfl, Nat.le_refl _, fun _ _ _ => rfl⟩

/-- What the loop of 'Reduce' keeps at 3 1 3 with VM. -/
def RedI (w : World) (s p b : Value) (wr : World) : Prop := Below w.heap.size w wr ∧ ∃ g cap rest, w.heap.size ≤ g ∧ 3 + rest.length = cap ∧ cap ≤ maxLen ∧
  ((s = .slice (some ⟨g, 0, none⟩) 3 cap ∧ p = .string vm ∧ b = .bool true ∧ wr.heap[g]? = some (.cells (row313 rest).toArray 3 (0, 0))) ∨
   (s = .slice (some ⟨g, 0, none⟩) 1 cap ∧ p = .string ByteArray.empty ∧ (b = .bool true ∨ b = .bool false) ∧ wr.heap[g]? = some (.cells (row5 rest).toArray 3 (0, 0))))
def redM : Value → Value → Nat
  | .slice _ n _, .bool true => n + 1
  | _, _ => 0
/-- What 'Reduce' hands back there. -/
def RedPost (w : World) (e : Ending) (w' : World) : Prop := ∃ g cap, e = .returned (.tuple #[.slice (some ⟨g, 0, none⟩) 1 cap, .string ByteArray.empty, .int .i64 0]) ∧ w.heap.size ≤ g ∧ w'.ownsRow 0 3 1 (.slice (some ⟨g, 0, none⟩) 1 cap) 1 [.int .i64 5] ∧ Below w.heap.size w w'

theorem row_split {w : World} {base g c : Nat} (h : w.ownsRow base 3 1 (.slice (some ⟨g, 0, none⟩) 3 c) 3 [.int .i64 3, .int .i64 1, .int .i64 3]) : ∃ rest, 3 + rest.length = c ∧ c ≤ maxLen ∧ w.heap[g]? = some (.cells (row313 rest).toArray 3 (0, 0)) := by
  rcases h.2 with ⟨h0, _⟩ | ⟨g', c', cur, e, _, hb, h1, h2, h3, h4⟩
  · cases h0
  · cases e
    refine ⟨cur.toList.drop 3, by simp; omega, h2, ?_⟩
    rw [hb]
    have : cur = (row313 (cur.toList.drop 3)).toArray := by
      rw [← Array.toList_inj]
      have h4' : cur.toList.take 3 = [Value.int .i64 3, Value.int .i64 1, Value.int .i64 3] := by simpa using h4
      show cur.toList = row313 (cur.toList.drop 3)
      rw [row313, ← h4', List.take_append_drop]
    rw [← this]
end

section
open Go.RowKit Go.Sort Go.Shelf

theorem take_eq_step {xs ys : List Int} (k : Nat) (hx : k < xs.length) (hy : k < ys.length) (h : xs.take k = ys.take k) (e : xs[k]?.getD 0 = ys[k]?.getD 0) : xs.take (k + 1) = ys.take (k + 1) := by
  rw [List.getElem?_eq_getElem hx, List.getElem?_eq_getElem hy, Option.getD_some, Option.getD_some] at e
  rw [List.take_succ_eq_append_getElem hx, List.take_succ_eq_append_getElem hy, h, e]

theorem live_find : (ordersOf (layCl [3, 1, 3]) 3).find? (fun o => (crsOf [3, 1, 3] o).toList == vm.toList) = some [0, 1, 2] := by decide +kernel
theorem live_count : countOf [1, 1, 1] = 6 := by decide +kernel

theorem Ints.of_owns {w : World} {base n cap : Nat} {a : Option Addr} {l : List Int} (h : w.ownsRow base 3 1 (.slice a n cap) n (l.map (Value.int .i64))) : Ints w a l := by
  rcases ints_cells h with rfl | ⟨b, rfl, _, hc⟩
  · intro i hi; simp at hi
  · intro i hi
    exact ⟨b, 0, rfl, by rw [Nat.zero_add]; exact hc i hi⟩
theorem Ints.of_row {w : World} {b : Nat} {l : List Int} {t : TypeId} (h : w.heap[b]? = some (.cells (l.map (Value.int .i64)).toArray t (0, 0))) : Ints w (some ⟨b, 0, none⟩) l := by
  intro i hi
  refine ⟨b, 0, rfl, ?_⟩
  rw [cell_of_row' h]
  simp [hi]

/-- What 'Layers' hands back at 3 1 3 with VM. -/
def LiveL (w : World) (e : Ending) (w' : World) : Prop := ∃ g cap, e = .returned (.tuple #[.slice (some ⟨g, 0, none⟩) 3 cap, .int .i64 0]) ∧ Ints w' (some ⟨g, 0, none⟩) [0, 1, 2] ∧ Below w.heap.size w w'
def LiveR (w : World) (e : Ending) (w' : World) : Prop := ∃ g cap, e = .returned (.tuple #[.slice (some ⟨g, 0, none⟩) 1 cap, .string ByteArray.empty, .int .i64 0]) ∧ Ints w' (some ⟨g, 0, none⟩) [5] ∧ Below w.heap.size w w'
theorem Count_111 (b m : Nat) (w : World) (hb : w.heap[b]? = some (.cells #[.int .i64 1, .int .i64 1, .int .i64 1] 3 (0, 0))) :
    CallsIn Fence.wide m Try.prog 9 #[.slice (some ⟨b, 0, none⟩) 3 3] w (Gives2 (.int .i64 6) (.int .i64 0) w) := by
  have := Count_good (some ⟨b, 0, none⟩) 3 3 m [1, 1, 1] w rfl (Ints.of_row (l := [1, 1, 1]) hb) rfl
  rw [live_count] at this
  exact this

attribute [local go_sem] Oper.semAt_some
end

section
open Go.RowKit Go.Sort

/-- The remainder of a number by n, from 1 on. -/
def f1Z (v n : Int) : Int := v.tmod n % n + 1
theorem f1Z_bd (v n : Int) (hn : 1 ≤ n) : 1 ≤ f1Z v n ∧ f1Z v n ≤ n := by
  unfold f1Z
  have h1 := Int.emod_nonneg (v.tmod n) (show n ≠ 0 by omega)
  have h2 := Int.emod_lt_of_pos (v.tmod n) (show 0 < n by omega)
  omega

theorem f1Z_wrap (v n : Int) (hn : 1 ≤ n) (hn2 : n ≤ 1000) : wrap64 (v.tmod n % n + 1) = f1Z v n := by
  have := f1Z_bd v n hn
  unfold f1Z at this ⊢
  generalize v.tmod n % n = x at this ⊢
  exact IntWalk.wrap64_in _ (by omega)

theorem tmod_bd (v n : Int) (hn : 1 ≤ n) : -n < v.tmod n ∧ v.tmod n < n := by
  have h1 := Int.tmod_lt_of_pos v (show 0 < n by omega)
  have h2 := Int.lt_tmod_of_pos v (show 0 < n by omega)
  omega
end

section
open Go.RowKit Go.Sort

/-- A slice of integers of the call's own. -/
def IntsV (w w' : World) (l : List Int) (v : Value) : Prop := ∃ g cap, v = .slice (some ⟨g, 0, none⟩) l.length cap ∧ w.heap.size ≤ g ∧ w'.ownsRow w.heap.size 3 1 v l.length (l.map (Value.int .i64))
theorem IntsV.ints {w w' : World} {l : List Int} {v : Value} (h : IntsV w w' l v) : ∃ g cap, v = .slice (some ⟨g, 0, none⟩) l.length cap ∧ Ints w' (some ⟨g, 0, none⟩) l := by
  obtain ⟨g, cap, rfl, _, hr⟩ := h
  exact ⟨g, cap, rfl, Ints.of_owns hr⟩
theorem IntsV.mk {w w' : World} {l : List Int} {g cap : Nat} (h : w'.ownsRow w.heap.size 3 1 (.slice (some ⟨g, 0, none⟩) l.length cap) l.length (l.map (Value.int .i64))) : IntsV w w' l (.slice (some ⟨g, 0, none⟩) l.length cap) :=
  ⟨g, cap, rfl, (h.lt g rfl).1, h⟩

/-- The word of a loop that collects integers. -/
def CollI (w : World) (l : List Int) (k : Nat) (v : Value) (wr : World) : Prop := Below w.heap.size w wr ∧ l.length = k ∧ ∃ g cap, v = .slice (some ⟨g, 0, none⟩) k cap ∧ wr.ownsRow w.heap.size 3 1 v k (l.map (Value.int .i64))
theorem CollI.start (w : World) : CollI w [] 0 (.slice (some ⟨w.heap.size, 0, none⟩) 0 0) (w.alloc (.cells #[] 3)) :=
  ⟨(Below.refl _ w).alloc (Nat.le_refl _) _, rfl, w.heap.size, 0, rfl, rfl, .inr ⟨w.heap.size, 0, #[], rfl, Nat.le_refl _, heap_alloc_new w _, Nat.le_refl _, by unfold maxLen; omega, rfl, rfl⟩⟩
theorem CollI.next {w wr w2 : World} {l : List Int} {k : Nat} {v : Value} {z : Int} {g cap : Nat} (h : CollI w l k v wr) (hr : w2.ownsRow w.heap.size 3 1 (.slice (some ⟨g, 0, none⟩) (k + 1) cap) (k + 1) (l.map (Value.int .i64) ++ [.int .i64 z])) (hg : wr.grownBy w2 v.ownBlock) : CollI w (l ++ [z]) (k + 1) (.slice (some ⟨g, 0, none⟩) (k + 1) cap) w2 := by
  obtain ⟨hb, hl, g0, c0, rfl, h0⟩ := h
  exact ⟨hb.grown hg hb.size (fun q hq => (h0.lt q hq).1), by simp [hl], g, cap, rfl, by simpa using hr⟩
theorem CollI.owns {w wr : World} {l : List Int} {k : Nat} {v : Value} (h : CollI w l k v wr) : wr.ownsRow w.heap.size 3 1 v k (l.map (Value.int .i64)) := by
  obtain ⟨_, _, _, _, _, h0⟩ := h; exact h0
theorem CollI.gives {w wr : World} {l : List Int} {k : Nat} {v : Value} (h : CollI w l k v wr) : IntsV w wr l v := by
  obtain ⟨_, rfl, g, c, rfl, h0⟩ := h; exact IntsV.mk h0

/-- A valid strip made of any numbers. -/
def stripOf (zs : List Int) (most : Nat) (size : Int) : List Int := if (zs.take most).isEmpty = true then [1] else (zs.take most).map (f1Z · size)

theorem stripOf_good (zs : List Int) (most : Nat) (size : Int) (h1 : 1 ≤ most) (h9 : most ≤ 9) (hs : 1 ≤ size) (hs2 : size ≤ 1000) : stripB (stripOf zs most size) = true ∧ (stripOf zs most size).length ≤ most := by
  unfold stripOf
  split
  · exact ⟨rfl, by simpa using h1⟩
  · rename_i h
    rw [List.isEmpty_iff] at h
    have hl : (zs.take most).length ≤ most := by simp; omega
    have hp : 0 < (zs.take most).length := List.length_pos_iff.2 h
    refine ⟨?_, by simpa using hl⟩
    rw [stripB, sizesB, List.length_map]
    simp only [Bool.and_eq_true, decide_eq_true_eq, List.all_eq_true, List.mem_map, forall_exists_index, and_imp, forall_apply_eq_imp_iff₂]
    refine ⟨⟨hp, by omega⟩, fun z _ => ?_⟩
    have := f1Z_bd z size hs
    simp [sizeB]; omega

/-- A pattern with M and V exchanged. -/
def exchZ (l : List UInt8) : List UInt8 := l.map fun c => if c = 86 then 77 else 86
def exchS (s : ByteArray) : ByteArray := ⟨(exchZ s.data.toList).toArray⟩

theorem bytes_push (q : ByteArray) (c : UInt8) (l : List UInt8) (k : Nat) (h1 : q.size = k) (h2 : q.data.toList = l) : (q ++ (⟨#[c]⟩ : ByteArray)).size = k + 1 ∧ (q ++ (⟨#[c]⟩ : ByteArray)).data.toList = l ++ [c] := by
  subst h1 h2
  constructor
  · rw [ByteArray.size_append]; rfl
  · rw [ByteArray.data_append, Array.toList_append]
theorem bytes_eq {q : ByteArray} {l : List UInt8} (h : q.data.toList = l) : q = ⟨l.toArray⟩ := by
  subst h
  cases q; simp
end

end Go.Proofs.Yteckeobhlfddlaa
