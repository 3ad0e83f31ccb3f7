/-
  The walks of slices.Replace (three elements at the end by one), 'canCrimp', 'reduceOnce', 'Reduce' at the strip 3 1 3 with VM.
-/
import Derived.Test.YteankhgikpejhaaFo
import Derived.Lib.SliceRun
namespace Go.Proofs.Yteankhgikpejhaa
open Go.RowKit Go.Sort

theorem cell_of_row' {w : World} {g : Nat} {xs : List Value} {t : TypeId} (h : w.heap[g]? = some (.cells xs.toArray t (0, 0))) (j : Nat) : w.cell? ⟨g, j, none⟩ = xs[j]? := by simp [World.cell?, h]
theorem grownBy_setCell1 (W : World) (b o : Nat) (v : Value) : W.grownBy (W.setCell ⟨b, o, none⟩ v) (some b) :=
  ⟨rfl, rfl, rfl, (KeepsWalks.setCell W _ v).size, fun k _ hk => Below.heap_setCell _ _ _ k (fun e => hk (by rw [e]))⟩
theorem setCell_list {w : World} {g j : Nat} {xs ys : List Value} {t : TypeId} {v : Value} (h : w.heap[g]? = some (.cells xs.toArray t (0, 0))) (e : xs.set j v = ys) : (w.setCell ⟨g, j, none⟩ v).heap[g]? = some (.cells ys.toArray t (0, 0)) := by
  rw [heap_setCell_self h, ← e]; simp

/-- A builtin whose run is known. -/
theorem wpList_append_run {w w' : World} {ops : Array Oper} {rest : List Oper} {o : Oper} {a : Act} {Q : Exit → Act → World → Prop} (hgd : o.guard = none) (s x : Operand) (t : TypeId)
    (ho : o.op = .call { callee := .builtin .append, args := #[s, x], argTypes := #[t, t] }) (v u r : Value) (hs : a.eval s = v) (hx : a.eval x = u)
    (hrun : ∀ ty, (Builtin.append_ #[t, t] ty #[v, u]).run Try.prog w = .ok r w') (h : wpList Try.prog ops Q rest (a.put o.dst r) w') : wpList Try.prog ops Q (o :: rest) a w := by
  refine wpList_plain hgd fun K hK => ?_
  unfold Oper.wp
  simp [execOp, ho, resolve, invoke, builtin, hs, hx, hrun, Result.andThen]
  exact hK _ _ h
theorem wpList_clear_run {w w' : World} {ops : Array Oper} {rest : List Oper} {o : Oper} {a : Act} {Q : Exit → Act → World → Prop} (hgd : o.guard = none) (s : Operand) (t : TypeId)
    (ho : o.op = .call { callee := .builtin .clear, args := #[s], argTypes := #[t] }) (v r : Value) (hs : a.eval s = v)
    (hrun : ∀ ty, (Builtin.clear_ #[t] ty #[v]).run Try.prog w = .ok r w') (h : wpList Try.prog ops Q rest (a.put o.dst r) w') : wpList Try.prog ops Q (o :: rest) a w := by
  refine wpList_plain hgd fun K hK => ?_
  unfold Oper.wp
  simp [execOp, ho, resolve, invoke, builtin, hs, hrun, Result.andThen]
  exact hK _ _ h

set_option maxRecDepth 100000 in
set_option maxHeartbeats 1000000 in
theorem replace_end (g bv i cap : Nat) (A rest : List Value) (x1 x2 x3 : Value) (z : Int) (w : World) (hA : A.length = i) (hcap : i + 3 + rest.length = cap) (hi : i ≤ 1000) (hg : w.heap[g]? = some (.cells (A ++ ([x1, x2, x3] ++ rest)).toArray 3 (0, 0)))
    (hv : w.cell? ⟨bv, 0, none⟩ = some (.int .i64 z)) :
    Calls Try.prog 77 #[.slice (some ⟨g, 0, none⟩) (i + 3) cap, .int .i64 i, .int .i64 ((i : Int) + 3), .slice (some ⟨bv, 0, none⟩) 1 1] w
      fun e w' => e = .returned (.slice (some ⟨g, 0, none⟩) (i + 1) cap) ∧ w'.heap[g]? = some (.cells (A ++ ([Value.int .i64 z, Value.int .i64 0, Value.int .i64 0] ++ rest)).toArray 3 (0, 0)) ∧ w.grownBy w' (some g) := by
  obtain ⟨i0, hi0, hz0, hz1, hz2⟩ := info_parts Try.info3
  have happ := fun ty => run_append_room (P := Try.prog) w 22 ty 3 i0 Try.underlying22 hi0 g i cap _ hg ⟨bv, 0, none⟩ 1 1 [Value.int .i64 z] (by simp [hz1]) (fun j u hj => by
    match j, hj with
    | 0, hj => simp at hj; subst hj; simpa [Addr.add] using hv) (by simp [Value.oneCell']) (by omega) (by simp [hz1, hA])
  have e1 : ((A ++ ([x1, x2, x3] ++ rest)).toArray.toList.take (i * i0.size) ++ [Value.int .i64 z] ++ (A ++ ([x1, x2, x3] ++ rest)).toArray.toList.drop (i * i0.size + [Value.int .i64 z].length)) = A ++ ([Value.int .i64 z, x2, x3] ++ rest) := by
    subst hA
    rw [hz1, Nat.mul_one]
    simp [List.take_append_of_le_length, List.drop_append]
  rw [e1] at happ
  obtain ⟨W1, hW1⟩ : ∃ W1, w.setRow g (A ++ ([Value.int .i64 z, x2, x3] ++ rest)).toArray = W1 := ⟨_, rfl⟩
  rw [hW1] at happ
  have g1 : W1.heap[g]? = some (.cells (A ++ ([Value.int .i64 z, x2, x3] ++ rest)).toArray 3 (0, 0)) := by rw [← hW1]; exact setRow_heap w g _ _ _ _ hg
  have gr1 : w.grownBy W1 (some g) := by rw [← hW1]; exact ⟨rfl, rfl, rfl, by simp [World.setRow], fun k _ hk => setRow_other w g k _ (fun e => hk (by rw [e]))⟩
  have hclr := fun ty => Lib.run_clear_slice (P := Try.prog) W1 22 3 ty (.int .i64 0) Try.underlying22 Try.zeroValue3 rfl rfl g (i + 1) 2 (cap - (i + 1)) (by omega)
    (fun j hj => by rw [cell_of_row' g1]; simp [hA]; omega) (fun j hj => row_free g1 _)
  have g2 : (W1.setCells g (i + 1) (List.replicate 2 (.int .i64 0))).heap[g]? = some (.cells (A ++ ([Value.int .i64 z, Value.int .i64 0, Value.int .i64 0] ++ rest)).toArray 3 (0, 0)) := by
    show ((W1.setCell ⟨g, i + 1, none⟩ (.int .i64 0)).setCell ⟨g, i + 1 + 1, none⟩ (.int .i64 0)).heap[g]? = _
    refine setCell_list (setCell_list g1 (ys := A ++ ([Value.int .i64 z, Value.int .i64 0, x3] ++ rest)) ?_) ?_
    · subst hA; rw [List.set_append_right _ _ (by omega)]; simp
    · subst hA; rw [List.set_append_right _ _ (by omega)]; simp [Nat.add_sub_cancel_left, show A.length + 1 + 1 - A.length = 2 by omega]
  have gr2 : W1.grownBy (W1.setCells g (i + 1) (List.replicate 2 (.int .i64 0))) (some g) := World.grownBy.trans (grownBy_setCell1 W1 g (i + 1) _) (grownBy_setCell1 _ g (i + 1 + 1) _)
  have HF := Lib.hid (And.intro g2 (World.grownBy.trans gr1 gr2))
  have Hi := Lib.hid hA
  have Happ := Lib.hid happ
  have Hclr := Lib.hid hclr
  clear g1 gr1 g2 gr2 hW1 e1 hg hv hi0 hz0 hz1 hz2 hA happ hclr
  go_enter Try.func77, Try.ntmps77
  go_wp2_with (first
    | (refine wpList_append_run rfl (.tmp 32) (.tmp 33) 22 rfl _ _ _ rfl rfl Happ.out ?_)
    | (refine wpList_clear_run rfl (.tmp 43) 22 rfl (.slice (some ⟨g, i + 1, none⟩) 2 (cap - (i + 1))) _ rfl Hclr.out ?_))
  · go_ret
    exact ⟨rfl, HF.out.1, HF.out.2⟩

end Go.Proofs.Yteankhgikpejhaa
