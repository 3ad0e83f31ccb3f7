/-
  The walk of slices.Replace where three elements in a slice are replaced by one, elements being left behind them.
-/
import Derived.Test.YteankhgikpejhaaFp
import Derived.Laws.CopyRow
namespace Go.Proofs.Yteankhgikpejhaa
open Go.RowKit Go.Sort

theorem wpList_copy_run {w w' : World} {ops : Array Oper} {rest : List Oper} {o : Oper} {a : Act} {Q : Exit → Act → World → Prop} (hgd : o.guard = none) (s x : Operand) (t u : TypeId)
    (ho : o.op = .call { callee := .builtin .copy, args := #[s, x], argTypes := #[t, u] }) (v y r : Value) (hs : a.eval s = v) (hx : a.eval x = y)
    (hrun : (Builtin.copy_ #[t, u] o.type #[v, y]).run Try.prog w = .ok r w') (h : wpList Try.prog ops Q rest (a.put o.dst r) w') : wpList Try.prog ops Q (o :: rest) a w := by
  refine wpList_plain hgd fun K hK => ?_
  unfold Oper.wp
  simp [execOp, ho, resolve, invoke, builtin, hs, hx, hrun, Result.andThen]
  exact hK _ _ h
theorem step_copy_run {w w' : World} {ops : Array Oper} {o : Oper} {a : Act} {K : Act → World → Prop} {Q : Exit → Act → World → Prop} {E : Prop} (hgd : o.guard = none) (s x : Operand) (t u : TypeId)
    (ho : o.op = .call { callee := .builtin .copy, args := #[s, x], argTypes := #[t, u] }) (v y r : Value) (hs : a.eval s = v) (hx : a.eval x = y)
    (hrun : (Builtin.copy_ #[t, u] o.type #[v, y]).run Try.prog w = .ok r w') (h : K (a.put o.dst r) w') : if Region.wanted o (yielded ops a.tmps) = true then Oper.wp Try.prog o a w K Q else E := by
  have hw : Region.wanted o (yielded ops a.tmps) = true := by simp [Region.wanted, hgd]
  rw [if_pos hw]
  unfold Oper.wp
  simp [execOp, ho, resolve, invoke, builtin, hs, hx, hrun, Result.andThen]
  exact h
theorem grownBy_drew1 (w : World) (x : Option Nat) : w.grownBy w.drew x := ⟨rfl, rfl, rfl, Nat.le_refl _, fun _ _ _ => rfl⟩
theorem two_of {α : Type} : ∀ (l : List α), l.length = 2 → ∃ a b, l = [a, b]
  | [a, b], _ => ⟨a, b, rfl⟩

set_option maxRecDepth 100000 in
theorem replace_laws (g o bv i m : Nat) (F S R : List Value) (x1 x2 x3 : Value) (z : Int) (w : World) (hF : F.length = o + i) (hS : S.length = m) (hm : 1 ≤ m)
    (hg : w.heap[g]? = some (.cells (F ++ ([x1, x2, x3] ++ (S ++ R))).toArray 3 (0, 0))) (hv : w.cell? ⟨bv, 0, none⟩ = some (.int .i64 z)) (hone : ∀ v ∈ S, v.oneCell' = true) :
    ∃ W1 W2 W3 : World,
      (∀ (ty : TypeId) (d l c1 c2 : Nat), d = o + i → l = 1 + m → (Builtin.copy_ #[22, 22] ty #[.slice (some ⟨g, d, none⟩) l c1, .slice (some ⟨bv, 0, none⟩) 1 c2]).run Try.prog w = .ok (goInt 1) W1)
      ∧ (∀ (ty : TypeId) (d l c1 d' l' c2 : Nat), d = o + i + 1 → l = m → d' = o + i + 3 → l' = m → (Builtin.copy_ #[22, 22] ty #[.slice (some ⟨g, d, none⟩) l c1, .slice (some ⟨g, d', none⟩) l' c2]).run Try.prog W1.drew = .ok (goInt m) W2)
      ∧ (∀ (ty : TypeId) (d l c1 : Nat), d = o + (i + 1 + m) → l = 2 → (Builtin.clear_ #[22] ty #[.slice (some ⟨g, d, none⟩) l c1]).run Try.prog W2 = .ok (.tuple #[]) W3)
      ∧ W3.heap[g]? = some (.cells (F ++ ([Value.int .i64 z] ++ S ++ [Value.int .i64 0, Value.int .i64 0] ++ R)).toArray 3 (0, 0)) ∧ w.grownBy W3 (some g) := by
  obtain ⟨i0, hi0, hz0, hz1, hz2⟩ := info_parts Try.info3
  have hsz : (Try.prog.info? 3).map (·.size) = some 1 := by rw [hi0]; simp [hz1]
  have hcp1 := fun ty c1 c2 => run_copy_row Try.prog w 22 22 ty 3 g (o + i) (1 + m) c1 ⟨bv, 0, none⟩ 1 c2 _ 3 [Value.int .i64 z] Try.underlying22 hsz hg (by simp; try omega) (fun j u hj => by
    match j, hj with
    | 0, hj => simp at hj; subst hj; simpa [Addr.add] using hv) (by simp; try omega) (by simp [Value.oneCell'])
  have e1 : ((F ++ ([x1, x2, x3] ++ (S ++ R))).toArray.toList.take (o + i) ++ [Value.int .i64 z] ++ (F ++ ([x1, x2, x3] ++ (S ++ R))).toArray.toList.drop (o + i + [Value.int .i64 z].length)) = F ++ ([Value.int .i64 z, x2, x3] ++ (S ++ R)) := by
    rw [← hF]
    simp [List.take_append_of_le_length, List.drop_append]
  rw [e1] at hcp1
  obtain ⟨W1, hW1⟩ : ∃ W1, w.setRow g (F ++ ([Value.int .i64 z, x2, x3] ++ (S ++ R))).toArray = W1 := ⟨_, rfl⟩
  rw [hW1] at hcp1
  have g1 : W1.heap[g]? = some (.cells (F ++ ([Value.int .i64 z, x2, x3] ++ (S ++ R))).toArray 3 (0, 0)) := by rw [← hW1]; exact setRow_heap w g _ _ _ _ hg
  have g1' : W1.drew.heap[g]? = some (.cells (F ++ ([Value.int .i64 z, x2, x3] ++ (S ++ R))).toArray 3 (0, 0)) := g1
  have gr1 : w.grownBy W1 (some g) := by rw [← hW1]; exact ⟨rfl, rfl, rfl, by simp [World.setRow], fun k _ hk => setRow_other w g k _ (fun e => hk (by rw [e]))⟩
  have hcp2 := fun ty c1 c2 => run_copy_row Try.prog W1.drew 22 22 ty 3 g (o + i + 1) m c1 ⟨g, o + i + 3, none⟩ m c2 _ 3 S Try.underlying22 hsz g1' (by simp; try omega) (fun j u hj => by
    have ea : (⟨g, o + i + 3, none⟩ : Addr).add j = ⟨g, o + i + 3 + j, none⟩ := by simp [Addr.add]
    rw [ea]
    have hlt : j < S.length := (List.getElem?_eq_some_iff.1 hj).1
    rw [cell_of_row' g1', ← hF, List.getElem?_append_right (by omega), List.getElem?_append_right (by simp; omega), List.getElem?_append_left (by simp; omega), ← hj]
    congr 1; simp; omega) (by simp; omega) hone
  obtain ⟨t1, t2, ht⟩ := two_of (([x2, x3] ++ S).drop m) (by simp; omega)
  have e2 : ((F ++ ([Value.int .i64 z, x2, x3] ++ (S ++ R))).toArray.toList.take (o + i + 1) ++ S ++ (F ++ ([Value.int .i64 z, x2, x3] ++ (S ++ R))).toArray.toList.drop (o + i + 1 + S.length)) = F ++ ([Value.int .i64 z] ++ S ++ [t1, t2] ++ R) := by
    have a1 : (F ++ ([Value.int .i64 z, x2, x3] ++ (S ++ R))) = (F ++ [Value.int .i64 z]) ++ (([x2, x3] ++ S) ++ R) := by simp
    have a2 : (F ++ [Value.int .i64 z]).length = o + i + 1 := by simp [hF]
    rw [List.toList_toArray, a1, List.take_append_of_le_length (by omega), List.take_of_length_le (by omega), List.drop_append, List.drop_of_length_le (by omega), List.drop_append, a2, hS, show o + i + 1 + m - (o + i + 1) = m by omega, ht]
    simp
    rw [show m - (S.length + 1 + 1) = 0 by omega]; rfl
  rw [e2] at hcp2
  obtain ⟨W2, hW2⟩ : ∃ W2, W1.drew.setRow g (F ++ ([Value.int .i64 z] ++ S ++ [t1, t2] ++ R)).toArray = W2 := ⟨_, rfl⟩
  rw [hW2] at hcp2
  have g2 : W2.heap[g]? = some (.cells (F ++ ([Value.int .i64 z] ++ S ++ [t1, t2] ++ R)).toArray 3 (0, 0)) := by rw [← hW2]; exact setRow_heap W1.drew g _ _ _ _ g1'
  have gr2 : W1.drew.grownBy W2 (some g) := by rw [← hW2]; exact ⟨rfl, rfl, rfl, by simp [World.setRow], fun k _ hk => setRow_other W1.drew g k _ (fun e => hk (by rw [e]))⟩
  have hclr := fun ty c1 => Lib.run_clear_slice (P := Try.prog) W2 22 3 ty (.int .i64 0) Try.underlying22 Try.zeroValue3 rfl rfl g (o + (i + 1 + m)) 2 c1 (by omega)
    (fun j hj => by rw [cell_of_row' g2]; simp; omega) (fun j hj => row_free g2 _)
  have g3 : (W2.setCells g (o + (i + 1 + m)) (List.replicate 2 (.int .i64 0))).heap[g]? = some (.cells (F ++ ([Value.int .i64 z] ++ S ++ [Value.int .i64 0, Value.int .i64 0] ++ R)).toArray 3 (0, 0)) := by
    show ((W2.setCell ⟨g, o + (i + 1 + m), none⟩ (.int .i64 0)).setCell ⟨g, o + (i + 1 + m) + 1, none⟩ (.int .i64 0)).heap[g]? = _
    have a2 : (F ++ [Value.int .i64 z] ++ S).length = o + (i + 1 + m) := by simp [hF, hS]; omega
    refine setCell_list (setCell_list g2 (ys := F ++ ([Value.int .i64 z] ++ S ++ [Value.int .i64 0, t2] ++ R)) ?_) ?_
    · rw [show F ++ ([Value.int .i64 z] ++ S ++ [t1, t2] ++ R) = (F ++ [Value.int .i64 z] ++ S) ++ ([t1, t2] ++ R) by simp, ← a2, List.set_append_right _ _ (by omega)]; simp
    · rw [show F ++ ([Value.int .i64 z] ++ S ++ [Value.int .i64 0, t2] ++ R) = (F ++ [Value.int .i64 z] ++ S) ++ ([Value.int .i64 0, t2] ++ R) by simp, ← a2, List.set_append_right _ _ (by omega)]; simp [Nat.add_sub_cancel_left]
  have gr3 : W2.grownBy (W2.setCells g (o + (i + 1 + m)) (List.replicate 2 (.int .i64 0))) (some g) := World.grownBy.trans (grownBy_setCell1 W2 g _ _) (grownBy_setCell1 _ g _ _)
  exact ⟨W1, W2, _, fun ty d l c1 c2 e1 e2 => by subst e1 e2; exact hcp1 ty c1 c2, fun ty d l c1 d' l' c2 e1 e2 e3 e4 => by subst e1 e2 e3 e4; have := hcp2 ty c1 c2; rw [hS] at this; exact this, fun ty d l c1 e1 e2 => by subst e1 e2; exact hclr ty c1, g3, World.grownBy.trans gr1 (World.grownBy.trans (grownBy_drew1 W1 (some g)) (World.grownBy.trans gr2 gr3))⟩

theorem grownBy_drewM (w : World) (n : Nat) (x : Option Nat) : w.grownBy (w.drewN n) x := ⟨rfl, rfl, rfl, Nat.le_refl _, fun _ _ _ => rfl⟩

set_option maxRecDepth 100000 in
set_option maxHeartbeats 1000000 in
theorem replace_mid (g o bv i m cap : Nat) (F S R : List Value) (x1 x2 x3 : Value) (z : Int) (w : World) (hF : F.length = o + i) (hS : S.length = m) (hm : 1 ≤ m) (hm2 : m ≤ 1000) (hcap : i + 3 + m + R.length = cap) (hi : i ≤ 1000) (ho : o ≤ 1000)
    (hg : w.heap[g]? = some (.cells (F ++ ([x1, x2, x3] ++ (S ++ R))).toArray 3 (0, 0))) (hv : w.cell? ⟨bv, 0, none⟩ = some (.int .i64 z)) (hone : ∀ v ∈ S, v.oneCell' = true) :
    Calls Try.prog 77 #[.slice (some ⟨g, o, none⟩) (i + 3 + m) cap, .int .i64 i, .int .i64 ((i : Int) + 3), .slice (some ⟨bv, 0, none⟩) 1 1] w
      fun e w' => e = .returned (.slice (some ⟨g, o, none⟩) (i + 1 + m) cap) ∧ w'.heap[g]? = some (.cells (F ++ ([Value.int .i64 z] ++ S ++ [Value.int .i64 0, Value.int .i64 0] ++ R)).toArray 3 (0, 0)) ∧ w.grownBy w' (some g) := by
  go_enter Try.func77, Try.ntmps77
  have HI := Lib.hid (And.intro hF (And.intro hS (And.intro hg (And.intro hv hone))))
  clear hF hS hg hv hone
  go_wp2
  go_quiet (fail)
  obtain ⟨wq, hwq⟩ : ∃ wq, w.drewN nq = wq := ⟨_, rfl⟩
  obtain ⟨W1, W2, W3, r1, r2, r3, q1, q2⟩ := replace_laws g o bv i m F S R x1 x2 x3 z (w.drewN nq) HI.out.1 HI.out.2.1 hm HI.out.2.2.1 HI.out.2.2.2.1 HI.out.2.2.2.2
  have HQ := Lib.hid (And.intro q1 (World.grownBy.trans (grownBy_drewM w nq (some g)) q2))
  rw [hwq] at r1 ⊢
  have Hcp1 := Lib.hid r1
  have Hcp2 := Lib.hid r2
  have Hclr := Lib.hid r3
  clear r1 r2 r3 q1 q2 hwq HI
  go_wp2_with (first
    | (refine wpList_copy_run rfl (.tmp 95) (.tmp 96) 22 22 rfl (.slice (some ⟨g, o + i, none⟩) (i + 1 + m - i) (cap - i)) (.slice (some ⟨bv, 0, none⟩) 1 1) (goInt 1) (w' := W1) rfl rfl (Hcp1.out _ _ _ _ _ rfl (by omega)) ?_))
  have hsum : IntKind.i64.wrap ((i : Int) + 1) = (i : Int) + 1 := IntWalk.i64_in _ (by omega)
  have hs0 : (0 : Int) ≤ (i : Int) + 1 := by omega
  have hs1 : ((i : Int) + 1).toNat = i + 1 := by omega
  have hs3 : ((i : Int) + 3).toNat = i + 3 := by omega
  have hs4 : (i : Int) + 1 ≤ (i : Int) + 1 + (m : Int) := by omega
  have hs5 : (i : Int) + 3 ≤ (i : Int) + 3 + (m : Int) := by omega
  have hs6 : ¬ (cap = i + 1) := by omega
  have hs7 : ¬ (cap = i + 3) := by omega
  have hs8 : (0 : Int) ≤ (i : Int) + 3 := by omega
  go_region_law (refine step_copy_run rfl (.tmp 103) (.tmp 106) 22 22 rfl (.slice (some ⟨g, o + (i + 1), none⟩) (i + 1 + m - (i + 1)) (cap - (i + 1))) (.slice (some ⟨g, o + (i + 3), none⟩) (i + 3 + m - (i + 3)) (cap - (i + 3))) (goInt m) (w' := W2) (by simp [Act.eval, Act.put]) (by simp [Act.eval, Act.put]) (Hcp2.out _ _ _ _ _ _ _ (by omega) (by omega) (by omega) (by omega)) ?_)
  clear hs1 hs3 hs4 hs5 hs6 hs7 hs8 hsum hs0
  have ht1 : ((i : Int) + 1 + (m : Int)).toNat = i + 1 + m := by omega
  have ht2 : (i : Int) + 1 + (m : Int) ≤ (i : Int) + 3 + (m : Int) := by omega
  have ht3 : ¬ (cap = i + 1 + m) := by omega
  have ht4 : (0 : Int) ≤ (i : Int) + 1 + (m : Int) := by omega
  go_wp2_with (refine wpList_clear_run rfl (.tmp 110) 22 rfl (.slice (some ⟨g, o + (i + 1 + m), none⟩) (i + 3 + m - (i + 1 + m)) (cap - (i + 1 + m))) (.tuple #[]) (w' := W3) rfl (fun ty => Hclr.out ty _ _ _ (by omega) (by omega)) ?_)
  · go_ret
    exact ⟨rfl, HQ.out.1, HQ.out.2⟩

end Go.Proofs.Yteankhgikpejhaa
