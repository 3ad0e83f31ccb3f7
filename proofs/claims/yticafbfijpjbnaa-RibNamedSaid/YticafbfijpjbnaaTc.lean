/-
  Slices of slices, read; appends of several slices; appends in a guarded place.
-/
import Derived.Test.YticafbfijpjbnaaTb
namespace Go.Proofs.Yticafbfijpjbnaa
open Go.RowKit Go.Sort

/-- A slice of integers, as a value. -/
def ElemV (w : World) (v : Value) (l : List Int) : Prop := ∃ a c, v = .slice a l.length c ∧ Ints w a l
def EV (w : World) : List Value → List (List Int) → Prop
  | [], [] => True
  | v :: vs, l :: ls => ElemV w v l ∧ EV w vs ls
  | _, _ => False
theorem ElemV.below {w w' : World} {v : Value} {l : List Int} (h : ElemV w v l) (hb : Below w.heap.size w w') : ElemV w' v l := by
  obtain ⟨a, c, e, hi⟩ := h
  exact ⟨a, c, e, hi.below hb⟩
theorem EV.len {w : World} : ∀ {vs : List Value} {ls : List (List Int)}, EV w vs ls → vs.length = ls.length
  | [], [], _ => rfl
  | _ :: _, _ :: _, h => by simp [EV.len h.2]
theorem EV.below {w w' : World} (hb : Below w.heap.size w w') : ∀ {vs : List Value} {ls : List (List Int)}, EV w vs ls → EV w' vs ls
  | [], [], _ => trivial
  | _ :: _, _ :: _, h => ⟨h.1.below hb, EV.below hb h.2⟩
theorem EV.append {w : World} : ∀ {vs us : List Value} {ls ms : List (List Int)}, EV w vs ls → EV w us ms → EV w (vs ++ us) (ls ++ ms)
  | [], _, [], _, _, k => k
  | _ :: _, _, _ :: _, _, h, k => ⟨h.1, EV.append h.2 k⟩
theorem EV.take {w : World} : ∀ {vs : List Value} {ls : List (List Int)} (k : Nat), EV w vs ls → EV w (vs.take k) (ls.take k)
  | [], [], k, _ => by simp [EV]
  | _ :: _, _ :: _, 0, _ => trivial
  | _ :: _, _ :: _, k + 1, h => ⟨h.1, EV.take k h.2⟩
theorem EV.drop {w : World} : ∀ {vs : List Value} {ls : List (List Int)} (k : Nat), EV w vs ls → EV w (vs.drop k) (ls.drop k)
  | [], [], k, _ => by simp [EV]
  | _ :: _, _ :: _, 0, h => h
  | _ :: _, _ :: _, k + 1, h => EV.drop k h.2
theorem EV.at {w : World} : ∀ {vs : List Value} {ls : List (List Int)} (i : Nat), i < ls.length → EV w vs ls → ElemV w (vs[i]?.getD undef) (ls[i]?.getD [])
  | [], [], i, hi, _ => by simp at hi
  | _ :: _, _ :: _, 0, _, h => h.1
  | _ :: _, _ :: _, i + 1, hi, h => by simpa using EV.at i (by simpa using hi) h.2
theorem EV.one {w : World} : ∀ {vs : List Value} {ls : List (List Int)}, EV w vs ls → ∀ v ∈ vs, v.oneCell' = true
  | [], [], _, v, hv => by simp at hv
  | _ :: _, _ :: _, h, v, hv => by
    rcases List.mem_cons.1 hv with rfl | hv
    · obtain ⟨a, c, rfl, _⟩ := h.1; rfl
    · exact EV.one h.2 v hv

/-- A slice of slices that is not nil. -/
def Lists (w : World) (b off : Nat) (ls : List (List Int)) : Prop := ∃ vs, EV w vs ls ∧ ∀ i, i < ls.length → w.cell? ⟨b, off + i, none⟩ = some (vs[i]?.getD undef)
theorem Lists.below {w w' : World} {b off : Nat} {ls : List (List Int)} (h : Lists w b off ls) (hb : Below w.heap.size w w') : Lists w' b off ls := by
  obtain ⟨vs, he, hc⟩ := h
  exact ⟨vs, he.below hb, fun i hi => (hb.cell (p := ⟨b, off + i, none⟩) (World.block_lt_of_cell? w _ (hc i hi))).trans (hc i hi)⟩
theorem Lists.of_owns {w : World} {base g n cap : Nat} {vs : List Value} {ls : List (List Int)} (h : w.ownsRow base 25 1 (.slice (some ⟨g, 0, none⟩) n cap) n vs) (he : EV w vs ls) : Lists w g 0 ls := by
  refine ⟨vs, he, fun i hi => ?_⟩
  have hl := he.len
  have h1 := h.1
  rw [Nat.zero_add, h.cellAt i (by omega), List.getElem?_eq_getElem (by omega)]
  rfl

/-- 'append(v, x...)' of slices of integers. -/
theorem wpList_app_vals {W : World} {ops : Array Oper} {rest : List Oper} {o : Oper} {a : Act} {Q : Exit → Act → World → Prop} (hgd : o.guard = none) (s x : Operand)
    (ho : o.op = .call { callee := .builtin .append, args := #[s, x], argTypes := #[36, 36] }) (base : Nat) (g0 c0 n : Nat) (xs : List Value) (hs : a.eval s = .slice (some ⟨g0, 0, none⟩) n c0) (ad : Addr) (m c : Nat) (us : List Value)
    (hx : a.eval x = .slice (some ad) m c) (hl : us.length = m) (hc : ∀ j u, us[j]? = some u → W.cell? (ad.add j) = some u) (h1 : ∀ u ∈ us, u.oneCell' = true) (hown : W.ownsRow base 25 1 (.slice (some ⟨g0, 0, none⟩) n c0) n xs) (r : Nat) (hr : n + m = r) (hn : r ≤ 1000000) (hbase : base ≤ W.heap.size)
    (h : ∀ (g c' : Nat) (w' : World), w'.ownsRow base 25 1 (.slice (some ⟨g, 0, none⟩) r c') r (xs ++ us) → W.grownBy w' (some g0) → wpList Try.prog ops Q rest (a.put o.dst (.slice (some ⟨g, 0, none⟩) r c')) w') :
    wpList Try.prog ops Q (o :: rest) a W := by
  obtain ⟨i0, hi, hz0, hz1, hz2⟩ := info_parts info22
  subst hr
  refine wpList_append_own_at _ hgd s x 36 ho base 25 i0 (.slice none 0 0) 1 24 Try.underlying36 hi hz0 hz1 hz2 rfl (by decide) _ n xs hs hown ad m c us hx (by omega) hc h1 (by unfold maxLen; omega) (by omega) hbase ?_
  intro v' w' hown' hg hnil _
  rcases hown'.2 with ⟨e, _⟩ | ⟨g, c', cur, e, _⟩
  · have := (hnil.1 e).1
    cases this
  · subst e
    exact h g c' w' hown' hg

/-- An operation whose guard has said yes. -/
theorem wpList_wanted {P : Program} {ops : Array Oper} {Q : Exit → Act → World → Prop} {a : Act} {w : World} {rest : List Oper} {o : Oper} (hw : Region.wanted o (yielded ops a.tmps) = true)
    (h : ∀ K : Act → World → Prop, (∀ a w, wpList P ops Q rest a w → K a w) → o.wp P a w K Q) : wpList P ops Q (o :: rest) a w :=
  wpList_step fun K hK => by simp only [hw, if_true]; exact h K hK
theorem wpList_app_zs_g {W : World} {ops : Array Oper} {rest : List Oper} {o : Oper} {a : Act} {Q : Exit → Act → World → Prop} (hw : Region.wanted o (yielded ops a.tmps) = true) (s x : Operand)
    (ho : o.op = .call { callee := .builtin .append, args := #[s, x], argTypes := #[25, 25] }) (base : Nat) (v : Value) (n : Nat) (xs : List Value) (hs : a.eval s = v) (b off m c : Nat) (zs : List Int)
    (hx : a.eval x = .slice (some ⟨b, off, none⟩) m c) (hl : zs.length = m) (hc : ∀ j, j < zs.length → W.cell? ⟨b, off + j, none⟩ = some (.int .i64 (zs[j]?.getD 0))) (hown : W.ownsRow base 3 1 v n xs) (r : Nat) (hr : n + m = r) (hn : r ≤ 1000000) (hbase : base ≤ W.heap.size)
    (h : ∀ (a' : Option Addr) (c' : Nat) (w' : World), w'.ownsRow base 3 1 (.slice a' r c') r (xs ++ zs.map (Value.int .i64)) → W.grownBy w' v.ownBlock → wpList Try.prog ops Q rest (a.put o.dst (.slice a' r c')) w') :
    wpList Try.prog ops Q (o :: rest) a W := by
  obtain ⟨i0, hi, hz0, hz1, hz2⟩ := info_parts Try.info3
  subst hr
  refine wpList_wanted hw fun K hK => ?_
  obtain ⟨v', w', hrun, hown', hg, _, _⟩ := run_append_own_at (P := Try.prog) W base 25 o.type 3 i0 (.int .i64 0) 1 8 Try.underlying25 hi hz0 hz1 hz2 rfl (by decide) v n xs hown ⟨b, off, none⟩ m c (zs.map (Value.int .i64)) (by simp [hl]) (fun j u hj => by
    have hjl : j < zs.length := by have := (List.getElem?_eq_some_iff.1 hj).1; simpa using this
    have hadd : (⟨b, off, none⟩ : Addr).add j = ⟨b, off + j, none⟩ := by unfold Addr.add; split <;> simp_all
    rw [hadd, hc j hjl, ← hj]
    simp [hjl]) (by simp [Value.oneCell']) (by unfold maxLen; omega) (by omega) hbase
  obtain ⟨a', c', rfl⟩ := ownsRow_slice hown'
  unfold Oper.wp execOp
  simp only [ho, resolve, invoke, builtin, Sem.run_bind, Sem.run_pure, Result.andThen_ok, List.map_toArray, List.map_cons, List.map_nil, hs, hx, hrun]
  exact hK _ _ (h a' c' w' hown' hg)

theorem wpList_app_int_g {W : World} {ops : Array Oper} {rest : List Oper} {o : Oper} {a : Act} {Q : Exit → Act → World → Prop} (hw : Region.wanted o (yielded ops a.tmps) = true) (s x : Operand)
    (ho : o.op = .call { callee := .builtin .append, args := #[s, x], argTypes := #[25, 25] }) (base : Nat) (v : Value) (n : Nat) (xs : List Value) (hs : a.eval s = v) (z : Int) (b : Nat)
    (hx : a.eval x = .slice (some ⟨b, 0, none⟩) 1 1) (hb : b = W.heap.size) (hown : W.ownsRow base 3 1 v n xs) (hn : n ≤ 1000000) (hbase : base ≤ W.heap.size)
    (h : ∀ (g cap : Nat) (w' : World), w'.ownsRow base 3 1 (.slice (some ⟨g, 0, none⟩) (n + 1) cap) (n + 1) (xs ++ [.int .i64 z]) → W.grownBy w' v.ownBlock → wpList Try.prog ops Q rest (a.put o.dst (.slice (some ⟨g, 0, none⟩) (n + 1) cap)) w') :
    wpList Try.prog ops Q (o :: rest) a (W.alloc (.cells #[.int .i64 z] 3)) := by
  obtain ⟨i0, hi, hz0, hz1, hz2⟩ := info_parts Try.info3
  refine wpList_wanted hw fun K hK => ?_
  obtain ⟨v', w', hrun, hown', hg, _, _⟩ := run_append_own_at (P := Try.prog) (W.alloc (.cells #[.int .i64 z] 3)) base 25 o.type 3 i0 (.int .i64 0) 1 8 Try.underlying25 hi hz0 hz1 hz2 rfl (by decide) v n xs (hown.alloc _) ⟨b, 0, none⟩ 1 1 [.int .i64 z] rfl (cells_new W [.int .i64 z] _ b hb) (by simp [Value.oneCell']) (by unfold maxLen; omega) (by omega) (by simp; omega)
  obtain ⟨g, cap, rfl⟩ := ownsRow_succ' hown'
  unfold Oper.wp execOp
  simp only [ho, resolve, invoke, builtin, Sem.run_bind, Sem.run_pure, Result.andThen_ok, List.map_toArray, List.map_cons, List.map_nil, hs, hx, hrun]
  exact hK _ _ (h g cap w' hown' (grown_alloc hg))

theorem own_le {w : World} {base : Nat} {t : TypeId} {g n cap : Nat} {xs : List Value} (h : w.ownsRow base t 1 (.slice (some ⟨g, 0, none⟩) n cap) n xs) : n ≤ cap := by
  rcases h.2 with ⟨e, _⟩ | ⟨g', cap', cur, e, _, _, h1, _⟩
  · cases e
  · cases e; exact h1
theorem refCl_small (es : List (Int × Int)) (n k : Nat) : ∀ l ∈ refCl es n k, l.length ≤ n := by
  intro l hl
  obtain ⟨s, _, rfl⟩ := List.mem_map.1 ((refCl_perm es n k).mem_iff.1 hl)
  rw [bitsR, List.length_map]; exact Nat.le_trans (List.length_filter_le _ _) (by simp)
theorem insAt_step (L : List Int) (ls : List (List Int)) (k : Nat) (hk : k < ls.length) : insAt L (ls.drop k) = if lessZ (ls[k]?.getD []) L = true then insAt L (ls.drop (k + 1)) + 1 else 0 := by
  rw [List.drop_eq_getElem_cons hk, insAt, List.getElem?_eq_getElem hk]; rfl
theorem EV.insert {w : World} {vs : List Value} {ls : List (List Int)} {v : Value} {l : List Int} (h : EV w vs ls) (hv : ElemV w v l) (k : Nat) (hk : insAt l ls = k) : EV w (vs.take k ++ [v] ++ vs.drop k) (insL l ls) := by
  unfold insL
  rw [hk, List.append_assoc]
  exact EV.append (h.take k) (by show EV w (v :: vs.drop k) (l :: ls.drop k); exact ⟨hv, h.drop k⟩)

/-- Two appends onto a row that is new. -/
theorem two_apps {wr w3 w4 : World} {b : Nat} {v3 : Value} {r : Nat} {xs : List Value} (hg3 : (wr.alloc (.cells #[] 3)).grownBy w3 (some b)) (hb : wr.heap.size ≤ b) (hr3 : w3.ownsRow wr.heap.size 3 1 v3 r xs) (hg4 : w3.grownBy w4 v3.ownBlock) : Below wr.heap.size wr w4 := by
  have h1 : Below wr.heap.size wr w3 := ((Below.refl _ wr).alloc (Nat.le_refl _) (.cells #[] 3)).grown hg3 (by simp) (fun k hk => by simp at hk; omega)
  exact h1.grown hg4 h1.size (fun k hk => (hr3.lt k hk).1)

end Go.Proofs.Yticafbfijpjbnaa
