/-
  strap: the law's 'cut'.
-/
import Derived.Test.YtbcggbmjbljnfaaDg
import Derived.Laws.AppendOwnNone
import Derived.Lib.SmallJoins
import Derived.Carry
namespace Go.Proofs.Ytbcggbmjbljnfaa
open Go.RowKit Go.Sort

theorem owns_empty (w : World) (t : TypeId) : (w.alloc (.cells #[] t)).ownsRow w.heap.size t 1 (.slice (some ⟨w.heap.size, 0, none⟩) 0 0) 0 [] :=
  ⟨rfl, .inr ⟨w.heap.size, 0, #[], rfl, Nat.le_refl _, heap_alloc_new w _, Nat.le_refl _, by unfold maxLen; omega, rfl, rfl⟩⟩

/-- 'append(v, x...)' of integers that are any numbers. -/
theorem wpList_app_zs {W : World} {ops : Array Oper} {rest : List Oper} {o : Oper} {a : Act} {Q : Exit → Act → World → Prop} (hgd : o.guard = none) (s x : Operand)
    (ho : o.op = .call { callee := .builtin .append, args := #[s, x], argTypes := #[22, 22] }) (base : Nat) (v : Value) (n : Nat) (xs : List Value) (hs : a.eval s = v) (b off m c : Nat) (zs : List Int)
    (hx : a.eval x = .slice (some ⟨b, off, none⟩) m c) (hl : zs.length = m) (hc : ∀ j, j < zs.length → W.cell? ⟨b, off + j, none⟩ = some (.int .i64 (zs[j]?.getD 0))) (hown : W.ownsRow base 3 1 v n xs) (r : Nat) (hr : n + m = r) (hn : r ≤ 1000000) (hbase : base ≤ W.heap.size)
    (h : ∀ (a' : Option Addr) (c' : Nat) (w' : World), w'.ownsRow base 3 1 (.slice a' r c') r (xs ++ zs.map (Value.int .i64)) → W.grownBy w' v.ownBlock → wpList Try.prog ops Q rest (a.put o.dst (.slice a' r c')) w') :
    wpList Try.prog ops Q (o :: rest) a W := by
  obtain ⟨i0, hi, hz0, hz1, hz2⟩ := info_parts Try.info3
  subst hr
  refine wpList_append_own_at _ hgd s x 22 ho base 3 i0 (.int .i64 0) 1 8 Try.underlying22 hi hz0 hz1 hz2 rfl (by decide) v n xs hs hown ⟨b, off, none⟩ m c (zs.map (Value.int .i64)) hx (by simp [hl]) ?_ (by simp [Value.oneCell']) (by unfold maxLen; omega) (by omega) hbase ?_
  · intro j u hj
    have hjl : j < zs.length := by have := (List.getElem?_eq_some_iff.1 hj).1; simpa using this
    have hadd : (⟨b, off, none⟩ : Addr).add j = ⟨b, off + j, none⟩ := by unfold Addr.add; split <;> simp_all
    rw [hadd, hc j hjl, ← hj]
    simp [hjl]
  · intro v' w' hown' hg _ _
    obtain ⟨a', c', rfl⟩ := ownsRow_slice hown'
    exact h a' c' w' hown' hg

/-- 'append(v, x...)' of nothing. -/
theorem wpList_app_nothing {W : World} {ops : Array Oper} {rest : List Oper} {o : Oper} {a : Act} {Q : Exit → Act → World → Prop} (hgd : o.guard = none) (s x : Operand)
    (ho : o.op = .call { callee := .builtin .append, args := #[s, x], argTypes := #[22, 22] }) (base : Nat) (v : Value) (n : Nat) (xs : List Value) (hs : a.eval s = v) (ad : Option Addr) (c : Nat)
    (hx : a.eval x = .slice ad 0 c) (hnone : ad = none → c = 0) (hown : W.ownsRow base 3 1 v n xs) (hn : n ≤ 1000000) (hbase : base ≤ W.heap.size)
    (h : ∀ (a' : Option Addr) (c' : Nat) (w' : World), w'.ownsRow base 3 1 (.slice a' n c') n xs → W.grownBy w' v.ownBlock → wpList Try.prog ops Q rest (a.put o.dst (.slice a' n c')) w') :
    wpList Try.prog ops Q (o :: rest) a W := by
  obtain ⟨i0, hi, hz0, hz1, hz2⟩ := info_parts Try.info3
  cases ad with
  | none =>
    have := hnone rfl
    subst this
    obtain ⟨a', c', rfl⟩ := ownsRow_slice hown
    exact wpList_append_own_none hgd s x 22 ho base 3 i0 1 Try.underlying22 hi _ n xs hs hown hx (h a' c' W hown ⟨rfl, rfl, rfl, Nat.le_refl _, fun _ _ _ => rfl⟩)
  | some ad =>
    refine wpList_append_own_at _ hgd s x 22 ho base 3 i0 (.int .i64 0) 1 8 Try.underlying22 hi hz0 hz1 hz2 rfl (by decide) v n xs hs hown ad 0 c [] hx rfl (fun j u hj => by simp at hj) (by simp) (by unfold maxLen; omega) (by omega) hbase ?_
    intro v' w' hown' hg _ _
    obtain ⟨a', c', rfl⟩ := ownsRow_slice hown'
    rw [List.append_nil] at hown'
    exact h a' c' w' hown' hg

/-- What 'cut' hands back. -/
def CutV (l : List Int) (w : World) (e : Ending) (w' : World) : Prop := ∃ a' c', e = .returned (.slice a' l.length c') ∧ Ints w' a' l ∧ Below w.heap.size w w'
theorem cut_fin {w w2 : World} {a2 : Option Addr} {r c2 : Nat} {l : List Int} (hlr : l.length = r) (hr2 : w2.ownsRow w.heap.size 3 1 (.slice a2 r c2) r ([] ++ l.map (Value.int .i64))) (hg2 : (w.alloc (.cells #[] 3)).grownBy w2 (Value.slice (some ⟨w.heap.size, 0, none⟩) 0 0).ownBlock) :
    CutV l w (.returned (.slice a2 r c2)) w2 := by
  subst hlr
  exact ⟨a2, c2, rfl, Ints.of_owns hr2, ((Below.refl _ w).alloc (Nat.le_refl _) (.cells #[] 3)).grown hg2 (by simp) (fun x hx => by
    have : w.heap.size = x := by simpa [Value.ownBlock] using hx
    omega)⟩


set_option maxRecDepth 100000 in
set_option maxHeartbeats 1000000 in
theorem cut60_any (a : Option Addr) (n cap : Nat) (zs : List Int) (w : World) (hn : zs.length = n) (hm : n ≤ 9223372036854775807) (hcap : n ≤ cap) (hnone : a = none → cap = 0) (hz : Ints w a zs) :
    Calls Try.prog 16 #[.slice a n cap, .int .i64 60] w (CutV (zs.take 61) w) := by
  by_cases h0 : n = 0
  · subst h0
    have e : zs = [] := List.eq_nil_of_length_eq_zero hn
    subst e
    have HNo := Lib.hid hnone
    have HNil : Hid (([] : List Int).take 61 = []) := Lib.hid (by simp)
    rw [HNil.out]
    clear hz hnone
    cases a with
    | none =>
      have hc0 := HNo.out rfl
      subst hc0
      go_enter Try.func16, Try.ntmps16
      go_wp2_with (at_builtin; refine wpList_app_nothing rfl (.tmp 8) (.tmp 14) rfl w.heap.size (.slice (some ⟨w.heap.size, 0, none⟩) 0 0) 0 [] rfl none 0 rfl (fun _ => rfl) (owns_empty w 3) (by omega) (by simp) ?_; intro a2 c2 w2 hr2 hg2; have H2 := Lib.hid (cut_fin (l := []) rfl hr2 hg2); clear hr2 hg2)
      go_ret
      exact H2.out
    | some ad =>
      go_enter Try.func16, Try.ntmps16
      go_wp2_with (at_builtin; refine wpList_app_nothing rfl (.tmp 8) (.tmp 14) rfl w.heap.size (.slice (some ⟨w.heap.size, 0, none⟩) 0 0) 0 [] rfl (some ad) cap rfl (fun h => by cases h) (owns_empty w 3) (by omega) (by simp) ?_; intro a2 c2 w2 hr2 hg2; have H2 := Lib.hid (cut_fin (l := []) rfl hr2 hg2); clear hr2 hg2)
      go_ret
      exact H2.out
  · rcases hz.at with h | ⟨b, off, rfl, hc⟩
    · subst h; simp at hn; omega
    have hcell : ∀ j, j < (zs.take 61).length → (w.alloc (.cells #[] 3)).cell? ⟨b, off + j, none⟩ = some (.int .i64 ((zs.take 61)[j]?.getD 0)) := fun j hj => by
      rw [List.length_take] at hj
      have hc' := hc j (by omega)
      rw [World.cell?_alloc_past _ _ _ (World.block_lt_of_cell? w _ hc'), hc', List.getElem?_take, if_pos (by omega)]
    have HCELL := Lib.hid hcell
    by_cases h60 : 61 < n
    · have HLEN : Hid ((zs.take 61).length = 61) := Lib.hid (by rw [List.length_take, hn]; omega)
      have hI : (60 : Int) < (n : Int) := by omega
      have hmin : (61 : Int) < (n : Int) := by omega
      have hrc : (61 : Int) ≤ (cap : Int) := by omega
      clear hc hz hn hnone hcell h60
      go_enter Try.func16, Try.ntmps16
      go_wp2_with (at_builtin; refine wpList_app_zs rfl (.tmp 8) (.tmp 14) rfl w.heap.size (.slice (some ⟨w.heap.size, 0, none⟩) 0 0) 0 [] rfl b off 61 cap (zs.take 61) rfl HLEN.out HCELL.out (owns_empty w 3) 61 (by omega) (by omega) (by simp) ?_; intro a2 c2 w2 hr2 hg2; have H2 := Lib.hid (cut_fin HLEN.out hr2 hg2); clear hr2 hg2)
      go_ret
      exact H2.out
    · by_cases h61 : n = 61
      · subst h61
        have HLEN : Hid ((zs.take 61).length = 61) := Lib.hid (by rw [List.length_take, hn]; omega)
        have hrc : (61 : Int) ≤ (cap : Int) := by omega
        clear hc hz hn hnone hcell h60
        go_enter Try.func16, Try.ntmps16
        go_wp2_with (at_builtin; refine wpList_app_zs rfl (.tmp 8) (.tmp 14) rfl w.heap.size (.slice (some ⟨w.heap.size, 0, none⟩) 0 0) 0 [] rfl b off 61 cap (zs.take 61) rfl HLEN.out HCELL.out (owns_empty w 3) 61 (by omega) (by omega) (by simp) ?_; intro a2 c2 w2 hr2 hg2; have H2 := Lib.hid (cut_fin HLEN.out hr2 hg2); clear hr2 hg2)
        go_ret
        exact H2.out
      · have HLEN : Hid ((zs.take 61).length = n) := Lib.hid (by rw [List.length_take, hn]; omega)
        have hI : (n : Int) ≤ 60 := by omega
        have hrc : (n : Int) ≤ (cap : Int) := by omega
        clear hc hz hn hnone hcell
        go_enter Try.func16, Try.ntmps16
        go_wp2_with (at_builtin; refine wpList_app_zs rfl (.tmp 8) (.tmp 14) rfl w.heap.size (.slice (some ⟨w.heap.size, 0, none⟩) 0 0) 0 [] rfl b off n cap (zs.take 61) rfl HLEN.out HCELL.out (owns_empty w 3) n (by omega) (by omega) (by simp) ?_; intro a2 c2 w2 hr2 hg2; have H2 := Lib.hid (cut_fin HLEN.out hr2 hg2); clear hr2 hg2)
        go_ret
        exact H2.out

end Go.Proofs.Ytbcggbmjbljnfaa
