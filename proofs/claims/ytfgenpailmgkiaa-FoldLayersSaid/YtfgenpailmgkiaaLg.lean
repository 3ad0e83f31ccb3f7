/-
  The reference's 'Reduce'.
  The reference's 'Reduce': segments that are folded in between their neighbours.
-/
import Derived.Test.YtfgenpailmgkiaaLe
import Derived.Test.YtfgenpailmgkiaaLa
import Derived.Test.YtfgenpailmgkiaaJc
import Derived.StillTailTactics
import Derived.Deep.CutRange
namespace Go.Proofs.Ytfgenpailmgkiaa
open Go.RowKit Go.Sort

theorem step_app_zs {W : World} {ops : Array Oper} {o : Oper} {a : Act} {K : Act → World → Prop} {Q : Exit → Act → World → Prop} {E : Prop} (hgd : o.guard = none) (s x : Operand)
    (ho : o.op = .call { callee := .builtin .append, args := #[s, x], argTypes := #[22, 22] }) (base : Nat) (v : Value) (n : Nat) (xs : List Value) (hs : a.eval s = v) (b off m c : Nat) (zs : List Int)
    (hx : a.eval x = .slice (some ⟨b, off, none⟩) m c) (hl : zs.length = m) (hc : ∀ j, j < zs.length → W.cell? ⟨b, off + j, none⟩ = some (.int .i64 (zs[j]?.getD 0))) (hown : W.ownsRow base 3 1 v n xs) (r : Nat) (hr : n + m = r) (hn : r ≤ 1000000) (hbase : base ≤ W.heap.size)
    (h : ∀ (a' : Option Addr) (c' : Nat) (w' : World), w'.ownsRow base 3 1 (.slice a' r c') r (xs ++ zs.map (Value.int .i64)) → W.grownBy w' v.ownBlock → K (a.put o.dst (.slice a' r c')) w') :
    if Region.wanted o (yielded ops a.tmps) = true then Oper.wp Try.prog o a W K Q else E := by
  obtain ⟨i0, hi, hz0, hz1, hz2⟩ := info_parts Try.info3
  subst hr
  obtain ⟨v', w', hrun, hown', hg, _, _⟩ := run_append_own_at (P := Try.prog) W base 22 o.type 3 i0 (.int .i64 0) 1 8 Try.underlying22 hi hz0 hz1 hz2 rfl (by decide) v n xs hown ⟨b, off, none⟩ m c (zs.map (Value.int .i64)) (by simp [hl]) (fun j u hj => by
    have hjl : j < zs.length := by have := (List.getElem?_eq_some_iff.1 hj).1; simpa using this
    have hadd : (⟨b, off, none⟩ : Addr).add j = ⟨b, off + j, none⟩ := by unfold Addr.add; split <;> simp_all
    rw [hadd, hc j hjl, ← hj]
    simp [hjl]) (by simp [Value.oneCell']) (by unfold maxLen; omega) (by omega) hbase
  have hw : Region.wanted o (yielded ops a.tmps) = true := by simp [Region.wanted, hgd]
  rw [if_pos hw]
  obtain ⟨a', c', rfl⟩ := ownsRow_slice hown'
  unfold Oper.wp
  simp [execOp, ho, resolve, invoke, builtin, hs, hx, hrun, Result.andThen]
  exact h a' c' w' hown' hg

/-- What the reference's 'Reduce' hands back. -/
def RefRed (w : World) (k : Nat) (zs : List Int) (cs : List UInt8) (e : Ending) (w' : World) : Prop :=
  ∃ (a' : Option Addr) (cap : Nat) (s' : ByteArray), e = .returned (.tuple #[.slice a' (redAll k zs cs).1.length cap, .string s']) ∧ s'.data.toList = (redAll k zs cs).2 ∧ Ints w' a' (redAll k zs cs).1 ∧ Below w.heap.size w w'
def RefRedAt (k : Nat) : Prop := ∀ (zs : List Int) (s : ByteArray) (b off n cap : Nat) (w : World), zs.length = n → n ≤ k + 1 → n ≤ 9 → n ≤ cap → Ints w (some ⟨b, off, none⟩) zs → Good 1000000 zs s.data.toList →
  Calls Try.prog 29 #[.slice (some ⟨b, off, none⟩) n cap, .string s] w (RefRed w k zs s.data.toList)

theorem refRed_step {w w' : World} {k : Nat} {zs : List Int} {cs : List UInt8} {p : List Int × List UInt8} {e : Ending} (h : redZ zs cs = some p) (hr : RefRed w k p.1 p.2 e w') : RefRed w (k + 1) zs cs e w' := by
  have : redAll (k + 1) zs cs = redAll k p.1 p.2 := by rw [redAll, h]
  unfold RefRed at hr ⊢
  rw [this]
  exact hr

set_option maxRecDepth 100000 in
set_option maxHeartbeats 1000000 in
theorem refReduce_one (k : Nat) (zs : List Int) (s : ByteArray) (b off cap : Nat) (w : World) (hn : zs.length = 1) (hz : Ints w (some ⟨b, off, none⟩) zs) :
    Calls Try.prog 29 #[.slice (some ⟨b, off, none⟩) 1 cap, .string s] w (RefRed w k zs s.data.toList) := by
  have e1 : redZ zs s.data.toList = none := by rw [redZ, if_pos (by omega)]
  have HE := Lib.hid (redAll_none e1 k)
  have HZ := Lib.hid (And.intro hz hn)
  clear hz hn e1
  go_enter Try.func29, Try.ntmps29
  go_wp2
  refine wp_region_quiet_lit (by kernel_rfl) (by kernel_rfl) ?_
  repeat (go_big_quiet_step (fail))
  refine wpQuiet_nil ?_
  intro w2 hw2
  have H2 : Hid (Below w.heap.size w w2) := Lib.hid (by obtain ⟨m, rfl⟩ := hw2; exact below_drewN (Below.refl _ _) _)
  clear hw2
  go_wp2
  refine wp_region_quiet_lit (by kernel_rfl) (by kernel_rfl) ?_
  repeat (go_big_quiet_step (fail))
  refine wpQuiet_nil ?_
  intro w3 hw3
  have H3 : Hid (Below w.heap.size w w3) := Lib.hid (by obtain ⟨m, rfl⟩ := hw3; exact below_drewN H2.out _)
  clear hw3 H2
  go_wp2
  go_loopw [7, 8] (fun i _ wr => i = .int .i64 1 ∧ wr = w3) (fun _ _ _ => 0)
  case atStart => exact ⟨rfl, rfl⟩
  case round =>
    obtain ⟨rfl, rfl⟩ := hrel
    go_wp2
    go_ret2
    refine ⟨some ⟨b, off, none⟩, cap, s, by rw [HE.out]; show _ = Ending.returned (.tuple #[.slice _ zs.length _, _]); rw [HZ.out.2]; rfl, by rw [HE.out], by rw [HE.out]; exact HZ.out.1.below H3.out, H3.out⟩

set_option maxRecDepth 100000 in
set_option maxHeartbeats 1000000 in
theorem refReduce_first (k n : Nat) (zs : List Int) (s : ByteArray) (b off cap : Nat) (w : World) (ih : RefRedAt k) (hn : zs.length = n + 2) (hk : n + 1 ≤ k + 1) (h9 : n + 2 ≤ 9) (hcap : n + 2 ≤ cap) (hz : Ints w (some ⟨b, off, none⟩) zs) (hg : Good 1000000 zs s.data.toList) (h1 : zs[0]?.getD 0 ≤ zs[1]?.getD 0) :
    Calls Try.prog 29 #[.slice (some ⟨b, off, none⟩) (n + 2) cap, .string s] w (RefRed w (k + 1) zs s.data.toList) := by
  have cell : ∀ i, i < n + 2 → w.cell? ⟨b, off + i, none⟩ = some (.int .i64 (zs[i]?.getD 0)) := by
    intro i hi
    obtain ⟨b', o', e, hc⟩ := hz i (by omega)
    cases e; exact hc
  have c0 : w.cell? ⟨b, off, none⟩ = _ := cell 0 (by omega)
  have c1 : w.cell? ⟨b, off + 1, none⟩ = _ := cell 1 (by omega)
  have hcond : decide (zs[0]?.getD 0 ≤ zs[1]?.getD 0) = true := decide_eq_true h1
  have e1 : redZ zs s.data.toList = some (zs.drop 1, s.data.toList.drop 1) := by rw [redZ, if_neg (by omega), if_pos h1]
  have hs : s.size = n + 1 := by have := hg.len; rw [size_list] at this; omega
  have hs1 : 1 ≤ s.size := by omega
  have hcap1 : ¬ cap = 1 := by omega
  have hih : (∀ (wq : World) (cq : Nat), n + 1 ≤ cq → Below w.heap.size w wq → Calls Try.prog 29 #[.slice (some ⟨b, off + 1, none⟩) (n + 1) cq, .string (s.extract 1 (n + 1))] wq (RefRed wq k (zs.drop 1) (s.data.toList.drop 1))) := fun wq cq hcq hb => by
    have hx : (s.extract 1 (n + 1)).data.toList = s.data.toList.drop 1 := by
      rw [extract_list, List.take_of_length_le (by rw [List.length_drop, size_list]; omega)]
    have := ih (zs.drop 1) (s.extract 1 (n + 1)) b (off + 1) (n + 1) cq wq (by rw [List.length_drop]; omega) hk (by omega) hcq (fun i hi => by
      rw [List.length_drop] at hi
      refine ⟨b, off + 1, rfl, ?_⟩
      have hc := cell (i + 1) (by omega)
      rw [show off + 1 + i = off + (i + 1) by omega, List.getElem?_drop, Nat.add_comm 1 i]
      exact (hb.cell (p := ⟨b, off + (i + 1), none⟩) (World.block_lt_of_cell? w _ hc)).trans hc) (by rw [hx]; exact (redZ_good hg e1).1)
    rw [hx] at this
    exact this
  generalize zs.drop 1 = ys at e1 hih
  generalize s.data.toList.drop 1 = ds at e1 hih
  have HE := Lib.hid e1
  have HIH := Lib.hid hih
  clear hih
  have hq1 : (1 : Int) ≤ (n : Int) + 2 := by omega
  have hq2 : (1 : Int) ≤ (n : Int) + 1 := by omega
  have hge : decide ((2 : Int) ≤ (n : Int) + 2) = true := decide_eq_true (by omega)
  generalize zs[0]?.getD 0 = x at *
  generalize zs[1]?.getD 0 = y at *
  clear e1 h1 hz hg cell ih
  go_enter Try.func29, Try.ntmps29
  go_wp2
  refine wp_region_quiet_lit (by kernel_rfl) (by kernel_rfl) ?_
  repeat (go_big_quiet_step (fail))
  refine wpQuiet_nil ?_
  intro w2 hw2
  have H2 : Hid (Below w.heap.size w w2) := Lib.hid (by obtain ⟨m, rfl⟩ := hw2; exact below_drewN (Below.refl _ _) _)
  clear hw2 c0 c1
  go_wp2
  go_region_law (go_simp; go_at_call 29; refine (HIH.out _ _ (by omega) (Below.drew H2.out)).mono ?_; rintro e w3 ⟨a', c', s', rfl, hs', hI, hb⟩; have H3 := Lib.hid (And.intro hs' (And.intro hI ((Below.drew H2.out).trans (hb.mono (Below.drew H2.out).size)))); clear hs' hI hb)
  go_wp2
  go_ret2
  exact refRed_step HE.out ⟨a', c', s', rfl, H3.out⟩

set_option maxRecDepth 100000 in
set_option maxHeartbeats 1000000 in
theorem refReduce_last (k n : Nat) (zs : List Int) (s : ByteArray) (b off cap : Nat) (w : World) (ih : RefRedAt k) (hn : zs.length = n + 2) (hk : n + 1 ≤ k + 1) (h9 : n + 2 ≤ 9) (hcap : n + 2 ≤ cap) (hz : Ints w (some ⟨b, off, none⟩) zs) (hg : Good 1000000 zs s.data.toList) (h1 : ¬ zs[0]?.getD 0 ≤ zs[1]?.getD 0) (h2 : zs[n + 1]?.getD 0 ≤ zs[n]?.getD 0) :
    Calls Try.prog 29 #[.slice (some ⟨b, off, none⟩) (n + 2) cap, .string s] w (RefRed w (k + 1) zs s.data.toList) := by
  have cell : ∀ i, i < n + 2 → w.cell? ⟨b, off + i, none⟩ = some (.int .i64 (zs[i]?.getD 0)) := by
    intro i hi
    obtain ⟨b', o', e, hc⟩ := hz i (by omega)
    cases e; exact hc
  have c0 : w.cell? ⟨b, off, none⟩ = _ := cell 0 (by omega)
  have c1 : w.cell? ⟨b, off + 1, none⟩ = _ := cell 1 (by omega)
  have c2 := cell (n + 1) (by omega)
  have c3 := cell n (by omega)
  have hcond : decide (zs[0]?.getD 0 ≤ zs[1]?.getD 0) = false := decide_eq_false h1
  have hcond2 : decide (zs[n + 1]?.getD 0 ≤ zs[n]?.getD 0) = true := decide_eq_true h2
  have e1 : redZ zs s.data.toList = some (zs.take (n + 1), s.data.toList.take n) := by
    rw [redZ, if_neg (by omega), if_neg h1, hn, show n + 2 - 1 = n + 1 by omega, show n + 2 - 2 = n by omega, if_pos h2]
  have hs : s.size = n + 1 := by have := hg.len; rw [size_list] at this; omega
  have hih : (∀ (wq : World) (cq : Nat), n + 1 ≤ cq → Below w.heap.size w wq → Calls Try.prog 29 #[.slice (some ⟨b, off, none⟩) (n + 1) cq, .string (s.extract 0 n)] wq (RefRed wq k (zs.take (n + 1)) (s.data.toList.take n))) := fun wq cq hcq hb => by
    have hx : (s.extract 0 n).data.toList = s.data.toList.take n := by rw [extract_list, List.drop_zero, Nat.sub_zero]
    have := ih (zs.take (n + 1)) (s.extract 0 n) b off (n + 1) cq wq (by rw [List.length_take]; omega) hk (by omega) hcq (fun i hi => by
      rw [List.length_take] at hi
      refine ⟨b, off, rfl, ?_⟩
      have hc := cell i (by omega)
      rw [List.getElem?_take, if_pos (by omega)]
      exact (hb.cell (p := ⟨b, off + i, none⟩) (World.block_lt_of_cell? w _ hc)).trans hc) (by rw [hx]; exact (redZ_good hg e1).1)
    rw [hx] at this
    exact this
  generalize zs.take (n + 1) = ys at e1 hih
  generalize s.data.toList.take n = ds at e1 hih
  have HE := Lib.hid e1
  have HIH := Lib.hid hih
  clear hih
  have hge : decide ((2 : Int) ≤ (n : Int) + 2) = true := decide_eq_true (by omega)
  generalize zs[0]?.getD 0 = x at *
  generalize zs[1]?.getD 0 = y at *
  generalize zs[n]?.getD 0 = u at *
  generalize zs[n + 1]?.getD 0 = v at *
  clear e1 h1 h2 hz hg cell ih
  have q1 : ((n : Int) + 2 - 1) = (n : Int) + 1 := by omega
  have q2 : ((n : Int) + 2 - 2) = (n : Int) := by omega
  have q3 : ((n : Int) + 1).toNat = n + 1 := by omega
  have q4 : (0 : Int) ≤ (n : Int) + 1 := by omega
  have q5 : (n : Int) + 1 < (n : Int) + 2 := by omega
  have q6 : (n : Int) < (n : Int) + 2 := by omega
  have q7 : (n : Int) + 1 ≤ (n : Int) + 2 := by omega
  have q8 : (n : Int) ≤ (n : Int) + 1 := by omega
  have q9 : (n : Int) + 1 ≤ (cap : Int) := by omega
  have qa : IntKind.i64.wrap ((n : Int) + 1) = (n : Int) + 1 := IntWalk.i64_in _ (by omega)
  have qb : IntKind.i64.wrap (n : Int) = (n : Int) := IntWalk.i64_in _ (by omega)
  go_enter Try.func29, Try.ntmps29
  go_wp2
  refine wp_region_quiet_lit (by kernel_rfl) (by kernel_rfl) ?_
  repeat (go_big_quiet_step (fail))
  refine wpQuiet_nil ?_
  intro w1 hw1
  have H1 : Hid (Below w.heap.size w w1) := Lib.hid (by obtain ⟨m, rfl⟩ := hw1; exact below_drewN (Below.refl _ _) _)
  have c2' : w1.cell? ⟨b, off + (n + 1), none⟩ = some (.int .i64 v) := by obtain ⟨m, rfl⟩ := hw1; exact c2
  have c3' : w1.cell? ⟨b, off + n, none⟩ = some (.int .i64 u) := by obtain ⟨m, rfl⟩ := hw1; exact c3
  clear hw1 c0 c1 c2 c3
  go_wp2
  refine wp_region_quiet_lit (by kernel_rfl) (by kernel_rfl) ?_
  repeat (go_big_quiet_step (fail))
  refine wpQuiet_nil ?_
  intro w2 hw2
  have H2 : Hid (Below w.heap.size w w2) := Lib.hid (by obtain ⟨m, rfl⟩ := hw2; exact below_drewN H1.out _)
  clear hw2 c2' c3' H1
  go_wp2
  go_region_law (go_simp; go_at_call 29; refine (HIH.out _ _ (by omega) (Below.drew H2.out)).mono ?_; rintro e w3 ⟨a', c', s', rfl, hs', hI, hb⟩; have H3 := Lib.hid (And.intro hs' (And.intro hI ((Below.drew H2.out).trans (hb.mono (Below.drew H2.out).size)))); clear hs' hI hb)
  go_wp2
  go_ret2
  exact refRed_step HE.out ⟨a', c', s', rfl, H3.out⟩

end Go.Proofs.Ytfgenpailmgkiaa

namespace Go.Proofs.Ytfgenpailmgkiaa
open Go.RowKit Go.Sort

/-- Behind the second append. -/
theorem app_two {w w4 w5 w6 : World} {o : Obj} {a2 a3 : Option Addr} {j c2 c3 : Nat} {xs : List Value} (h : w5.ownsRow w4.heap.size 3 1 (.slice a2 j c2) j xs ∧ Below w4.heap.size w4 w5) (h4 : Below w.heap.size w w4) {ys : List Value} {r : Nat}
    (hr : w6.ownsRow w4.heap.size 3 1 (.slice a3 r c3) r ys) (hg : (w5.drew.alloc o).grownBy w6 (Value.slice a2 j c2).ownBlock) :
    w6.ownsRow w4.heap.size 3 1 (.slice a3 r c3) r ys ∧ Below w4.heap.size w4 w6 ∧ Below w.heap.size w w6 := by
  have hb : Below w4.heap.size w4 w6 := (h.2.trans (((Below.refl _ w5).drew).mono h.2.size)).alloc (by simp; exact h.2.size) o |>.grown hg (by simp; have := h.2.size; omega) (fun x hx => (h.1.lt x hx).1)
  exact ⟨hr, hb, h4.trans (hb.mono h4.size)⟩

/-- Behind the third append. -/
theorem app_thr {w w4 w6 w7 : World} {a3 a4 : Option Addr} {j n c3 c4 : Nat} {zs : List Int} {x : Int} {xs : List Value} (h : w6.ownsRow w4.heap.size 3 1 (.slice a3 (j + 1) c3) (j + 1) xs ∧ Below w4.heap.size w4 w6 ∧ Below w.heap.size w w6) (h4 : w.heap.size ≤ w4.heap.size)
    (hr : w7.ownsRow w4.heap.size 3 1 (.slice a4 n c4) n (((zs.take j).map (Value.int .i64) ++ [x].map (Value.int .i64)) ++ (zs.drop (j + 3)).map (Value.int .i64))) (hg : (w6.drew).grownBy w7 (Value.slice a3 (j + 1) c3).ownBlock) :
    Ints w7 a4 (zs.take j ++ x :: zs.drop (j + 3)) ∧ Below w.heap.size w w7 := by
  have hb : Below w.heap.size w w7 := (Below.drew h.2.2).grown hg (Below.drew h.2.2).size (fun x hx => by have := (h.1.lt x hx).1; omega)
  refine ⟨Ints.of_owns (base := w4.heap.size) (n := n) (cap := c4) ?_, hb⟩
  have e : (zs.take j ++ x :: zs.drop (j + 3)).map (Value.int .i64) = ((zs.take j).map (Value.int .i64) ++ [x].map (Value.int .i64)) ++ (zs.drop (j + 3)).map (Value.int .i64) := by simp
  rw [e]
  exact hr

theorem owns_some {w : World} {base n : Nat} {a : Option Addr} {c : Nat} {xs : List Value} (h : w.ownsRow base 3 1 (.slice a n c) n xs) (h1 : 1 ≤ n) : ∃ g, a = some ⟨g, 0, none⟩ ∧ n ≤ c := by
  rcases h.2 with ⟨e, h0⟩ | ⟨g, cap, cur, e, _, _, h2, _⟩
  · omega
  · cases e; exact ⟨g, rfl, h2⟩

set_option maxRecDepth 100000 in
set_option maxHeartbeats 4000000 in
theorem refReduce_loop (k n : Nat) (zs : List Int) (s : ByteArray) (b off cap : Nat) (w : World) (ih : RefRedAt k) (hn : zs.length = n + 2) (hk : n + 1 ≤ k + 1) (h9 : n + 2 ≤ 9) (hcap : n + 2 ≤ cap) (hz : Ints w (some ⟨b, off, none⟩) zs) (hg : Good 1000000 zs s.data.toList) (h1 : ¬ zs[0]?.getD 0 ≤ zs[1]?.getD 0) (h2 : ¬ zs[n + 1]?.getD 0 ≤ zs[n]?.getD 0) :
    Calls Try.prog 29 #[.slice (some ⟨b, off, none⟩) (n + 2) cap, .string s] w (RefRed w (k + 1) zs s.data.toList) := by
  have cell : ∀ i, i < n + 2 → w.cell? ⟨b, off + i, none⟩ = some (.int .i64 (zs[i]?.getD 0)) := by
    intro i hi
    obtain ⟨b', o', e, hc⟩ := hz i (by omega)
    cases e; exact hc
  have c0 : w.cell? ⟨b, off, none⟩ = _ := cell 0 (by omega)
  have c1 : w.cell? ⟨b, off + 1, none⟩ = _ := cell 1 (by omega)
  have c2 := cell (n + 1) (by omega)
  have c3 := cell n (by omega)
  have hcond : decide (zs[0]?.getD 0 ≤ zs[1]?.getD 0) = false := decide_eq_false h1
  have hcond2 : decide (zs[n + 1]?.getD 0 ≤ zs[n]?.getD 0) = false := decide_eq_false h2
  have e1 : redZ zs s.data.toList = ((List.range n).find? (crimpC zs s.data.toList)).map fun j => (foldIn zs j, s.data.toList.take j ++ s.data.toList.drop (j + 2)) := by
    rw [redZ, if_neg (by omega), if_neg h1, hn, show n + 2 - 1 = n + 1 by omega, show n + 2 - 2 = n by omega, if_neg h2]
  have hs : s.size = n + 1 := by have := hg.len; rw [size_list] at this; omega
  have HE := Lib.hid e1
  have HG := Lib.hid (And.intro hg (And.intro hn (And.intro hz ih)))
  have HC := Lib.hid cell
  have hge : decide ((2 : Int) ≤ (n : Int) + 2) = true := decide_eq_true (by omega)
  generalize zs[0]?.getD 0 = x at *
  generalize zs[1]?.getD 0 = y at *
  generalize zs[n]?.getD 0 = u at *
  generalize zs[n + 1]?.getD 0 = v at *
  clear e1 h1 h2 hz hg cell ih
  have q1 : ((n : Int) + 2 - 1) = (n : Int) + 1 := by omega
  have q2 : ((n : Int) + 2 - 2) = (n : Int) := by omega
  have q3 : ((n : Int) + 1).toNat = n + 1 := by omega
  have q4 : (0 : Int) ≤ (n : Int) + 1 := by omega
  have q5 : (n : Int) + 1 < (n : Int) + 2 := by omega
  have q6 : (n : Int) < (n : Int) + 2 := by omega
  go_enter Try.func29, Try.ntmps29
  go_wp2
  refine wp_region_quiet_lit (by kernel_rfl) (by kernel_rfl) ?_
  repeat (go_big_quiet_step (fail))
  refine wpQuiet_nil ?_
  intro w1 hw1
  have H1 : Hid (Below w.heap.size w w1) := Lib.hid (by obtain ⟨m, rfl⟩ := hw1; exact below_drewN (Below.refl _ _) _)
  have c2' : w1.cell? ⟨b, off + (n + 1), none⟩ = some (.int .i64 v) := by obtain ⟨m, rfl⟩ := hw1; exact c2
  have c3' : w1.cell? ⟨b, off + n, none⟩ = some (.int .i64 u) := by obtain ⟨m, rfl⟩ := hw1; exact c3
  clear hw1 c0 c1 c2 c3
  go_wp2
  refine wp_region_quiet_lit (by kernel_rfl) (by kernel_rfl) ?_
  repeat (go_big_quiet_step (fail))
  refine wpQuiet_nil ?_
  intro w2 hw2
  have H2 : Hid (Below w.heap.size w w2) := Lib.hid (by obtain ⟨m, rfl⟩ := hw2; exact below_drewN H1.out _)
  clear hw2 c2' c3' H1 hcond hcond2 hge
  go_wp2
  have HIH : Hid (∀ (j : Nat) (wq : World) (gq cq : Nat), j < n → crimpC zs s.data.toList j = true → (∀ k, k < j → crimpC zs s.data.toList k = false) → n ≤ cq → Ints wq (some ⟨gq, 0, none⟩) (foldIn zs j) →
      Calls Try.prog 29 #[.slice (some ⟨gq, 0, none⟩) n cq, .string (s.extract 0 j ++ s.extract (j + 1 + 1) (n + 1))] wq fun e w' => RefRed wq (k + 1) zs s.data.toList e w') := Lib.hid fun j wq gq cq hj hcj hno hcq hI => by
    have hr : redZ zs s.data.toList = some (foldIn zs j, s.data.toList.take j ++ s.data.toList.drop (j + 2)) := by rw [HE.out, find_first hj hno hcj]; rfl
    have hx : (s.extract 0 j ++ s.extract (j + 1 + 1) (n + 1)).data.toList = s.data.toList.take j ++ s.data.toList.drop (j + 2) := by
      rw [append_list, extract_list, extract_list, List.drop_zero, Nat.sub_zero, List.take_of_length_le (l := s.data.toList.drop (j + 1 + 1)) (by rw [List.length_drop, size_list]; omega)]
    have hgd := (redZ_good HG.out.1 hr).1
    have hlen : (foldIn zs j).length = n := by have := (foldIn_get zs j (by rw [HG.out.2.1]; omega)).1; rw [HG.out.2.1] at this; omega
    have h0 := HG.out.2.2.2 (foldIn zs j) (s.extract 0 j ++ s.extract (j + 1 + 1) (n + 1)) gq 0 n cq wq hlen (by omega) (by omega) hcq hI (by rw [hx]; exact hgd)
    rw [hx] at h0
    exact h0.mono fun e w' he => refRed_step hr he
  go_loopw [7, 8] (fun i _ wr => ∃ j : Nat, j ≤ n ∧ i = .int .i64 ((j : Int) + 1) ∧ (∀ k, k < j → crimpC zs s.data.toList k = false) ∧ Below w.heap.size w wr) (fun i _ _ => n + 1 - (intOf i).toNat)
  case atStart => exact ⟨0, Nat.zero_le _, rfl, fun k hk => by omega, H2.out⟩
  case round =>
    obtain ⟨j, hj, rfl, hno, hbw⟩ := hrel
    have HR := Lib.hid (And.intro hno hbw)
    clear hno hbw
    by_cases hlt : j < n
    · have wc : ∀ i, i < n + 2 → wr.cell? ⟨b, off + i, none⟩ = some (.int .i64 (zs[i]?.getD 0)) := fun i hi => (HR.out.2.cell (p := ⟨b, off + i, none⟩) (World.block_lt_of_cell? w _ (HC.out i hi))).trans (HC.out i hi)
      have d0 := wc j (by omega)
      have d1 := wc (j + 1) (by omega)
      have d2 := wc (j + 1 + 1) (by omega)
      have hX : crimpC zs s.data.toList j = (decide (zs[j + 1]?.getD 0 ≤ zs[j]?.getD 0) && decide (zs[j + 1]?.getD 0 ≤ zs[j + 1 + 1]?.getD 0) && (s.data.toList[j]?.getD 0 != s.data.toList[j + 1]?.getD 0)) := rfl
      obtain ⟨a, ha⟩ : ∃ a, zs[j]?.getD 0 = a := ⟨_, rfl⟩
      obtain ⟨m, hm⟩ : ∃ m, zs[j + 1]?.getD 0 = m := ⟨_, rfl⟩
      obtain ⟨c, hc⟩ : ∃ c, zs[j + 1 + 1]?.getD 0 = c := ⟨_, rfl⟩
      rw [ha] at d0 hX
      rw [hm] at d1 hX
      rw [hc] at d2 hX
      have HA := Lib.hid (And.intro ha (And.intro hm hc))
      have HX := Lib.hid hX
      have s0 : j < s.size := by omega
      have s1 : j + 1 < s.size := by omega
      have i0 : (0 : Int) ≤ (j : Int) + 1 := by omega
      have i1 : (j : Int) + 1 < (s.size : Int) := by omega
      have HS := Lib.hid hs
      clear wc ha hm hc hX hs
      rcases Bool.eq_false_or_eq_true (decide (m ≤ a)) with e1 | e1 <;> rcases Bool.eq_false_or_eq_true (decide (m ≤ c)) with e2 | e2
      all_goals
        have HH := Lib.hid (And.intro e1 e2)
        go_wp2
        refine wp_region_quiet_lit (by kernel_rfl) (by kernel_rfl) ?_
        repeat (go_big_quiet_step (fail))
      all_goals
        refine wpQuiet_nil ?_
        intro w4 hw4
        have H4 : Hid (Below w.heap.size w w4) := Lib.hid (by obtain ⟨m, rfl⟩ := hw4; exact below_drewN HR.out.2 _)
        clear hw4 d0 d1 d2
      · -- both are shorter: the letters decide
        have l0 : s.data.toList[j]?.getD 0 = s[j] := by rw [List.getElem?_eq_getElem (by rw [size_list]; exact s0)]; rfl
        have l1 : s.data.toList[j + 1]?.getD 0 = s[j + 1] := by rw [List.getElem?_eq_getElem (by rw [size_list]; exact s1)]; rfl
        have hbb := byte_ne s[j] s[j + 1]
        have hcx : crimpC zs s.data.toList j = (s[j] != s[j + 1]) := by rw [HX.out, HH.out.1, HH.out.2, l0, l1]; rfl
        clear l0 l1
        rcases Bool.eq_false_or_eq_true (s[j] != s[j + 1]) with hbv | hbv
        · rw [hbv] at hbb hcx
          have HCx := Lib.hid hcx
          clear hbv hcx
          have HLEN : Hid ((zs.take j).length = j) := Lib.hid (by rw [List.length_take, HG.out.2.1]; omega)
          have HCELL : Hid (∀ i, i < (zs.take j).length → (w4.alloc (.cells #[] 3)).cell? ⟨b, off + i, none⟩ = some (.int .i64 ((zs.take j)[i]?.getD 0))) := Lib.hid fun i hi => by
            rw [HLEN.out] at hi
            have hc := HC.out i (by omega)
            have hlt' := World.block_lt_of_cell? w _ hc
            have hc4 := (H4.out.cell (p := ⟨b, off + i, none⟩) hlt').trans hc
            rw [World.cell?_alloc_past _ _ _ (World.block_lt_of_cell? w4 _ hc4), hc4, List.getElem?_take, if_pos hi]
          go_wp2_with (at_builtin; refine wpList_app_zs rfl (.tmp 93) (.tmp 97) rfl w4.heap.size (.slice (some ⟨w4.heap.size, 0, none⟩) 0 0) 0 [] rfl b off j cap (zs.take j) rfl HLEN.out HCELL.out (owns_empty w4 3) j (by omega) (by omega) (by simp) ?_; intro a2 c2 w5 hr2 hg2; have H5 := Lib.hid (ord_one hr2 hg2); clear hr2 hg2)
          have wc5 : ∀ i, i < n + 2 → w5.cell? ⟨b, off + i, none⟩ = some (.int .i64 (zs[i]?.getD 0)) := fun i hi => ((H4.out.trans (H5.out.2.mono H4.out.size)).cell (p := ⟨b, off + i, none⟩) (World.block_lt_of_cell? w _ (HC.out i hi))).trans (HC.out i hi)
          have d0 := wc5 j (by omega)
          have d1 := wc5 (j + 1) (by omega)
          have d2 := wc5 (j + 1 + 1) (by omega)
          rw [HA.out.1] at d0
          rw [HA.out.2.1] at d1
          rw [HA.out.2.2] at d2
          have bd : ∀ i, i < n + 2 → 1 ≤ zs[i]?.getD 0 ∧ zs[i]?.getD 0 ≤ 1000000 := fun i hi => by
            have hi' : i < zs.length := by rw [HG.out.2.1]; exact hi
            rw [List.getElem?_eq_getElem hi']
            have q1 := HG.out.1.pos _ (List.getElem_mem hi')
            have q2 := le_sum zs HG.out.1.pos _ (List.getElem_mem hi')
            have q3 := HG.out.1.sum
            show 1 ≤ zs[i] ∧ zs[i] ≤ 1000000
            omega
          have ba := bd j (by omega)
          have bm := bd (j + 1) (by omega)
          have bc := bd (j + 1 + 1) (by omega)
          rw [HA.out.1] at ba
          rw [HA.out.2.1] at bm
          rw [HA.out.2.2] at bc
          have HW5 := Lib.hid wc5
          clear wc5 bd
          have ws0 : IntKind.i64.wrap (j : Int) = (j : Int) := IntWalk.i64_in _ (by omega)
          have ws1 : IntKind.i64.wrap (a - m) = a - m := IntWalk.i64_in _ (by omega)
          have ws2 : IntKind.i64.wrap (a - m + c) = a - m + c := IntWalk.i64_in _ (by omega)
          have ws3 : IntKind.i64.wrap ((j : Int) + 1 + 1) = (j : Int) + 1 + 1 := IntWalk.i64_in _ (by omega)
          have hj1 : (j : Int) + 1 < (n : Int) + 2 := by omega
          have hj2 : (j : Int) + 1 + 1 < (n : Int) + 2 := by omega
          have hj3 : (0 : Int) ≤ (j : Int) + 1 + 1 := by omega
          have hj4 : ((j : Int) + 1 + 1).toNat = j + 1 + 1 := by omega
          have hj5 : ((j : Int) + 1).toNat = j + 1 := by omega
          have hj6 : (j : Int) < (n : Int) + 2 := by omega
          have HO5 : Hid ((w5.drew.alloc (.cells #[.int .i64 (a - m + c)] 3)).ownsRow w4.heap.size 3 1 (.slice a2 j c2) j ((zs.take j).map (Value.int .i64))) := Lib.hid (ownsRow_kept H5.out.1 (((Below.refl _ w5).drew).alloc (by simp) _))
          have HC5 : Hid (∀ i, i < [a - m + c].length → (w5.drew.alloc (.cells #[.int .i64 (a - m + c)] 3)).cell? ⟨w5.heap.size, 0 + i, none⟩ = some (.int .i64 ([a - m + c][i]?.getD 0))) := Lib.hid fun i hi => by
            obtain rfl : i = 0 := by simp at hi; omega
            exact cells_new w5.drew [.int .i64 (a - m + c)] 3 w5.heap.size rfl 0 _ rfl
          go_cut [8] from 55 to 135 (fun v8 wx => ∃ (a3 : Option Addr) (c3 : Nat), v8 = .slice a3 (j + 1) c3 ∧ (wx.ownsRow w4.heap.size 3 1 (.slice a3 (j + 1) c3) (j + 1) ((zs.take j).map (Value.int .i64) ++ [a - m + c].map (Value.int .i64)) ∧ Below w4.heap.size w4 wx ∧ Below w.heap.size w wx))
          case first =>
            go_region_law (refine step_app_zs rfl (.tmp 99) (.tmp 116) rfl w4.heap.size (.slice a2 j c2) j ((zs.take j).map (Value.int .i64)) (by simp [Act.eval, Act.put]) w5.heap.size 0 1 1 [a - m + c] (by simp [Act.eval, Act.put]) rfl HC5.out HO5.out (j + 1) rfl (by omega) (by have := H5.out.2.size; simp; omega) ?_; intro a3 c3 w6 hr3 hg3)
            all_goals (go_wp2_with fail; go_meet; exact ⟨a3, c3, rfl, app_two H5.out H4.out hr3 hg3⟩)
          case rest =>
            obtain ⟨a3, c3, rfl, h6⟩ := hcut
            have H6 := Lib.hid h6
            clear h6 d0 d1 d2 HO5 HC5
            go_wp2
            have HX6 : Hid (wc.drew.ownsRow w4.heap.size 3 1 (.slice a3 (j + 1) c3) (j + 1) ((zs.take j).map (Value.int .i64) ++ [a - m + c].map (Value.int .i64))) := Lib.hid (ownsRow_kept H6.out.1 ((Below.refl _ wc).drew))
            have HD6 : Hid ((zs.drop (j + 3)).length = n + 2 - (j + 1 + 2)) := Lib.hid (by rw [List.length_drop, HG.out.2.1])
            have HQ6 : Hid (∀ i, i < (zs.drop (j + 3)).length → wc.drew.cell? ⟨b, off + (j + 1 + 2) + i, none⟩ = some (.int .i64 ((zs.drop (j + 3))[i]?.getD 0))) := Lib.hid fun i hi => by
              rw [HD6.out] at hi
              have hc := HC.out (j + 1 + 2 + i) (by omega)
              have hc6 := (H6.out.2.2.cell (p := ⟨b, off + (j + 1 + 2 + i), none⟩) (World.block_lt_of_cell? w _ hc)).trans hc
              rw [List.getElem?_drop, show j + 3 + i = j + 1 + 2 + i by omega, show off + (j + 1 + 2) + i = off + (j + 1 + 2 + i) by omega]
              exact hc6
            have hs : s.size = n + 1 := HS.out
            have ws4 : IntKind.i64.wrap ((j : Int) + 1 + 2) = (j : Int) + 1 + 2 := IntWalk.i64_in _ (by omega)
            have hk1 : (0 : Int) ≤ (j : Int) + 1 + 2 := by omega
            have hk2 : (j : Int) + 1 + 2 ≤ (n : Int) + 2 := by omega
            have hk3 : ((j : Int) + 1 + 2).toNat = j + 1 + 2 := by omega
            have hk4 : (j : Int) ≤ (n : Int) + 1 := by omega
            have hk5 : (j : Int) + 1 + 1 ≤ (n : Int) + 1 := by omega
            have hk6 : ¬ (9223372036854775807 < min j (n + 1) + (n - (j + 1))) := by omega
            by_cases hcj : cap = j + 1 + 2
            · have HQT : Hid (∀ i, i < (zs.drop (j + 3)).length → wc.drew.cell? ⟨b, off + i, none⟩ = some (.int .i64 ((zs.drop (j + 3))[i]?.getD 0))) := Lib.hid fun i hi => by
                rw [HD6.out] at hi
                omega
              have hcjT : (cap = j + 1 + 2) = True := eq_true hcj
              clear hcj
              go_region_law (first
                | (refine step_app_zs rfl (.tmp 118) (.tmp 122) rfl w4.heap.size (.slice a3 (j + 1) c3) (j + 1) ((zs.take j).map (Value.int .i64) ++ [a - m + c].map (Value.int .i64)) (by simp [Act.eval, Act.put]) b (off) (n + 2 - (j + 1 + 2)) (cap - (j + 1 + 2)) (zs.drop (j + 3)) (by simp [Act.eval, Act.put]) HD6.out HQT.out HX6.out n (by omega) (by omega) (by have := H6.out.2.1.size; simp; omega) ?_; intro a4 c4 w7 hr4 hg4; obtain ⟨g4, ea4, hc4⟩ := owns_some hr4 (by omega); have H7 := Lib.hid (app_thr H6.out H4.out.size hr4 hg4); subst ea4; clear hr4 hg4)
                | (go_simp; go_at_call 29; refine (HIH.out j w7 g4 c4 hlt HCx.out HR.out.1 hc4 (by have := H7.out.1; unfold foldIn; rw [HA.out.1, HA.out.2.1, HA.out.2.2]; exact this)).mono ?_; rintro e w8 ⟨a', c', s', rfl, hs', hI, hb⟩; have H8 := Lib.hid (And.intro hs' (And.intro hI (H7.out.2.trans (hb.mono H7.out.2.size)))); clear hs' hI hb))
              go_wp2
              go_ret2
              exact ⟨a', c', s', rfl, H8.out⟩
            · go_region_law (first
                | (refine step_app_zs rfl (.tmp 118) (.tmp 122) rfl w4.heap.size (.slice a3 (j + 1) c3) (j + 1) ((zs.take j).map (Value.int .i64) ++ [a - m + c].map (Value.int .i64)) (by simp [Act.eval, Act.put]) b (off + (j + 1 + 2)) (n + 2 - (j + 1 + 2)) (cap - (j + 1 + 2)) (zs.drop (j + 3)) (by simp [Act.eval, Act.put]) HD6.out HQ6.out HX6.out n (by omega) (by omega) (by have := H6.out.2.1.size; simp; omega) ?_; intro a4 c4 w7 hr4 hg4; obtain ⟨g4, ea4, hc4⟩ := owns_some hr4 (by omega); have H7 := Lib.hid (app_thr H6.out H4.out.size hr4 hg4); subst ea4; clear hr4 hg4)
                | (go_simp; go_at_call 29; refine (HIH.out j w7 g4 c4 hlt HCx.out HR.out.1 hc4 (by have := H7.out.1; unfold foldIn; rw [HA.out.1, HA.out.2.1, HA.out.2.2]; exact this)).mono ?_; rintro e w8 ⟨a', c', s', rfl, hs', hI, hb⟩; have H8 := Lib.hid (And.intro hs' (And.intro hI (H7.out.2.trans (hb.mono H7.out.2.size)))); clear hs' hI hb))
              go_wp2
              go_ret2
              exact ⟨a', c', s', rfl, H8.out⟩
        · rw [hbv] at hbb hcx
          have HCx := Lib.hid hcx
          clear hbv hcx
          go_wp2
          go_roundw
          case rel =>
            refine ⟨j + 1, by omega, by go_num, fun k hk => ?_, H4.out⟩
            by_cases e : k = j
            · rw [e]; exact HCx.out
            · exact HR.out.1 k (by omega)
          case measure => simp [intOf]; omega
      all_goals
        have hcf : crimpC zs s.data.toList j = false := by rw [HX.out, HH.out.1, HH.out.2]; simp
        have HCf := Lib.hid hcf
        clear hcf
        go_wp2
        go_roundw
        case rel =>
          refine ⟨j + 1, by omega, by go_num, fun k hk => ?_, H4.out⟩
          by_cases e : k = j
          · rw [e]; exact HCf.out
          · exact HR.out.1 k (by omega)
        case measure => simp [intOf]; omega
    · go_wp2
      go_ret2
      have hj' : j = n := by omega
      subst hj'
      have en : redZ zs s.data.toList = none := by rw [HE.out, find_none_upto HR.out.1]; rfl
      unfold RefRed
      rw [redAll_none en]
      refine ⟨some ⟨b, off, none⟩, cap, s, ?_, rfl, HG.out.2.2.1.below HR.out.2, HR.out.2⟩
      show _ = Ending.returned (.tuple #[.slice _ zs.length _, _])
      rw [HG.out.2.1]; rfl

end Go.Proofs.Ytfgenpailmgkiaa

