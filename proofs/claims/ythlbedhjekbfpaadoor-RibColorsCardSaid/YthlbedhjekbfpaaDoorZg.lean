/-
  slices.Backward over a slice of nodes: the iterator's contract; what 'colors' keeps.
-/
import Derived.Test.YthlbedhjekbfpaaDoorZd
import Derived.RangeFuncFrom
import Derived.RangeFuncNested
import Derived.RangeFuncBound
import Derived.RangeFuncCalls
import Derived.RangeFuncLeaves
import Derived.RangeFuncBox
import Derived.Shelf.Abstract
import Derived.OwnWalkIn
import Derived.TacticsInMore
import Derived.LoopNIn
import Derived.LoopIn
namespace Go.Proofs.YthlbedhjekbfpaaDoor
open Go.RowKit Go.Sort Go.Shelf
attribute [local go_sem] Oper.semAt_some

/-- What a round is handed: an index, and a node. -/
abbrev BkE (m : Nat) : Type := { x : Int × Nat // x.2 < m }
def bkEnc {m : Nat} (x : BkE m) : Array Value := #[.int .i64 x.1.1, .int .i64 x.1.2]
/-- The t-th round's. -/
def bkAt {m : Nat} (L : List Nat) (h : ∀ i : Nat, L[i]?.getD 0 < m) (t : Nat) : BkE m := ⟨(((L.length - 1 - t : Nat) : Int), L[L.length - 1 - t]?.getD 0), h _⟩
def bkTo {m : Nat} (L : List Nat) (h : ∀ i : Nat, L[i]?.getD 0 < m) (k : Nat) : List (BkE m) := (List.range k).map (bkAt L h)
/-- The nodes of the rounds. -/
def bkN {m : Nat} (pre : List (BkE m)) : List Nat := pre.map fun x => x.1.2
theorem bkN_snoc {m : Nat} (pre : List (BkE m)) (x : BkE m) : bkN (pre ++ [x]) = bkN pre ++ [x.1.2] := by simp [bkN]
theorem bkN_lt {m : Nat} (pre : List (BkE m)) : ∀ v ∈ bkN pre, v < m := fun v hv => by
  obtain ⟨x, _, rfl⟩ := List.mem_map.1 hv
  exact x.2
theorem bkTo_succ {m : Nat} (L : List Nat) (h : ∀ i : Nat, L[i]?.getD 0 < m) (k : Nat) : bkTo L h (k + 1) = bkTo L h k ++ [bkAt L h k] := by simp [bkTo, List.range_succ]
theorem bkTo_len {m : Nat} (L : List Nat) (h : ∀ i : Nat, L[i]?.getD 0 < m) (k : Nat) : (bkTo L h k).length = k := by simp [bkTo]
theorem bkTo_nodes {m : Nat} (L : List Nat) (h : ∀ i : Nat, L[i]?.getD 0 < m) : bkN (bkTo L h L.length) = L.reverse := by
  unfold bkN
  refine List.ext_getElem (by simp [bkTo]) fun i h1 h2 => ?_
  have hi : i < L.length := by simpa [bkTo] using h1
  rw [List.getElem_reverse]
  simp only [bkTo, bkAt, List.getElem_map, List.getElem_range]
  rw [List.getElem?_eq_getElem (by omega)]
  rfl

/-- What a round keeps: what lay below, and the iterator's own box. -/
def KpB (n₀ Bs : Nat) (A B : World) : Prop := Below n₀ A B ∧ B.heap[Bs]? = A.heap[Bs]?
theorem KpB.refl (n₀ Bs : Nat) (A : World) : KpB n₀ Bs A A := ⟨Below.refl _ _, rfl⟩
theorem KpB.trans {n₀ Bs : Nat} {A B C : World} (h : KpB n₀ Bs A B) (k : KpB n₀ Bs B C) : KpB n₀ Bs A C := ⟨h.1.trans k.1, k.2.trans h.2⟩
theorem KpB.box {n₀ Bs : Nat} {A B : World} (h : KpB n₀ Bs A B) (j : Nat) : B.cell? ⟨Bs, j, none⟩ = A.cell? ⟨Bs, j, none⟩ := by simp only [World.cell?, h.2]
theorem KpB.putObj {n₀ Bs : Nat} {w : World} (hn : n₀ ≤ w.heap.size) (hB : Bs < w.heap.size) (W : World) (l : Nat) (o o' : Obj) (hl : w.heap.size ≤ l) (h : W.heap[l]? = some o) (h1 : o.isCells = false) (h2 : o.isWalk = false) : KpB n₀ Bs W (W.putObj l o') :=
  ⟨belowK_b hn W l o o' hl h h1 h2, World.putObj_heap_other (by omega)⟩

set_option maxRecDepth 100000 in
set_option maxHeartbeats 2000000 in
theorem back1_in {m : Nat} (n : Nat) (hn : 1 ≤ n) (l Bs n₀ b off cap : Nat) (L : List Nat) (h12 : ∀ i : Nat, L[i]?.getD 0 < m) (hreach : L.length ≤ 1000) (hb : b < n₀) (J Jx : List (BkE m) → World → Prop)
    (hY : ∀ pre x W, J pre W → pre.length < L.length → YieldAt Fence.wide (n - 1) Tryd.prog l (bkEnc x) W fun e W' =>
      (e = .returned (.bool true) ∧ J (pre ++ [x]) W' ∧ KpB n₀ Bs W W') ∨ (e = .returned (.bool false) ∧ Jx (pre ++ [x]) W'))
    (W : World) (hBs : W.cell? ⟨Bs, 0, none⟩ = some (.slice (some ⟨b, off, none⟩) L.length cap)) (hc : ∀ j, j < L.length → W.cell? ⟨b, off + j, none⟩ = some (.int .i64 ((L[j]?.getD 0 : Nat) : Int))) (h0 : J [] W) :
    CallsIn Fence.wide n Tryd.prog 80 #[.func (.yield l) #[] #[], .pointer (some ⟨Bs, 0, none⟩)] W fun e W' => (∃ v, e = .returned v) ∧
      ((∃ ys, ys = bkTo L h12 L.length ∧ J ys W') ∨ (∃ pre, True ∧ Jx pre W')) := by
  refine callsIn_of_wp Tryd.func80 rfl trivial ?_ rfl
  simp only [Tryd.ntmps80, List.size_toArray, List.length_cons, List.length_nil, Nat.reduceAdd, Nat.reduceSub, Array.replicate_succ, Array.replicate_zero, List.push_toArray, List.append_toArray, List.nil_append, List.cons_append]
  obtain ⟨q, hq⟩ : ∃ q, L.length = q := ⟨_, rfl⟩
  rw [hq] at hreach hY hBs hc ⊢
  gi_wp2
  gi_loopw [3] (fun i wr => ∃ k : Nat, k ≤ q ∧ i = .int .i64 ((k : Int) - 1) ∧ J (bkTo L h12 (q - k)) wr ∧ KpB n₀ Bs W wr)
    (fun i _ => (intOf i + 1).toNat)
  case atStart => exact ⟨q, Nat.le_refl _, rfl, by rw [Nat.sub_self]; exact h0, KpB.refl _ _ _⟩
  case round =>
    obtain ⟨k, hk, rfl, hJs, hnx⟩ := hrel
    by_cases hlt : 0 < k
    · have e1 : bkAt L h12 (q - k) = ⟨((((k - 1 : Nat)) : Int), L[k - 1]?.getD 0), h12 _⟩ := by
        unfold bkAt
        congr 2
        · rw [hq]; omega
        · rw [hq, show q - 1 - (q - k) = k - 1 by omega]
      have hcx := (hnx.1.cell (p := ⟨b, off + (k - 1), none⟩) hb).trans (hc (k - 1) (by omega))
      have hbx := (hnx.box 0).trans hBs
      have hY' := hY _ (bkAt L h12 (q - k)) wr hJs (by rw [bkTo_len]; omega)
      rw [← bkTo_succ, show q - k + 1 = q - (k - 1) by omega, e1] at hY'
      unfold bkEnc at hY'
      obtain ⟨v, hv⟩ : ∃ v, L[k - 1]?.getD 0 = v := ⟨_, rfl⟩
      simp only [hv] at hY' hcx
      have hk1 : (((k - 1 : Nat)) : Int) = (k : Int) - 1 := by omega
      rw [hk1] at hY'
      obtain ⟨fn, tmps, assign, body, hy, hR⟩ := hY'
      have g0 : (0 : Int) ≤ (k : Int) - 1 := by omega
      have g1 : (k : Int) - 1 < (q : Int) := by omega
      have g2 : ((k : Int) - 1).toNat = k - 1 := by omega
      clear e1
      gi_wp2
      refine hR.mono ?_
      rintro e W3 (⟨rfl, hJ3, hk3⟩ | ⟨rfl, hJx3⟩)
      · gi_wp2
        go_roundw
        case rel => exact ⟨k - 1, by omega, by rw [hk1], hJ3, hnx.trans hk3⟩
        case measure => simp [intOf]; omega
      · gi_wp2
        refine bodyPost_ret (results_none rfl _ _ _) rfl ?_
        exact ⟨⟨_, rfl⟩, .inr ⟨_, trivial, hJx3⟩⟩
    · obtain rfl : k = 0 := by omega
      gi_wp2
      go_end0
      exact ⟨⟨_, rfl⟩, .inl ⟨_, rfl, by rw [Nat.sub_zero] at hJs; exact hJs⟩⟩

theorem back_stops {m : Nat} (w : World) (n : Nat) (hn : 1 ≤ n) (Bs n₀ b off cap : Nat) (L : List Nat) (h12 : ∀ i : Nat, L[i]?.getD 0 < m) (hreach : L.length ≤ 1000) (hb : b < n₀) (hBn : Bs < w.heap.size) (hn₀ : n₀ ≤ w.heap.size)
    (hBs : w.cell? ⟨Bs, 0, none⟩ = some (.slice (some ⟨b, off, none⟩) L.length cap)) (hc : ∀ j, j < L.length → w.cell? ⟨b, off + j, none⟩ = some (.int .i64 ((L[j]?.getD 0 : Nat) : Int))) :
    SeqStopsK Fence.wide n Tryd.prog 80 #[.pointer (some ⟨Bs, 0, none⟩)] bkEnc (KpB n₀ Bs) (fun ys => ys = bkTo L h12 L.length) (fun _ => True) L.length w := fun l J Jx W hW _ _ hY h0 =>
  back1_in n hn l Bs n₀ b off cap L h12 hreach hb J Jx hY W ((hW.cell (p := ⟨Bs, 0, none⟩) (by show Bs < w.heap.size; omega)).trans hBs) (fun j hj => (hW.cell (p := ⟨b, off + j, none⟩) (by show b < w.heap.size; omega)).trans (hc j hj)) h0

set_option maxHeartbeats 1000000 in
theorem backward_any (a : Option Addr) (len cap : Nat) (w : World) :
    Calls Tryd.prog 61 #[.slice a len cap] w fun e w' => e = .returned (.func (.func 80) #[] #[.pointer (some ⟨w.heap.size, 0, none⟩)]) ∧ w.alloc (.cells #[.slice a len cap] 26) = w' := by
  have hmf : ∀ (fn : Fn) (first cap : Array Value) (w : World), (Instr.makeFunc fn first cap).run Tryd.prog w = .ok (.func fn first cap) w := fun _ _ _ _ => rfl
  go_enter Tryd.func61, Tryd.ntmps61
  go_wp2
  go_ret
  exact ⟨rfl, rfl⟩

end Go.Proofs.YthlbedhjekbfpaaDoor
