/-
  Repeat, no layers, the iterator over the orders.
-/
import Derived.Test.YteckeobhlfddlaaFb
import Derived.Test.YteckeobhlfddlaaShelf
import Derived.Deep.RegionLaw
import Derived.Laws.CopyOwn
import Derived.IntWalk
import Derived.RangeFuncNested
import Derived.RangeFuncBound
import Derived.RangeFuncCalls
import Derived.RangeFuncLeaves
import Derived.Shelf.Abstract
import Derived.Shelf.RegionOpen
import Derived.OwnWalkIn
import Derived.TacticsInMore
import Derived.LoopNIn
import Derived.LoopIn
import Derived.Maps.OwnIn
namespace Go.Proofs.Yteckeobhlfddlaa

section
open Go.RowKit Go.Sort

theorem mul_one (n : Nat) (w : World) (h : n ≤ 1000) :
    Calls Try.prog 66 #[.int .u64 1, .int .u64 n] w fun e w' => e = .returned (.tuple #[.int .u64 0, .int .u64 n]) ∧ w = w' :=
  (Go.Proofs.Try.bits_Mul 1 n (by omega) (by omega) w).mono fun e w' ⟨he, hw⟩ => by
    refine ⟨?_, hw.symm⟩
    rw [he, show 1 * n / 18446744073709551616 = 0 by omega, show 1 * n % 18446744073709551616 = n by omega]
    rfl

theorem made_ints (n : Nat) : madeCells #[Value.int .i64 0] n = (List.replicate n (Value.int .i64 0)).toArray := by
  rw [← Array.toList_inj, toList_madeCells_one]
theorem make_ints (n : Nat) (h : n ≤ 1000) (w : World) :
    (Instr.makeSlice 22 (.int .i64 (n : Int)) (.int .i64 (n : Int))).run Try.prog w = .ok (.slice (some ⟨w.heap.size, 0, none⟩) n n) (w.alloc (.cells (List.replicate n (Value.int .i64 0)).toArray 3)) := by
  obtain ⟨i0, hi, hz0, hz1, hz2⟩ := info_parts Try.info3
  have hr := run_make (P := Try.prog) w 22 3 i0 (.int .i64 0) Try.underlying22 hi hz0 .i64 .i64 n n (by omega) (Int.le_refl _) (by rw [hz2]; omega) (by omega)
  rw [hz1, Nat.mul_one, Int.toNat_natCast] at hr
  rw [hr, ← made_ints]
  rfl

theorem src_one {w : World} {b : Nat} {z : Int} (hc : w.cell? ⟨b, 0, none⟩ = some (.int .i64 z)) (o : Obj) : ∀ (j : Nat) (v : Value), [Value.int .i64 z][j]? = some v → (w.alloc o).cell? ((⟨b, 0, none⟩ : Addr).add j) = some v := fun j v hj => by
  match j, hj with
  | 0, hj =>
    simp at hj
    subst hj
    simpa [Addr.add] using (World.cell?_alloc_past _ _ _ (World.block_lt_of_cell? w _ hc)).trans hc

/-- The row of slices.Repeat when m cells are filled. -/
def repRow (n m : Nat) (z : Int) : List Value := List.replicate m (.int .i64 z) ++ List.replicate (n - m) (.int .i64 0)
theorem repRow_length (n m : Nat) (z : Int) (h : m ≤ n) : (repRow n m z).length = n := by simp [repRow]; omega
theorem repRow_step (n m c : Nat) (z : Int) (h : m + c ≤ n) : splice (repRow n m z) m (List.replicate c (.int .i64 z)) = repRow n (m + c) z := by
  unfold splice repRow
  have e1 : (List.replicate m (Value.int .i64 z) ++ List.replicate (n - m) (Value.int .i64 0)).take m = List.replicate m (Value.int .i64 z) := by
    rw [List.take_append_of_le_length (by simp)]; simp
  have e2 : (List.replicate m (Value.int .i64 z) ++ List.replicate (n - m) (Value.int .i64 0)).drop (m + (List.replicate c (Value.int .i64 z)).length) = List.replicate (n - (m + c)) (Value.int .i64 0) := by
    rw [List.drop_append]; simp; omega
  rw [e1, e2, ← List.append_assoc, List.replicate_append_replicate]
theorem repRow_start (n : Nat) (z : Int) : List.replicate n (Value.int .i64 0) = repRow n 0 z := by simp [repRow]
theorem repRow_done (n : Nat) (z : Int) : repRow n n z = List.replicate n (.int .i64 z) := by simp [repRow]
theorem repRow_at (n m j : Nat) (z : Int) (h : j < m) : (repRow n m z)[j]? = some (.int .i64 z) := by
  unfold repRow
  rw [List.getElem?_append_left (by simpa using h)]
  simp [h]

theorem rep_src {w : World} {g n k m : Nat} {z : Int} (h : w.heap[g]? = some (.cells (repRow n k z).toArray 3 (0, 0))) (hm : m ≤ k) : ∀ (j : Nat) (v : Value), (List.replicate m (Value.int .i64 z))[j]? = some v → w.cell? ((⟨g, 0, none⟩ : Addr).add j) = some v := fun j v hj => by
  have hjm : j < m := by
    have := (List.getElem?_eq_some_iff.1 hj).1
    simpa using this
  have hv : v = .int .i64 z := by
    rw [List.getElem?_replicate] at hj
    simp [hjm] at hj
    exact hj.symm
  have hadd : (⟨g, 0, none⟩ : Addr).add j = ⟨g, j, none⟩ := by unfold Addr.add; split <;> simp_all
  rw [hadd]
  simp only [World.cell?, h]
  have := repRow_at n k j z (by omega)
  simpa [hv] using this

set_option maxRecDepth 100000 in
set_option maxHeartbeats 1000000 in
theorem repeat_any (b n : Nat) (z : Int) (w : World) (h1 : 1 ≤ n) (hn : n ≤ 1000) (hc : w.cell? ⟨b, 0, none⟩ = some (.int .i64 z)) :
    Calls Try.prog 51 #[.slice (some ⟨b, 0, none⟩) 1 1, .int .i64 n] w
      (Gives (fun v w' => ∃ g, v = .slice (some ⟨g, 0, none⟩) n n ∧ w.heap.size ≤ g ∧ w'.heap[g]? = some (.cells (List.replicate n (Value.int .i64 z)).toArray 3 (0, 0))) w) := by
  have hmk := fun w => make_ints n hn w
  have hsz : (Try.prog.info? 3).map (·.size) = some 1 := by kernel_rfl
  have HZ := Lib.hid hsz
  clear hsz
  have hlt := World.block_lt_of_cell? w _ hc
  go_enter Try.func51, Try.ntmps51
  go_wp2_with (first
    | (go_at_call 66; refine (mul_one n _ hn).mono ?_; rintro e w' ⟨rfl, rfl⟩)
    | (refine wpList_copy_splice rfl (.tmp 31) (.tmp 32) 22 22 rfl 3 Try.underlying22 HZ.out _ _ n n 1 1 rfl rfl w.heap.size 0 (repRow n 0 z) 3 (by rw [← repRow_start]; exact heap_alloc_new w _) [.int .i64 z] (Nat.min_eq_left h1).symm (fun _ => ⟨rfl, _, rfl, src_one hc _⟩) (by rw [repRow_length _ _ _ (Nat.zero_le _)]; simpa using h1) (by simp [Value.oneCell']) w.heap.size w ((Below.refl _ _).alloc (Nat.le_refl _) _) (Nat.le_refl _) ?_; intro w1 hg1 hb1))
  go_loopw [8] (fun m wr => ∃ k : Nat, 1 ≤ k ∧ k ≤ n ∧ m = .int .i64 k ∧ Hid (wr.heap[w.heap.size]? = some (.cells (repRow n k z).toArray 3 (0, 0))) ∧ Below w.heap.size w wr) (fun m _ => n - (intOf m).toNat)
  case atStart => exact ⟨1, Nat.le_refl _, h1, rfl, by have := hg1.out; rw [show [Value.int .i64 z] = List.replicate 1 (.int .i64 z) from rfl, repRow_step n 0 1 z (by omega)] at this; exact this, hb1⟩
  case round =>
    obtain ⟨k, k1, hk, rfl, hg, hb⟩ := hrel
    by_cases hlt2 : k < n
    · obtain ⟨c, hcd⟩ : ∃ c, c = min k (n - k) := ⟨_, rfl⟩
      have hmin : (List.replicate c (Value.int .i64 z)).length = Nat.min k (n - k) := by simp [hcd]
      have hcn : k + c ≤ n := by omega
      have hc1 : 1 ≤ c := by omega
      have hck : c ≤ k := by omega
      clear hcd
      have Hmin := Lib.hid hmin
      clear hmin
      have Hb := Lib.hid hb
      clear hb hg1 hb1
      have k0 : (0 : Int) ≤ (k : Int) := by omega
      have kn : (k : Int) ≤ (n : Int) := by omega
      go_wp2_with fail
      have hsum : IntKind.i64.wrap ((k : Int) + (c : Int)) = (k : Int) + c := IntWalk.i64_in _ (by omega)
      go_region_law (refine step_copy_splice rfl (.tmp 41) (.tmp 44) 22 22 rfl 3 Try.underlying22 HZ.out (some ⟨w.heap.size, k, none⟩) (some ⟨w.heap.size, 0, none⟩) (n - k) (n - k) k n (by simp [Act.eval, Act.put]; omega) (by simp [Act.eval, Act.put]) w.heap.size k (repRow n k z) 3 hg.out (List.replicate c (.int .i64 z)) Hmin.out (fun _ => ⟨rfl, _, rfl, rep_src hg.out (by omega)⟩) (by rw [repRow_length _ _ _ hk]; simp; omega) (fun v hv => by rw [List.eq_of_mem_replicate hv]; rfl) w.heap.size w Hb.out.drew (Nat.le_refl _) ?_; intro w2 hg2 hb2)
      have Hb2 := Lib.hid hb2
      clear hb2
      go_wp2
      go_roundw
      case rel => exact ⟨k + c, by omega, hcn, by go_num, by have := hg2.out; rwa [repRow_step _ _ _ _ hcn] at this, Hb2.out⟩
      case measure => simp [intOf]; omega
    · obtain rfl : k = n := by omega
      go_wp2
      go_ret
      exact ⟨_, rfl, ⟨_, rfl, Nat.le_refl _, by have := hg.out; rwa [repRow_done] at this⟩, hb⟩
end

section
open Go.RowKit Go.Sort

set_option maxRecDepth 100000 in
set_option maxHeartbeats 1000000 in
theorem noLayers_any (al : Option Addr) (cl n : Nat) (vh vc : Value) (w : World) (h1 : 1 ≤ n) (hn : n ≤ 1000) :
    Calls Try.prog 40 #[.agg #[.slice al n cl, vh, vc]] w
      (Gives (fun v w' => ∃ g, v = .slice (some ⟨g, 0, none⟩) n n ∧ w.heap.size ≤ g ∧ w'.heap[g]? = some (.cells (List.replicate n (Value.int .i64 (-1))).toArray 3 (0, 0))) w) := by
  have HR : Hid (∀ W : World, Calls Try.prog 51 #[.slice (some ⟨W.heap.size, 0, none⟩) 1 1, .int .i64 n] (W.alloc (.cells #[.int .i64 (-1)] 3))
      (Gives (fun v w' => ∃ g, v = .slice (some ⟨g, 0, none⟩) n n ∧ (W.alloc (.cells #[.int .i64 (-1)] 3)).heap.size ≤ g ∧ w'.heap[g]? = some (.cells (List.replicate n (Value.int .i64 (-1))).toArray 3 (0, 0))) (W.alloc (.cells #[.int .i64 (-1)] 3)))) :=
    Lib.hid fun W => repeat_any W.heap.size n (-1) _ h1 hn (World.cell?_alloc_at _ _ _ _ rfl)
  go_enter Try.func40, Try.ntmps40
  go_wp2_with fail
  have h2 := HR.out (w.alloc (.cells #[.slice al n cl, vh, vc] 63))
  rw [World.size_alloc] at h2
  refine h2.mono ?_
  rintro e w1 ⟨v, rfl, ⟨g, rfl, hg, hc⟩, hb⟩
  have Hb := Lib.hid hb
  have Hc := Lib.hid hc
  clear hb hc h2
  go_wp2
  go_ret
  refine ⟨_, rfl, ⟨g, rfl, by simp at hg; omega, Hc.out⟩, ?_⟩
  exact (((Below.refl _ w).alloc (Nat.le_refl _) _).alloc (by simp) _).trans (Hb.out.mono (by simp; omega))

/-- slices.Clone of a slice that owns its row. -/
theorem clone_any (a : Option Addr) (n cap base : Nat) (xs : List Int) (w : World) (h1 : 1 ≤ n) (hn : n ≤ 1000) (h : w.ownsRow base 3 1 (.slice a n cap) n (xs.map (Value.int .i64))) :
    Calls Try.prog 42 #[.slice a n cap] w (Gives (fun v w' => ∃ g c, v = .slice (some ⟨g, 0, none⟩) n c ∧ w'.ownsRow w.heap.size 3 1 v n (xs.map (Value.int .i64))) w) := by
  have hl : xs.length = n := by simpa using h.1
  rcases ints_cells h with h0 | ⟨b, rfl, _, hc⟩
  · subst h0; simp at hl; omega
  refine (Go.Proofs.Try.slices_Clone_int b 0 n cap xs w (by omega) (by omega) (fun j hj => by rw [Nat.zero_add, hc j hj]; simp)).mono ?_
  rintro e w' ⟨v, rfl, ho, hne, hb⟩
  rw [← hl, List.take_length] at ho
  obtain ⟨m, rfl⟩ : ∃ m, n = m + 1 := ⟨n - 1, by omega⟩
  rw [hl] at ho
  obtain ⟨g, c, rfl⟩ := ownsRow_succ' ho
  exact ⟨_, rfl, ⟨g, c, rfl, ho⟩, hb⟩
end

section
open Go.RowKit Go.Sort

/-- The blocks of an iteration. -/
structure Ids where
  N0 : Nat
  N1 : Nat
  By : Nat
  Bl : Nat
  gl : Nat
  Bo : Nat
  Bp : Nat
  Bc : Nat
  l : Nat
  n : Nat
structure Ids.ok (d : Ids) : Prop where
  h0 : d.N0 ≤ d.By
  h1 : d.By < d.gl
  h2 : d.gl < d.Bl
  h3 : d.Bl < d.Bo
  h4 : d.Bo < d.Bp
  h5 : d.Bp < d.N1
  hc : d.Bc < d.N0
  hn : 1 ≤ d.n
  hn9 : d.n ≤ 9

def Ids.fnV (d : Ids) : Value := .func (.func 41) #[] #[.pointer (some ⟨d.Bo, 0, none⟩), .pointer (some ⟨d.Bl, 0, none⟩), .pointer (some ⟨d.By, 0, none⟩), .pointer (some ⟨d.Bc, 0, none⟩), .pointer (some ⟨d.Bp, 0, none⟩)]
def intsOf (O : List Nat) : List Value := O.map fun (x : Nat) => Value.int .i64 x

/-- The iterator's own memory: L the layers, O the order so far. -/
structure PS (d : Ids) (W : World) (L : List Int) (O : List Nat) : Prop where
  hy : W.heap[d.By]? = some (.cells #[.func (.yield d.l) #[] #[]] 58 (0, 0))
  hl : W.heap[d.Bl]? = some (.cells #[.slice (some ⟨d.gl, 0, none⟩) d.n d.n] 22 (0, 0))
  hg : W.heap[d.gl]? = some (.cells (L.map (Value.int .i64)).toArray 3 (0, 0))
  hL : L.length = d.n
  hp : W.heap[d.Bp]? = some (.cells #[d.fnV] 84 (0, 0))
  ho : ∃ a cap, W.heap[d.Bo]? = some (.cells #[.slice a O.length cap] 22 (0, 0)) ∧ W.ownsRow d.N0 3 1 (.slice a O.length cap) O.length (intsOf O) ∧ (Value.slice a O.length cap).ownBlock ≠ some d.gl
  hN : d.N1 ≤ W.heap.size

/-- What a round keeps: whatever lies from N on. -/
structure Above (N : Nat) (W W' : World) : Prop where
  size : W.heap.size ≤ W'.heap.size
  block : ∀ b, N ≤ b → b < W.heap.size → W'.heap[b]? = W.heap[b]?

/-- What the iterator turns when it unwinds: blocks between N0 and N1 alone. -/
structure Mid (N0 N1 : Nat) (W W' : World) : Prop where
  os : W'.os = W.os
  tape : W'.tape = W.tape
  output : W'.output = W.output
  size : W'.heap.size = W.heap.size
  block : ∀ b, b < N0 ∨ N1 ≤ b → W'.heap[b]? = W.heap[b]?
theorem Mid.refl (N0 N1 : Nat) (W : World) : Mid N0 N1 W W := ⟨rfl, rfl, rfl, rfl, fun _ _ => rfl⟩
theorem Mid.setCell {N0 N1 : Nat} {W W' : World} (h : Mid N0 N1 W W') {a : Addr} (h0 : N0 ≤ a.block) (h1 : a.block < N1) (v : Value) : Mid N0 N1 W (W'.setCell a v) :=
  ⟨h.os, h.tape, h.output, by rw [← h.size]; show (W'.heap.modify _ _).size = _; rw [Array.size_modify], fun b hb => (Below.heap_setCell W' a v b (by omega)).trans (h.block b hb)⟩

theorem ownsRow_of_block {w w' : World} {base : Nat} {e : TypeId} {size : Nat} {v : Value} {n : Nat} {xs : List Value} (h : w.ownsRow base e size v n xs) (hb : ∀ g, v.ownBlock = some g → w'.heap[g]? = w.heap[g]?) : w'.ownsRow base e size v n xs := by
  refine ⟨h.1, h.2.imp id ?_⟩
  rintro ⟨g, cap, cur, rfl, h1, h2, h3⟩
  exact ⟨g, cap, cur, rfl, h1, (hb g rfl).trans h2, h3⟩

/-- The iterator's memory behind whatever leaves its blocks. -/
theorem PS.keep {d : Ids} (hd : d.ok) {W W' : World} {L : List Int} {O : List Nat} (h : PS d W L O) (hs : W.heap.size ≤ W'.heap.size) (hb : ∀ b, d.N0 ≤ b → b < W.heap.size → W'.heap[b]? = W.heap[b]?) : PS d W' L O := by
  have k0 := hd.h0; have k1 := hd.h1; have k2 := hd.h2; have k3 := hd.h3; have k4 := hd.h4; have k5 := hd.h5; have hN := h.hN
  obtain ⟨a, cap, ho, hr, hne⟩ := h.ho
  refine ⟨(hb _ (by omega) (by omega)).trans h.hy, (hb _ (by omega) (by omega)).trans h.hl, (hb _ (by omega) (by omega)).trans h.hg, h.hL, (hb _ (by omega) (by omega)).trans h.hp, ⟨a, cap, (hb _ (by omega) (by omega)).trans ho, ?_, hne⟩, by omega⟩
  exact ownsRow_of_block hr fun g hg => hb g (hr.lt g hg).1 (hr.lt g hg).2
theorem PS.above {d : Ids} (hd : d.ok) {W W' : World} {L : List Int} {O : List Nat} (h : PS d W L O) (hk : Above d.N0 W W') : PS d W' L O := h.keep hd hk.size fun b h0 h1 => hk.block b h0 h1
theorem PS.below {d : Ids} (hd : d.ok) {W W' : World} {L : List Int} {O : List Nat} (h : PS d W L O) (hk : Below W.heap.size W W') : PS d W' L O := h.keep hd hk.size fun b _ h1 => hk.block b h1

/-- A store into the layers. -/
theorem PS.setL {d : Ids} (hd : d.ok) {W : World} {L : List Int} {O : List Nat} (h : PS d W L O) (s : Nat) (v : Int) : PS d (W.setCell ⟨d.gl, s, none⟩ (.int .i64 v)) (L.set s v) O := by
  have k0 := hd.h0; have k1 := hd.h1; have k2 := hd.h2; have k3 := hd.h3; have k4 := hd.h4; have k5 := hd.h5
  obtain ⟨a, cap, ho, hr, hne⟩ := h.ho
  have far : ∀ b, b ≠ d.gl → (W.setCell ⟨d.gl, s, none⟩ (.int .i64 v)).heap[b]? = W.heap[b]? := fun b hb => Below.heap_setCell W _ _ b hb
  refine ⟨(far _ (by omega)).trans h.hy, (far _ (by omega)).trans h.hl, ?_, by simpa using h.hL, (far _ (by omega)).trans h.hp, ⟨a, cap, (far _ (by omega)).trans ho, ownsRow_setCell_other hr hne _, hne⟩, ?_⟩
  · rw [heap_setCell_self h.hg]
    congr 2
    rw [← Array.toList_inj]
    simp [List.map_set]
  · show d.N1 ≤ (W.heap.modify _ _).size
    rw [Array.size_modify]; exact h.hN

theorem PS.boxO {d : Ids} {W : World} {L : List Int} {O : List Nat} (h : PS d W L O) (hd : d.ok) {base k : Nat} {v : Value} {xs : List Value} (hr : W.ownsRow base 3 1 v k xs) : v.ownBlock ≠ some d.Bo ∧ v.ownBlock ≠ some d.Bl ∧ v.ownBlock ≠ some d.By ∧ v.ownBlock ≠ some d.Bp := by
  obtain ⟨a, cap, ho, _, _⟩ := h.ho
  have aux : ∀ (b : Nat) (u : Value) (t : TypeId), t ≠ 3 → W.heap[b]? = some (.cells #[u] t (0, 0)) → v.ownBlock ≠ some b := fun b u t ht hb e => by
    rcases hr.2 with ⟨rfl, _⟩ | ⟨g, cap, cur, rfl, _, hgb, _⟩
    · cases e
    · obtain rfl : g = b := by simpa [Value.ownBlock] using e
      rw [hgb] at hb
      simp at hb
      exact ht hb.2.symm
  exact ⟨aux _ _ _ (by decide) ho, aux _ _ _ (by decide) h.hl, aux _ _ _ (by decide) h.hy, aux _ _ _ (by decide) h.hp⟩

/-- Behind 'order = append(order, s)'. -/
theorem PS.push {d : Ids} (hd : d.ok) {W W1 : World} {L : List Int} {O : List Nat} (h : PS d W L O) (s : Nat) {a : Option Addr} {cap g cap' : Nat} (ho : W.heap[d.Bo]? = some (.cells #[.slice a O.length cap] 22 (0, 0)))
    (hr : W.ownsRow d.N0 3 1 (.slice a O.length cap) O.length (intsOf O)) (hne : (Value.slice a O.length cap).ownBlock ≠ some d.gl)
    (hr1 : W1.ownsRow d.N0 3 1 (.slice (some ⟨g, 0, none⟩) (O.length + 1) cap') (O.length + 1) (intsOf O ++ [.int .i64 s])) (hg : W.grownBy W1 (Value.slice a O.length cap).ownBlock) (hat : some g = (Value.slice a O.length cap).ownBlock ∨ W.heap.size ≤ g) :
    W1.heap[d.Bo]? = some (.cells #[.slice a O.length cap] 22 (0, 0)) ∧ PS d (W1.setCell ⟨d.Bo, 0, none⟩ (.slice (some ⟨g, 0, none⟩) (O.length + 1) cap')) L (O ++ [s]) ∧ Below d.N0 W (W1.setCell ⟨d.Bo, 0, none⟩ (.slice (some ⟨g, 0, none⟩) (O.length + 1) cap')) := by
  have k0 := hd.h0; have k1 := hd.h1; have k2 := hd.h2; have k3 := hd.h3; have k4 := hd.h4; have k5 := hd.h5; have hN := h.hN
  obtain ⟨n1, n2, n3, n4⟩ := h.boxO hd hr
  have old : ∀ b, b < W.heap.size → (Value.slice a O.length cap).ownBlock ≠ some b → W1.heap[b]? = W.heap[b]? := fun b hb hne => hg.block b hb (Ne.symm hne)
  have hoW1 := (old d.Bo (by omega) n1).trans ho
  have gne : ∀ b, b < W.heap.size → (Value.slice a O.length cap).ownBlock ≠ some b → g ≠ b := fun b hb hne e => by
    rcases hat with e' | e'
    · exact hne (e'.symm.trans (by rw [e]))
    · omega
  have far : ∀ b, b < W.heap.size → (Value.slice a O.length cap).ownBlock ≠ some b → b ≠ d.Bo → (W1.setCell ⟨d.Bo, 0, none⟩ (.slice (some ⟨g, 0, none⟩) (O.length + 1) cap')).heap[b]? = W.heap[b]? := fun b hb hne hbo => (Below.heap_setCell W1 _ _ b hbo).trans (old b hb hne)
  refine ⟨hoW1, ⟨(far _ (by omega) n3 (by omega)).trans h.hy, (far _ (by omega) n2 (by omega)).trans h.hl, (far _ (by omega) hne (by omega)).trans h.hg, h.hL, (far _ (by omega) n4 (by omega)).trans h.hp, ⟨some ⟨g, 0, none⟩, cap', ?_, ?_, ?_⟩, ?_⟩, ?_⟩
  · rw [heap_setCell_self hoW1]; simp
  · have e : intsOf (O ++ [s]) = intsOf O ++ [.int .i64 (s : Int)] := by simp [intsOf]
    rw [e, List.length_append]
    exact ownsRow_setCell_other hr1 (by simpa [Value.ownBlock] using gne d.Bo (by omega) n1) _
  · have := gne d.gl (by omega) hne
    simpa [Value.ownBlock] using this
  · show d.N1 ≤ (W1.heap.modify _ _).size
    rw [Array.size_modify]; have := hg.size; omega
  · exact ((Below.refl d.N0 W).grown hg (by omega) (fun k hk => (hr.lt k hk).1)).setCell (by simp; omega) _

/-- Behind 'order = order[:len(order)-1]'. -/
theorem PS.pop {d : Ids} (hd : d.ok) {W : World} {L : List Int} {O : List Nat} {s : Nat} (h : PS d W L (O ++ [s])) {a : Option Addr} {cap : Nat} (ho : W.heap[d.Bo]? = some (.cells #[.slice a (O.length + 1) cap] 22 (0, 0)))
    (hr : W.ownsRow d.N0 3 1 (.slice a (O.length + 1) cap) (O.length + 1) (intsOf O ++ [.int .i64 s])) (hne : (Value.slice a (O.length + 1) cap).ownBlock ≠ some d.gl) :
    PS d (W.setCell ⟨d.Bo, 0, none⟩ (.slice a O.length cap)) L O ∧ Mid d.N0 d.N1 W (W.setCell ⟨d.Bo, 0, none⟩ (.slice a O.length cap)) := by
  have k0 := hd.h0; have k1 := hd.h1; have k2 := hd.h2; have k3 := hd.h3; have k4 := hd.h4; have k5 := hd.h5; have hN := h.hN
  have hm : Mid d.N0 d.N1 W (W.setCell ⟨d.Bo, 0, none⟩ (.slice a O.length cap)) := (Mid.refl _ _ _).setCell (by simp; omega) (by simp; omega) _
  obtain ⟨n1, n2, n3, n4⟩ := h.boxO hd hr
  have far : ∀ b, b ≠ d.Bo → (W.setCell ⟨d.Bo, 0, none⟩ (.slice a O.length cap)).heap[b]? = W.heap[b]? := fun b hb => Below.heap_setCell W _ _ b hb
  refine ⟨⟨(far _ (by omega)).trans h.hy, (far _ (by omega)).trans h.hl, (far _ (by omega)).trans h.hg, h.hL, (far _ (by omega)).trans h.hp, ⟨a, cap, ?_, ?_, ?_⟩, by rw [hm.size]; exact hN⟩, hm⟩
  · rw [heap_setCell_self ho]; simp
  · obtain ⟨g, cap2, e⟩ := ownsRow_succ' hr
    cases e
    exact ownsRow_setCell_other (ownsRow_pop (by simp [intsOf]) hr) (by simpa [Value.ownBlock] using n1) _
  · obtain ⟨g, cap2, e⟩ := ownsRow_succ' hr
    cases e
    exact hne
end

end Go.Proofs.Yteckeobhlfddlaa
