/-
  Repeat, no layers.
-/
import Derived.Test.YteckeobhlfddlaaFe
import Derived.Test.YteckeobhlfddlaaShelf
import Derived.Deep.RegionLaw
import Derived.Laws.CopyOwn
import Derived.IntWalk
namespace Go.Proofs.Yteckeobhlfddlaa

section
open Go.RowKit Go.Sort

theorem mul_one (n : Nat) (w : World) (h : n ≤ 1000) :
    Calls Try.prog 66 #[.int .u64 1, .int .u64 n] w fun e w' => e = .returned (.tuple #[.int .u64 0, .int .u64 n]) ∧ w = w' :=
  (Go.Proofs.Try.bits_Mul 1 n (by omega) (by omega) w).mono fun e w' ⟨he, hw⟩ => by
    refine ⟨?_, hw.symm⟩
    rw [he, show 1 * n / 18446744073709551616 = 0 by omega, show 1 * n % 18446744073709551616 = n by omega]
    rfl

theorem made_ints (n : Nat) : madeCells #[Value.int .i64 0] n = (List.replicate n (Value.int .i64 0)).toArray := by
  rw [← Array.toList_inj, toList_madeCells_one]
theorem make_ints (n : Nat) (h : n ≤ 1000) (w : World) :
    (Instr.makeSlice 22 (.int .i64 (n : Int)) (.int .i64 (n : Int))).run Try.prog w = .ok (.slice (some ⟨w.heap.size, 0, none⟩) n n) (w.alloc (.cells (List.replicate n (Value.int .i64 0)).toArray 3)) := by
  obtain ⟨i0, hi, hz0, hz1, hz2⟩ := info_parts Try.info3
  have hr := run_make (P := Try.prog) w 22 3 i0 (.int .i64 0) Try.underlying22 hi hz0 .i64 .i64 n n (by omega) (Int.le_refl _) (by rw [hz2]; omega) (by omega)
  rw [hz1, Nat.mul_one, Int.toNat_natCast] at hr
  rw [hr, ← made_ints]
  rfl

theorem src_one {w : World} {b : Nat} {z : Int} (hc : w.cell? ⟨b, 0, none⟩ = some (.int .i64 z)) (o : Obj) : ∀ (j : Nat) (v : Value), [Value.int .i64 z][j]? = some v → (w.alloc o).cell? ((⟨b, 0, none⟩ : Addr).add j) = some v := fun j v hj => by
  match j, hj with
  | 0, hj =>
    simp at hj
    subst hj
    simpa [Addr.add] using (World.cell?_alloc_past _ _ _ (World.block_lt_of_cell? w _ hc)).trans hc

/-- The row of slices.Repeat when m cells are filled. -/
def repRow (n m : Nat) (z : Int) : List Value := List.replicate m (.int .i64 z) ++ List.replicate (n - m) (.int .i64 0)
theorem repRow_length (n m : Nat) (z : Int) (h : m ≤ n) : (repRow n m z).length = n := by simp [repRow]; omega
theorem repRow_step (n m c : Nat) (z : Int) (h : m + c ≤ n) : splice (repRow n m z) m (List.replicate c (.int .i64 z)) = repRow n (m + c) z := by
  unfold splice repRow
  have e1 : (List.replicate m (Value.int .i64 z) ++ List.replicate (n - m) (Value.int .i64 0)).take m = List.replicate m (Value.int .i64 z) := by
    rw [List.take_append_of_le_length (by simp)]; simp
  have e2 : (List.replicate m (Value.int .i64 z) ++ List.replicate (n - m) (Value.int .i64 0)).drop (m + (List.replicate c (Value.int .i64 z)).length) = List.replicate (n - (m + c)) (Value.int .i64 0) := by
    rw [List.drop_append]; simp; omega
  rw [e1, e2, ← List.append_assoc, List.replicate_append_replicate]
theorem repRow_start (n : Nat) (z : Int) : List.replicate n (Value.int .i64 0) = repRow n 0 z := by simp [repRow]
theorem repRow_done (n : Nat) (z : Int) : repRow n n z = List.replicate n (.int .i64 z) := by simp [repRow]
theorem repRow_at (n m j : Nat) (z : Int) (h : j < m) : (repRow n m z)[j]? = some (.int .i64 z) := by
  unfold repRow
  rw [List.getElem?_append_left (by simpa using h)]
  simp [h]

theorem rep_src {w : World} {g n k m : Nat} {z : Int} (h : w.heap[g]? = some (.cells (repRow n k z).toArray 3 (0, 0))) (hm : m ≤ k) : ∀ (j : Nat) (v : Value), (List.replicate m (Value.int .i64 z))[j]? = some v → w.cell? ((⟨g, 0, none⟩ : Addr).add j) = some v := fun j v hj => by
  have hjm : j < m := by
    have := (List.getElem?_eq_some_iff.1 hj).1
    simpa using this
  have hv : v = .int .i64 z := by
    rw [List.getElem?_replicate] at hj
    simp [hjm] at hj
    exact hj.symm
  have hadd : (⟨g, 0, none⟩ : Addr).add j = ⟨g, j, none⟩ := by unfold Addr.add; split <;> simp_all
  rw [hadd]
  simp only [World.cell?, h]
  have := repRow_at n k j z (by omega)
  simpa [hv] using this

set_option maxRecDepth 100000 in
set_option maxHeartbeats 1000000 in
theorem repeat_any (b n : Nat) (z : Int) (w : World) (h1 : 1 ≤ n) (hn : n ≤ 1000) (hc : w.cell? ⟨b, 0, none⟩ = some (.int .i64 z)) :
    Calls Try.prog 51 #[.slice (some ⟨b, 0, none⟩) 1 1, .int .i64 n] w
      (Gives (fun v w' => ∃ g, v = .slice (some ⟨g, 0, none⟩) n n ∧ w.heap.size ≤ g ∧ w'.heap[g]? = some (.cells (List.replicate n (Value.int .i64 z)).toArray 3 (0, 0))) w) := by
  have hmk := fun w => make_ints n hn w
  have hsz : (Try.prog.info? 3).map (·.size) = some 1 := by kernel_rfl
  have HZ := Lib.hid hsz
  clear hsz
  have hlt := World.block_lt_of_cell? w _ hc
  go_enter Try.func51, Try.ntmps51
  go_wp2_with (first
    | (go_at_call 66; refine (mul_one n _ hn).mono ?_; rintro e w' ⟨rfl, rfl⟩)
    | (refine wpList_copy_splice rfl (.tmp 31) (.tmp 32) 22 22 rfl 3 Try.underlying22 HZ.out _ _ n n 1 1 rfl rfl w.heap.size 0 (repRow n 0 z) 3 (by rw [← repRow_start]; exact heap_alloc_new w _) [.int .i64 z] (Nat.min_eq_left h1).symm (fun _ => ⟨rfl, _, rfl, src_one hc _⟩) (by rw [repRow_length _ _ _ (Nat.zero_le _)]; simpa using h1) (by simp [Value.oneCell']) w.heap.size w ((Below.refl _ _).alloc (Nat.le_refl _) _) (Nat.le_refl _) ?_; intro w1 hg1 hb1))
  go_loopw [8] (fun m wr => ∃ k : Nat, 1 ≤ k ∧ k ≤ n ∧ m = .int .i64 k ∧ Hid (wr.heap[w.heap.size]? = some (.cells (repRow n k z).toArray 3 (0, 0))) ∧ Below w.heap.size w wr) (fun m _ => n - (intOf m).toNat)
  case atStart => exact ⟨1, Nat.le_refl _, h1, rfl, by have := hg1.out; rw [show [Value.int .i64 z] = List.replicate 1 (.int .i64 z) from rfl, repRow_step n 0 1 z (by omega)] at this; exact this, hb1⟩
  case round =>
    obtain ⟨k, k1, hk, rfl, hg, hb⟩ := hrel
    by_cases hlt2 : k < n
    · obtain ⟨c, hcd⟩ : ∃ c, c = min k (n - k) := ⟨_, rfl⟩
      have hmin : (List.replicate c (Value.int .i64 z)).length = Nat.min k (n - k) := by simp [hcd]
      have hcn : k + c ≤ n := by omega
      have hc1 : 1 ≤ c := by omega
      have hck : c ≤ k := by omega
      clear hcd
      have Hmin := Lib.hid hmin
      clear hmin
      have Hb := Lib.hid hb
      clear hb hg1 hb1
      have k0 : (0 : Int) ≤ (k : Int) := by omega
      have kn : (k : Int) ≤ (n : Int) := by omega
      go_wp2_with fail
      have hsum : IntKind.i64.wrap ((k : Int) + (c : Int)) = (k : Int) + c := IntWalk.i64_in _ (by omega)
      go_region_law (refine step_copy_splice rfl (.tmp 41) (.tmp 44) 22 22 rfl 3 Try.underlying22 HZ.out (some ⟨w.heap.size, k, none⟩) (some ⟨w.heap.size, 0, none⟩) (n - k) (n - k) k n (by simp [Act.eval, Act.put]; omega) (by simp [Act.eval, Act.put]) w.heap.size k (repRow n k z) 3 hg.out (List.replicate c (.int .i64 z)) Hmin.out (fun _ => ⟨rfl, _, rfl, rep_src hg.out (by omega)⟩) (by rw [repRow_length _ _ _ hk]; simp; omega) (fun v hv => by rw [List.eq_of_mem_replicate hv]; rfl) w.heap.size w Hb.out.drew (Nat.le_refl _) ?_; intro w2 hg2 hb2)
      have Hb2 := Lib.hid hb2
      clear hb2
      go_wp2
      go_roundw
      case rel => exact ⟨k + c, by omega, hcn, by go_num, by have := hg2.out; rwa [repRow_step _ _ _ _ hcn] at this, Hb2.out⟩
      case measure => simp [intOf]; omega
    · obtain rfl : k = n := by omega
      go_wp2
      go_ret
      exact ⟨_, rfl, ⟨_, rfl, Nat.le_refl _, by have := hg.out; rwa [repRow_done] at this⟩, hb⟩
end

section
open Go.RowKit Go.Sort

set_option maxRecDepth 100000 in
set_option maxHeartbeats 1000000 in
theorem noLayers_any (al : Option Addr) (cl n : Nat) (vh vc : Value) (w : World) (h1 : 1 ≤ n) (hn : n ≤ 1000) :
    Calls Try.prog 40 #[.agg #[.slice al n cl, vh, vc]] w
      (Gives (fun v w' => ∃ g, v = .slice (some ⟨g, 0, none⟩) n n ∧ w.heap.size ≤ g ∧ w'.heap[g]? = some (.cells (List.replicate n (Value.int .i64 (-1))).toArray 3 (0, 0))) w) := by
  have HR : Hid (∀ W : World, Calls Try.prog 51 #[.slice (some ⟨W.heap.size, 0, none⟩) 1 1, .int .i64 n] (W.alloc (.cells #[.int .i64 (-1)] 3))
      (Gives (fun v w' => ∃ g, v = .slice (some ⟨g, 0, none⟩) n n ∧ (W.alloc (.cells #[.int .i64 (-1)] 3)).heap.size ≤ g ∧ w'.heap[g]? = some (.cells (List.replicate n (Value.int .i64 (-1))).toArray 3 (0, 0))) (W.alloc (.cells #[.int .i64 (-1)] 3)))) :=
    Lib.hid fun W => repeat_any W.heap.size n (-1) _ h1 hn (World.cell?_alloc_at _ _ _ _ rfl)
  go_enter Try.func40, Try.ntmps40
  go_wp2_with fail
  have h2 := HR.out (w.alloc (.cells #[.slice al n cl, vh, vc] 63))
  rw [World.size_alloc] at h2
  refine h2.mono ?_
  rintro e w1 ⟨v, rfl, ⟨g, rfl, hg, hc⟩, hb⟩
  have Hb := Lib.hid hb
  have Hc := Lib.hid hc
  clear hb hc h2
  go_wp2
  go_ret
  refine ⟨_, rfl, ⟨g, rfl, by simp at hg; omega, Hc.out⟩, ?_⟩
  exact (((Below.refl _ w).alloc (Nat.le_refl _) _).alloc (by simp) _).trans (Hb.out.mono (by simp; omega))

/-- slices.Clone of a slice that owns its row. -/
theorem clone_any (a : Option Addr) (n cap base : Nat) (xs : List Int) (w : World) (h1 : 1 ≤ n) (hn : n ≤ 1000) (h : w.ownsRow base 3 1 (.slice a n cap) n (xs.map (Value.int .i64))) :
    Calls Try.prog 42 #[.slice a n cap] w (Gives (fun v w' => ∃ g c, v = .slice (some ⟨g, 0, none⟩) n c ∧ w'.ownsRow w.heap.size 3 1 v n (xs.map (Value.int .i64))) w) := by
  have hl : xs.length = n := by simpa using h.1
  rcases ints_cells h with h0 | ⟨b, rfl, _, hc⟩
  · subst h0; simp at hl; omega
  refine (Go.Proofs.Try.slices_Clone_int b 0 n cap xs w (by omega) (by omega) (fun j hj => by rw [Nat.zero_add, hc j hj]; simp)).mono ?_
  rintro e w' ⟨v, rfl, ho, hne, hb⟩
  rw [← hl, List.take_length] at ho
  obtain ⟨m, rfl⟩ : ∃ m, n = m + 1 := ⟨n - 1, by omega⟩
  rw [hl] at ho
  obtain ⟨g, c, rfl⟩ := ownsRow_succ' ho
  exact ⟨_, rfl, ⟨g, c, rfl, ho⟩, hb⟩
end

end Go.Proofs.Yteckeobhlfddlaa
