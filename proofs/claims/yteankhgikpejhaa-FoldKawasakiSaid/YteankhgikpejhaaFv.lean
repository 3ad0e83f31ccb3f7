/-
  The walk of the reference's 'Same'; what 'lives' asks; the walk of 'lives'.
-/
import Derived.Test.YteankhgikpejhaaFu
namespace Go.Proofs.Yteankhgikpejhaa
open Go.RowKit Go.Sort Go.Shelf

theorem take_eq_step {xs ys : List Int} (k : Nat) (hx : k < xs.length) (hy : k < ys.length) (h : xs.take k = ys.take k) (e : xs[k]?.getD 0 = ys[k]?.getD 0) : xs.take (k + 1) = ys.take (k + 1) := by
  rw [List.getElem?_eq_getElem hx, List.getElem?_eq_getElem hy, Option.getD_some, Option.getD_some] at e
  rw [List.take_succ_eq_append_getElem hx, List.take_succ_eq_append_getElem hy, h, e]

set_option maxHeartbeats 1000000 in
theorem same_any (a b : Option Addr) (n m ca cb : Nat) (xs ys : List Int) (w : World) (hx : xs.length = n) (hy : ys.length = m) (hn : n ≤ 9223372036854775807) (hm : m ≤ 9223372036854775807) (ha : Ints w a xs) (hb : Ints w b ys) :
    Calls Try.prog 25 #[.slice a n ca, .slice b m cb] w fun e w' => e = .returned (.bool (decide (xs = ys))) ∧ Below w.heap.size w w' := by
  by_cases hnm : n = m
  · subst hnm
    have HA := Lib.hid ha.at
    have HB := Lib.hid hb.at
    have HX := Lib.hid hx
    have HY := Lib.hid hy
    clear ha hb hx hy
    go_enter Try.func25, Try.ntmps25
    go_wp2
    go_loopw [5] (fun i wr => ∃ k : Nat, k ≤ n ∧ i = .int .i64 k ∧ xs.take k = ys.take k ∧ Below w.heap.size w wr) (fun i _ => n - (intOf i).toNat)
    case atStart => exact ⟨0, Nat.zero_le _, rfl, rfl, Below.refl _ _⟩
    case round =>
      obtain ⟨k, hk, rfl, he, hw⟩ := hrel
      have HE := Lib.hid he
      have HW := Lib.hid hw
      clear he hw
      by_cases hlt : k < n
      · have hkx : k < xs.length := by have := HX.out; omega
        have hky : k < ys.length := by have := HY.out; omega
        rcases HA.out with h | ⟨ba, oa, rfl, hca⟩
        · subst h; simp at hkx
        rcases HB.out with h | ⟨bb, ob, rfl, hcb⟩
        · subst h; simp at hky
        have c0 := (HW.out.cell (p := ⟨ba, oa + k, none⟩) (World.block_lt_of_cell? w _ (hca k hkx))).trans (hca k hkx)
        have c1 := (HW.out.cell (p := ⟨bb, ob + k, none⟩) (World.block_lt_of_cell? w _ (hcb k hky))).trans (hcb k hky)
        clear hca hcb
        have HKX := Lib.hid hkx
        have HKY := Lib.hid hky
        obtain ⟨x, hxk⟩ : ∃ x, xs[k]?.getD 0 = x := ⟨_, rfl⟩
        obtain ⟨y, hyk⟩ : ∃ y, ys[k]?.getD 0 = y := ⟨_, rfl⟩
        rw [hxk] at c0
        rw [hyk] at c1
        have HXK := Lib.hid (And.intro hxk hyk)
        clear hxk hyk hkx hky
        go_wp2
        go_quiet (fail)
        go_wp2
        · go_ret
          have hne : (x != y) = true := by assumption
          refine ⟨ret_bool (Eq.symm (decide_eq_false fun e => ?_)), below_drewN HW.out _⟩
          have h1 := HXK.out.1
          have h2 := HXK.out.2
          subst e
          rw [h1] at h2
          simp [h2] at hne
        · have heq : (x != y) = false := by assumption
          go_roundw
          case rel => exact ⟨k + 1, by omega, by go_num, take_eq_step k HKX.out HKY.out HE.out (by rw [HXK.out.1, HXK.out.2]; simpa using heq), below_drewN HW.out _⟩
          case measure => simp [intOf]; omega
      · go_wp2
        go_ret
        have hk' : k = n := by omega
        subst hk'
        refine ⟨ret_bool (Eq.symm (decide_eq_true ?_)), HW.out⟩
        have h := HE.out
        rwa [List.take_of_length_le (by rw [HX.out]; exact Nat.le_refl _), List.take_of_length_le (by rw [HY.out]; exact Nat.le_refl _)] at h
  · have hne : ((n : Int) != (m : Int)) = true := by rw [bne_iff_ne]; omega
    have HX := Lib.hid (And.intro hx hy)
    clear hx hy ha hb
    go_enter Try.func25, Try.ntmps25
    go_wp2
    go_ret
    refine ⟨ret_bool (Eq.symm (decide_eq_false fun e => hnm ?_)), Below.refl _ _⟩
    rw [← HX.out.1, ← HX.out.2, e]

theorem live_find : (ordersOf (layCl [3, 1, 3]) 3).find? (fun o => (crsOf [3, 1, 3] o).toList == vm.toList) = some [0, 1, 2] := by decide +kernel
theorem live_count : countOf [1, 1, 1] = 6 := by decide +kernel

theorem Ints.of_owns {w : World} {base n cap : Nat} {a : Option Addr} {l : List Int} (h : w.ownsRow base 3 1 (.slice a n cap) n (l.map (Value.int .i64))) : Ints w a l := by
  rcases ints_cells h with rfl | ⟨b, rfl, _, hc⟩
  · intro i hi; simp at hi
  · intro i hi
    exact ⟨b, 0, rfl, by rw [Nat.zero_add]; exact hc i hi⟩
theorem Ints.of_row {w : World} {b : Nat} {l : List Int} {t : TypeId} (h : w.heap[b]? = some (.cells (l.map (Value.int .i64)).toArray t (0, 0))) : Ints w (some ⟨b, 0, none⟩) l := by
  intro i hi
  refine ⟨b, 0, rfl, ?_⟩
  rw [cell_of_row' h]
  simp [hi]

/-- What 'Layers' hands back at 3 1 3 with VM. -/
def LiveL (w : World) (e : Ending) (w' : World) : Prop := ∃ g cap, e = .returned (.tuple #[.slice (some ⟨g, 0, none⟩) 3 cap, .int .i64 0]) ∧ Ints w' (some ⟨g, 0, none⟩) [0, 1, 2] ∧ Below w.heap.size w w'
theorem Layers_313 (b m : Nat) (w : World) (hb : w.heap[b]? = some (.cells #[.int .i64 3, .int .i64 1, .int .i64 3] 3 (0, 0))) :
    CallsIn Fence.wide m Try.prog 26 #[.slice (some ⟨b, 0, none⟩) 3 3, .string vm] w (LiveL w) := by
  refine (Layers_good (some ⟨b, 0, none⟩) 3 3 m [3, 1, 3] vm w rfl (ints_313 (rest := []) hb) rfl rfl).mono ?_
  rintro e w' ⟨v, err, rfl, hbl, hf⟩
  rw [show ([3, 1, 3] : List Int).length = 3 from rfl, live_find] at hf
  obtain ⟨rfl, g, cap, rfl, _, hr⟩ := hf
  exact ⟨g, cap, rfl, Ints.of_owns (l := [0, 1, 2]) hr, hbl⟩
def LiveR (w : World) (e : Ending) (w' : World) : Prop := ∃ g cap, e = .returned (.tuple #[.slice (some ⟨g, 0, none⟩) 1 cap, .string ByteArray.empty, .int .i64 0]) ∧ Ints w' (some ⟨g, 0, none⟩) [5] ∧ Below w.heap.size w w'
theorem Reduce_313' (b m : Nat) (w : World) (hb : w.heap[b]? = some (.cells #[.int .i64 3, .int .i64 1, .int .i64 3] 3 (0, 0))) :
    CallsIn Fence.wide m Try.prog 27 #[.slice (some ⟨b, 0, none⟩) 3 3, .string vm] w (LiveR w) := by
  refine (callsIn_wide.2 (Reduce_313 b w hb)).mono ?_
  rintro e w' ⟨g, cap, rfl, _, hr, hbl⟩
  exact ⟨g, cap, rfl, Ints.of_owns (l := [5]) hr, hbl⟩
theorem Count_111 (b m : Nat) (w : World) (hb : w.heap[b]? = some (.cells #[.int .i64 1, .int .i64 1, .int .i64 1] 3 (0, 0))) :
    CallsIn Fence.wide m Try.prog 31 #[.slice (some ⟨b, 0, none⟩) 3 3] w (Gives2 (.int .i64 6) (.int .i64 0) w) := by
  have := Count_good (some ⟨b, 0, none⟩) 3 3 m [1, 1, 1] w rfl (Ints.of_row (l := [1, 1, 1]) hb) rfl
  rw [live_count] at this
  exact this

attribute [local go_sem] Oper.semAt_some
set_option maxRecDepth 100000 in
set_option maxHeartbeats 2000000 in
theorem lives_any (m : Nat) (w : World) : CallsIn Fence.wide m Try.prog 21 #[] w fun e w' => e = .returned (.bool true) ∧ Below w.heap.size w w' := by
  have HL := Lib.hid Layers_313
  have HR := Lib.hid Reduce_313'
  have HC := Lib.hid Count_111
  refine callsIn_of_wp Try.func21 rfl trivial ?_ rfl
  simp only [Try.ntmps21, List.size_toArray, List.length_cons, List.length_nil, Nat.reduceAdd, Nat.reduceSub, Array.replicate_succ, Array.replicate_zero, List.push_toArray, List.append_toArray, List.nil_append, List.cons_append]
  gi_wp2_with (fail)
  refine ⟨trivial, wide_depth, ?_⟩
  refine (HL.out w.heap.size _ _ (heap_alloc_new w _)).mono ?_
  rintro e w1 ⟨g1, cp1, rfl, h1, hb1⟩
  have H1 := Lib.hid (And.intro h1 (((Below.refl _ w).alloc (Nat.le_refl _) _).trans (hb1.mono (by simp))))
  clear h1 hb1
  gi_wp2_with (fail)
  refine ⟨trivial, wide_depth, ?_⟩
  refine (HR.out w1.heap.size _ _ (heap_alloc_new w1 _)).mono ?_
  rintro e w2 ⟨g2, cp2, rfl, h2, hb2⟩
  have hb12 := ((Below.refl _ w1).alloc (Nat.le_refl _) (.cells #[.int .i64 3, .int .i64 1, .int .i64 3] 3)).trans (hb2.mono (by simp))
  have H2 := Lib.hid (And.intro h2 (And.intro (H1.out.1.below hb12) (H1.out.2.trans (hb12.mono H1.out.2.size))))
  clear h2 hb2 hb12 H1
  gi_wp2_with (fail)
  refine ⟨trivial, wide_depth, ?_⟩
  refine (HC.out w2.heap.size _ _ (heap_alloc_new w2 _)).mono ?_
  rintro e w3 ⟨rfl, hb3⟩
  have hb23 := ((Below.refl _ w2).alloc (Nat.le_refl _) (.cells #[.int .i64 1, .int .i64 1, .int .i64 1] 3)).trans (hb3.mono (by simp))
  have H3 := Lib.hid (And.intro (H2.out.1.below hb23) (And.intro (H2.out.2.1.below hb23) (H2.out.2.2.trans (hb23.mono H2.out.2.2.size))))
  clear hb3 hb23 H2 HL HR HC
  gi_wp2_with (fail)
  refine ⟨trivial, wide_depth, ?_⟩
  have hba := (Below.refl _ w3).alloc (Nat.le_refl _) (.cells #[.int .i64 0, .int .i64 1, .int .i64 2] 3)
  refine (callsIn_wide.2 (same_any _ _ 3 3 cp1 3 [0, 1, 2] [0, 1, 2] _ rfl rfl (by omega) (by omega) (H3.out.2.1.below hba) (Ints.of_row (l := [0, 1, 2]) (heap_alloc_new w3 _)))).mono ?_
  rintro e w4 ⟨rfl, hb4⟩
  rw [show decide (([0, 1, 2] : List Int) = [0, 1, 2]) = true from rfl]
  have hb34 := hba.trans (hb4.mono (by simp))
  have H4 := Lib.hid (And.intro (H3.out.1.below hb34) (H3.out.2.2.trans (hb34.mono H3.out.2.2.size)))
  clear hb4 hb34 H3 hba
  gi_wp2_with (fail)
  refine ⟨trivial, wide_depth, ?_⟩
  have hba := (Below.refl _ w4).alloc (Nat.le_refl _) (.cells #[.int .i64 5] 3)
  refine (callsIn_wide.2 (same_any _ _ 1 1 cp2 1 [5] [5] _ rfl rfl (by omega) (by omega) (H4.out.1.below hba) (Ints.of_row (l := [5]) (heap_alloc_new w4 _)))).mono ?_
  rintro e w5 ⟨rfl, hb5⟩
  rw [show decide (([5] : List Int) = [5]) = true from rfl]
  have hb45 := hba.trans (hb5.mono (by simp))
  have H5 := Lib.hid (H4.out.2.trans (hb45.mono H4.out.2.size))
  clear hb5 hb45 H4 hba
  gi_wp2_with (fail)
  go_ret
  exact ⟨rfl, H5.out⟩

end Go.Proofs.Yteankhgikpejhaa
