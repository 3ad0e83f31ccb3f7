/-
  strap: the reference's 'Same', 'SameBraid', 'SamePoly'; 'lives'.
-/
import Derived.Test.YtbcggbmjbljnfaaCn
namespace Go.Proofs.Ytbcggbmjbljnfaa
open Go.RowKit Go.Sort

theorem take_eq_step {xs ys : List Int} (k : Nat) (hx : k < xs.length) (hy : k < ys.length) (h : xs.take k = ys.take k) (e : xs[k]?.getD 0 = ys[k]?.getD 0) : xs.take (k + 1) = ys.take (k + 1) := by
  rw [List.getElem?_eq_getElem hx, List.getElem?_eq_getElem hy, Option.getD_some, Option.getD_some] at e
  rw [List.take_succ_eq_append_getElem hx, List.take_succ_eq_append_getElem hy, h, e]

set_option maxHeartbeats 1000000 in
theorem same_any (a b : Option Addr) (n m ca cb : Nat) (xs ys : List Int) (w : World) (hx : xs.length = n) (hy : ys.length = m) (hn : n ≤ 9223372036854775807) (hm : m ≤ 9223372036854775807) (ha : Ints w a xs) (hb : Ints w b ys) :
    Calls Try.prog 22 #[.slice a n ca, .slice b m cb] w fun e w' => e = .returned (.bool (decide (xs = ys))) ∧ Below w.heap.size w w' := by
  by_cases hnm : n = m
  · subst hnm
    have HA := Lib.hid ha.at
    have HB := Lib.hid hb.at
    have HX := Lib.hid hx
    have HY := Lib.hid hy
    clear ha hb hx hy
    go_enter Try.func22, Try.ntmps22
    go_wp2
    go_loopw [5] (fun i wr => ∃ k : Nat, k ≤ n ∧ i = .int .i64 k ∧ xs.take k = ys.take k ∧ Below w.heap.size w wr) (fun i _ => n - (intOf i).toNat)
    case atStart => exact ⟨0, Nat.zero_le _, rfl, rfl, Below.refl _ _⟩
    case round =>
      obtain ⟨k, hk, rfl, he, hw⟩ := hrel
      have HE := Lib.hid he
      have HW := Lib.hid hw
      clear he hw
      by_cases hlt : k < n
      · have hkx : k < xs.length := by have := HX.out; omega
        have hky : k < ys.length := by have := HY.out; omega
        rcases HA.out with h | ⟨ba, oa, rfl, hca⟩
        · subst h; simp at hkx
        rcases HB.out with h | ⟨bb, ob, rfl, hcb⟩
        · subst h; simp at hky
        have c0 := (HW.out.cell (p := ⟨ba, oa + k, none⟩) (World.block_lt_of_cell? w _ (hca k hkx))).trans (hca k hkx)
        have c1 := (HW.out.cell (p := ⟨bb, ob + k, none⟩) (World.block_lt_of_cell? w _ (hcb k hky))).trans (hcb k hky)
        clear hca hcb
        have HKX := Lib.hid hkx
        have HKY := Lib.hid hky
        obtain ⟨x, hxk⟩ : ∃ x, xs[k]?.getD 0 = x := ⟨_, rfl⟩
        obtain ⟨y, hyk⟩ : ∃ y, ys[k]?.getD 0 = y := ⟨_, rfl⟩
        rw [hxk] at c0
        rw [hyk] at c1
        have HXK := Lib.hid (And.intro hxk hyk)
        clear hxk hyk hkx hky
        go_wp2
        go_quiet (fail)
        go_wp2
        · go_ret
          have hne : (x != y) = true := by assumption
          refine ⟨ret_bool (Eq.symm (decide_eq_false fun e => ?_)), below_drewN HW.out _⟩
          have h1 := HXK.out.1
          have h2 := HXK.out.2
          subst e
          rw [h1] at h2
          simp [h2] at hne
        · have heq : (x != y) = false := by assumption
          go_roundw
          case rel => exact ⟨k + 1, by omega, by go_num, take_eq_step k HKX.out HKY.out HE.out (by rw [HXK.out.1, HXK.out.2]; simpa using heq), below_drewN HW.out _⟩
          case measure => simp [intOf]; omega
      · go_wp2
        go_ret
        have hk' : k = n := by omega
        subst hk'
        refine ⟨ret_bool (Eq.symm (decide_eq_true ?_)), HW.out⟩
        have h := HE.out
        rwa [List.take_of_length_le (by rw [HX.out]; exact Nat.le_refl _), List.take_of_length_le (by rw [HY.out]; exact Nat.le_refl _)] at h
  · have hne : ((n : Int) != (m : Int)) = true := by rw [bne_iff_ne]; omega
    have HX := Lib.hid (And.intro hx hy)
    clear hx hy ha hb
    go_enter Try.func22, Try.ntmps22
    go_wp2
    go_ret
    refine ⟨ret_bool (Eq.symm (decide_eq_false fun e => hnm ?_)), Below.refl _ _⟩
    rw [← HX.out.1, ← HX.out.2, e]


theorem Nats.ints {w : World} {a : Option Addr} {p : List Nat} (h : Nats w a p) : Ints w a (p.map fun (x : Nat) => (x : Int)) := fun i hi => by
  have hi' : i < p.length := by simpa using hi
  obtain ⟨b, off, e, hc⟩ := h i hi'
  refine ⟨b, off, e, ?_⟩
  rw [hc]
  simp [hi']
theorem IntsT.ints {w : World} {a : Option Addr} {zs : List Int} (h : IntsT w a zs) : Ints w a zs := fun i hi => by
  obtain ⟨b, off, rfl, _, hc⟩ := h.at (by omega)
  exact ⟨b, off, rfl, hc i hi⟩

set_option maxRecDepth 100000 in
set_option maxHeartbeats 1000000 in
theorem samePoly_yes (p1 : Int) (a b : Option Addr) (n ca cb : Nat) (zs : List Int) (w : World) (hl : zs.length = n) (hn : n ≤ 1000) (ha : Ints w a zs) (hb : Ints w b zs) :
    Calls Try.prog 38 #[.agg #[.int .i64 p1, .slice a n ca], .agg #[.int .i64 p1, .slice b n cb]] w fun e w' => e = .returned (.bool true) ∧ Below w.heap.size w w' := by
  have HS := Lib.hid (fun (wx : World) (hb' : Below w.heap.size w wx) => same_any a b n n ca cb zs zs wx hl hl (by omega) (by omega) (ha.below hb') (hb.below hb'))
  simp only [decide_true] at HS
  have HB : Hid (Below w.heap.size w ((w.alloc (.cells #[.int .i64 p1, .slice a n ca] 56)).alloc (.cells #[.int .i64 p1, .slice b n cb] 56))) := Lib.hid (((Below.refl _ w).alloc (Nat.le_refl _) _).alloc (by simp) _)
  clear ha hb
  go_enter Try.func38, Try.ntmps38
  go_wp2_with (fail)
  refine (HS.out _ HB.out).mono ?_
  rintro e w2 ⟨rfl, hb2⟩
  have H2 := Lib.hid (HB.out.trans (hb2.mono HB.out.size))
  clear hb2
  go_wp2_with (fail)
  go_ret
  exact ⟨rfl, H2.out⟩

set_option maxRecDepth 100000 in
set_option maxHeartbeats 1000000 in
theorem sameBraid_yes (p1 : Int) (n m ca cb : Nat) (a b : Option Addr) (ps : List (List Nat)) (w : World) (hl : ps.length = m) (hm : m ≤ 1000) (hn : n ≤ 1000) (ha : FacV w n (.slice a m ca) ps) (hb : FacV w n (.slice b m cb) ps) :
    Calls Try.prog 26 #[.agg #[.int .i64 p1, .slice a m ca], .agg #[.int .i64 p1, .slice b m cb]] w fun e w' => e = .returned (.bool true) ∧ Below w.heap.size w w' := by
  obtain ⟨w0, hw0⟩ : ∃ w0, w0 = (w.alloc (.cells #[.int .i64 p1, .slice a m ca] 37)).alloc (.cells #[.int .i64 p1, .slice b m cb] 37) := ⟨_, rfl⟩
  have hb0 : Below w.heap.size w w0 := by rw [hw0]; exact ((Below.refl _ w).alloc (Nat.le_refl _) _).alloc (by simp) _
  have hs0 : w0.heap.size = w.heap.size + 1 + 1 := by rw [hw0]; simp
  have hr0 : w0.heap[w.heap.size]? = some (.cells #[.int .i64 p1, .slice a m ca] 37 (0, 0)) := by
    rw [hw0, Below.heap_alloc _ _ _ (by simp)]; exact heap_alloc_new w _
  have hr1 : w0.heap[w.heap.size + 1]? = some (.cells #[.int .i64 p1, .slice b m cb] 37 (0, 0)) := by
    rw [hw0, show ∀ o, w.heap.size + 1 = (w.alloc o).heap.size by simp]; exact heap_alloc_new _ _
  have k0 := box_cell0 hr0
  have k1 := box_cell1 hr0
  have k2 := box_cell0 hr1
  have k3 := box_cell1 hr1
  have H0 := Lib.hid (And.intro hb0 (And.intro hr0 hr1))
  have HA := Lib.hid ha
  have HB := Lib.hid hb
  have HL := Lib.hid hl
  have HW0 := Lib.hid hw0
  have HI := Lib.hid (Below.refl w0.heap.size w0)
  clear hw0 hb0 hr0 hr1 ha hb hl
  go_enter Try.func26, Try.ntmps26
  go_wp2_with (fail)
  try rw [← HW0.out]
  go_loopw [5] (fun v wr => ∃ i : Nat, i ≤ m ∧ v = .int .i64 i ∧ Hid (Below w0.heap.size w0 wr)) (fun v _ => m - (intOf v).toNat)
  case atStart => exact ⟨0, Nat.zero_le _, rfl, HI⟩
  case round =>
    clear HI k0 k1 k2 k3
    obtain ⟨i, hi, rfl, HR⟩ := hrel
    have k1 := box_cell1 ((HR.out.block _ (by omega)).trans H0.out.2.1)
    have k3 := box_cell1 ((HR.out.block _ (by omega)).trans H0.out.2.2)
    by_cases hlt : i < m
    · have hiI : (i : Int) < (m : Int) := by omega
      have hbw := H0.out.1.trans (HR.out.mono (B' := w.heap.size) (by omega))
      obtain ⟨ba, oa, rfl, a', ca', c0, hi0, hz0⟩ := (HA.out.below hbw).at (i := i) (by rw [HL.out]; exact hlt)
      obtain ⟨bb, ob, rfl, b', cb', c1, _, hz1⟩ := (HB.out.below hbw).at (i := i) (by rw [HL.out]; exact hlt)
      obtain ⟨p, hp⟩ : ∃ p, ps[i]?.getD [] = p := ⟨_, rfl⟩
      rw [hp] at hi0 hz0 hz1
      have B0 := Below.refl wr.heap.size wr
      have B0d : Below wr.heap.size wr wr.drew := B0.drew
      have HS := Lib.hid (fun (wx : World) (hb' : Below wr.heap.size wr wx) => same_any a' b' n n ca' cb' _ _ wx (by rw [List.length_map]; exact hi0.1) (by rw [List.length_map]; exact hi0.1) (by omega) (by omega) (hz0.below hb').ints (hz1.below hb').ints)
      simp only [decide_true] at HS
      have s1 : wr.cell? ⟨w.heap.size, 1, none⟩ = some (.slice (some ⟨ba, oa, none⟩) m ca) ∧ wr.cell? ⟨w.heap.size + 1, 1, none⟩ = some (.slice (some ⟨bb, ob, none⟩) m cb) ∧ wr.cell? ⟨ba, oa + i, none⟩ = some (.slice a' n ca') ∧ wr.cell? ⟨bb, ob + i, none⟩ = some (.slice b' n cb') := ⟨k1, k3, c0, c1⟩
      have s1d : wr.drew.cell? ⟨w.heap.size, 1, none⟩ = some (.slice (some ⟨ba, oa, none⟩) m ca) ∧ wr.drew.cell? ⟨w.heap.size + 1, 1, none⟩ = some (.slice (some ⟨bb, ob, none⟩) m cb) ∧ wr.drew.cell? ⟨ba, oa + i, none⟩ = some (.slice a' n ca') ∧ wr.drew.cell? ⟨bb, ob + i, none⟩ = some (.slice b' n cb') := s1
      clear hp hi0 hz0 hz1 hbw
      go_wp2_with (fail)
      go_region_held3 (fun w' => w'.cell? ⟨w.heap.size, 1, none⟩ = some (.slice (some ⟨ba, oa, none⟩) m ca) ∧ w'.cell? ⟨w.heap.size + 1, 1, none⟩ = some (.slice (some ⟨bb, ob, none⟩) m cb) ∧ w'.cell? ⟨ba, oa + i, none⟩ = some (.slice a' n ca') ∧ w'.cell? ⟨bb, ob + i, none⟩ = some (.slice b' n cb'))
        (first | with_reducible assumption)
        ((go_at_call 22; refine (HS.out _ (by first | with_reducible exact B0 | with_reducible exact B0d)).mono ?_; rintro e w5 ⟨rfl, hb5⟩; have hB5 : Below wr.heap.size wr w5 := (by first | with_reducible exact B0.trans hb5 | with_reducible exact B0d.trans (hb5.mono B0d.size)); have K5 := cell4_below s1 hB5; have H5 := Lib.hid hB5; clear hb5))
      all_goals
        go_wp2_with (fail)
        exact ⟨⟨i + 1, by omega, by go_num, Lib.hid (HR.out.trans (H5.out.mono HR.out.size))⟩, by simp [intOf]; omega⟩
    · obtain rfl : i = m := by omega
      go_wp2_with (fail)
      go_ret
      exact ⟨rfl, H0.out.1.trans (HR.out.mono (by omega))⟩

end Go.Proofs.Ytbcggbmjbljnfaa
