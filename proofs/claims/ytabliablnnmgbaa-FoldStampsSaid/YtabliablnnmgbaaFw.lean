/-
  The walks of 'fold1' and 'FoldStamps'.
-/
import Derived.Test.YtabliablnnmgbaaFv
namespace Go.Proofs.Ytabliablnnmgbaa
open Go.RowKit Go.Sort Go.Shelf

/-- The remainder of a number by n, from 1 on. -/
def f1Z (v n : Int) : Int := v.tmod n % n + 1
theorem f1Z_bd (v n : Int) (hn : 1 ≤ n) : 1 ≤ f1Z v n ∧ f1Z v n ≤ n := by
  unfold f1Z
  have h1 := Int.emod_nonneg (v.tmod n) (show n ≠ 0 by omega)
  have h2 := Int.emod_lt_of_pos (v.tmod n) (show 0 < n by omega)
  omega

theorem f1Z_wrap (v n : Int) (hn : 1 ≤ n) (hn2 : n ≤ 1000) : wrap64 (v.tmod n % n + 1) = f1Z v n := by
  have := f1Z_bd v n hn
  unfold f1Z at this ⊢
  generalize v.tmod n % n = x at this ⊢
  exact IntWalk.wrap64_in _ (by omega)

theorem tmod_bd (v n : Int) (hn : 1 ≤ n) : -n < v.tmod n ∧ v.tmod n < n := by
  have h1 := Int.tmod_lt_of_pos v (show 0 < n by omega)
  have h2 := Int.lt_tmod_of_pos v (show 0 < n by omega)
  omega

set_option maxHeartbeats 400000 in
theorem fold1_any (v n : Int) (w : World) (hn : 1 ≤ n) (hn2 : n ≤ 1000) (hv : -9223372036854775808 ≤ v) (hv2 : v ≤ 9223372036854775807) :
    Calls Try.prog 42 #[.int .i64 v, .int .i64 n] w fun e w' => e = .returned (.int .i64 (f1Z v n)) ∧ w = w' := by
  obtain ⟨b1, b2⟩ := tmod_bd v n hn
  go_enter Try.func42, Try.ntmps42
  go_wp2
  go_ret
  exact ⟨congrArg (fun z => Ending.returned (Value.int .i64 z)) (f1Z_wrap v n hn hn2), rfl⟩

/-- The table of the stamps, read. -/
theorem idx9 (k : Nat) (hk : k < 9) (w : World) : (Instr.index 62 (.agg #[.int .i64 1, .int .i64 2, .int .i64 6, .int .i64 16, .int .i64 50, .int .i64 144, .int .i64 462, .int .i64 1392, .int .i64 4536]) (.int .i64 k)).run Try.prog w = .ok (.int .i64 (stampZ (k + 1))) w := by
  revert w
  match k, hk with
  | 0, _ => intro w; kernel_rfl
  | 1, _ => intro w; kernel_rfl
  | 2, _ => intro w; kernel_rfl
  | 3, _ => intro w; kernel_rfl
  | 4, _ => intro w; kernel_rfl
  | 5, _ => intro w; kernel_rfl
  | 6, _ => intro w; kernel_rfl
  | 7, _ => intro w; kernel_rfl
  | 8, _ => intro w; kernel_rfl

/-- The loop of 'FoldStamps': a strip of segments of one length. -/
def StampI (w : World) (k : Nat) (s : Int) (v i : Value) (wr : World) : Prop := ∃ j : Nat, j ≤ k + 1 ∧ i = .int .i64 j ∧ Below w.heap.size w wr ∧ wr.ownsRow w.heap.size 3 1 v j ((List.replicate j s).map (Value.int .i64))

attribute [local go_sem] Oper.semAt_some
set_option maxRecDepth 100000 in
set_option maxHeartbeats 4000000 in
theorem FoldStamps_any (m : Nat) (n v : Int) (w : World) (hn : 0 ≤ n) (hn2 : n ≤ 255) (hv : -9223372036854775808 ≤ v) (hv2 : v ≤ 9223372036854775807) :
    CallsIn Fence.wide m Try.prog 10 #[.int .u8 n, .int .i64 v] w fun e w' => e = .returned (.bool true) ∧ Below w.heap.size w w' := by
  obtain ⟨k, hk⟩ : ∃ k : Nat, n % 9 = (k : Int) := ⟨(n % 9).toNat, by omega⟩
  have hk9 : k < 9 := by omega
  obtain ⟨s, hs⟩ : ∃ s, f1Z v 1000 = s := ⟨_, rfl⟩
  have hsb := f1Z_bd v 1000 (by omega)
  rw [hs] at hsb
  have HF := Lib.hid (fun wx => fold1_any v 1000 wx (by omega) (by omega) hv hv2)
  rw [hs] at HF
  clear hs hv hv2
  refine callsIn_of_wp Try.func10 rfl trivial ?_ rfl
  simp only [Try.ntmps10, List.size_toArray, List.length_cons, List.length_nil, Nat.reduceAdd, Nat.reduceSub, Array.replicate_succ, Array.replicate_zero, List.push_toArray, List.append_toArray, List.nil_append, List.cons_append]
  gi_wp2_with (fail)
  simp only [hk]
  have HK := Lib.hid hk
  clear hk
  gi_loopw [6, 7] (fun l i wr => StampI w k s l i wr) (fun _ i _ => k + 1 - (intOf i).toNat)
  case atStart =>
    exact ⟨0, Nat.zero_le _, rfl, (Below.refl _ w).alloc (Nat.le_refl _) _, rfl, .inr ⟨w.heap.size, 0, #[], rfl, Nat.le_refl _, heap_alloc_new w _, Nat.le_refl _, by unfold maxLen; omega, rfl, rfl⟩⟩
  case round =>
    obtain ⟨j, hj, rfl, hb, hr⟩ := hrel
    have H := Lib.hid (And.intro hb hr)
    have hsz := hb.size
    clear hb hr
    by_cases hlt : j ≤ k
    · gi_wp2_with (fail)
      refine ⟨trivial, wide_depth, ?_⟩
      refine (callsIn_wide.2 (HF.out _)).mono ?_
      rintro e w1 ⟨rfl, rfl⟩
      gi_wp2_with (gi_at_builtin; refine wpListIn_app_int rfl (.tmp 19) (.tmp 22) rfl w.heap.size _ _ _ rfl s _ rfl rfl H.out.2 (by omega) hsz ?_; intro g cp w2 hr2 hg2 hat2 _; have H2 := Lib.hid (And.intro hr2 hg2); clear hr2 hg2)
      go_roundw
      case rel =>
        refine ⟨j + 1, by omega, by go_num, H.out.1.grown H2.out.2 hsz (fun q hq => (H.out.2.lt q hq).1), ?_⟩
        rw [List.replicate_succ', List.map_append]
        exact H2.out.1
      case measure => simp [intOf]; omega
    · obtain rfl : j = k + 1 := by omega
      obtain ⟨a, cp, rfl⟩ := ownsRow_slice H.out.2
      gi_wp2_with (fail)
      refine ⟨trivial, wide_depth, ?_⟩
      refine (Count_good a (k + 1) cp _ (List.replicate (k + 1) s) wr (by simp) (Ints.of_owns H.out.2) ?_).mono ?_
      · rw [stripB, sizesB]
        simp [sizeB]
        omega
      have hcnt : ((countOf (List.replicate (k + 1) s) : Nat) : Int) = stampZ (k + 1) := by
        have := count_stamps (k + 1) s hsb.1 (by omega) (by omega)
        simpa [countOf, ordersOf] using this
      rw [hcnt]
      have HC := Lib.hid hcnt
      clear hcnt
      rintro e w2 ⟨rfl, hb2⟩
      have HB := Lib.hid (H.out.1.trans (hb2.mono H.out.1.size))
      clear hb2
      have HV := Lib.hid (lives_any)
      have hix := fun wx => idx9 k hk9 wx
      obtain ⟨kz, hkz⟩ : ∃ kz : Int, (k : Int) = kz := ⟨_, rfl⟩
      simp only [hkz] at hix ⊢
      have hcases : (k = 0 ∧ kz = 0) ∨ (k = 1 ∧ kz = 1) ∨ (k = 2 ∧ kz = 2) ∨ (k = 3 ∧ kz = 3) ∨ (k = 4 ∧ kz = 4) ∨ (k = 5 ∧ kz = 5) ∨ (k = 6 ∧ kz = 6) ∨ (k = 7 ∧ kz = 7) ∨ (k = 8 ∧ kz = 8) := by omega
      clear hkz
      clear H HF HK hsz HC hj hk9
      rcases hcases with ⟨rfl, rfl⟩ | ⟨rfl, rfl⟩ | ⟨rfl, rfl⟩ | ⟨rfl, rfl⟩ | ⟨rfl, rfl⟩ | ⟨rfl, rfl⟩ | ⟨rfl, rfl⟩ | ⟨rfl, rfl⟩ | ⟨rfl, rfl⟩
      all_goals
        simp only [stampZ, Nat.zero_add, Nat.reduceAdd] at hix ⊢
        gi_wp2_with (fail)
        refine ⟨trivial, wide_depth, ?_⟩
        refine (HV.out _ _).mono ?_
        rintro e w3 ⟨rfl, hb3⟩
        have HB3 := Lib.hid (HB.out.trans (hb3.mono HB.out.size))
        clear hb3
        gi_wp2_with (fail)
        go_ret
        exact ⟨rfl, HB3.out⟩

end Go.Proofs.Ytabliablnnmgbaa
