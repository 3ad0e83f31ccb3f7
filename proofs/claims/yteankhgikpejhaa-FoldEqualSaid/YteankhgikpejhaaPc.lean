/-
  The walk of 'FoldEqual'.
-/
import Derived.Test.YteankhgikpejhaaPb
import Derived.Test.YteankhgikpejhaaFy
namespace Go.Proofs.Yteankhgikpejhaa
open Go.RowKit Go.Sort Go.Shelf

/-- The table of the patterns, read. -/
theorem idx4 (k : Nat) (hk : k < 4) (w : World) : (Instr.index 66 (.agg #[.int .i64 2, .int .i64 8, .int .i64 30, .int .i64 112]) (.int .i64 k)).run Try.prog w = .ok (.int .i64 (tableZ k)) w := by
  revert w
  match k, hk with
  | 0, _ => intro w; kernel_rfl
  | 1, _ => intro w; kernel_rfl
  | 2, _ => intro w; kernel_rfl
  | 3, _ => intro w; kernel_rfl

/-- The loop of 'FoldEqual': a vertex of equal angles. -/
def EqualI (w : World) (k : Nat) (s : Int) (v i : Value) (wr : World) : Prop := ∃ j : Nat, j ≤ 2 * k + 2 ∧ i = .int .i64 j ∧ Below w.heap.size w wr ∧ wr.ownsRow w.heap.size 3 1 v j ((List.replicate j s).map (Value.int .i64))

theorem equal_vertex (k : Nat) (s : Int) (hk : k < 4) (h1 : 1 ≤ s) (h2 : s ≤ 1000) : vertexB (List.replicate (2 * k + 2) s) = true ∧ closesB (List.replicate (2 * k + 2) s) = true := by
  constructor
  · rw [vertexB, sizesB]
    simp [sizeB]
    omega
  · rw [closesB, List.length_replicate, posAt_one _ _ _ (Nat.le_refl _)]
    simp

attribute [local go_sem] Oper.semAt_some
set_option maxRecDepth 100000 in
set_option maxHeartbeats 4000000 in
theorem FoldEqual_any (m : Nat) (n v : Int) (w : World) (hn : 0 ≤ n) (hn2 : n ≤ 255) (hv : -9223372036854775808 ≤ v) (hv2 : v ≤ 9223372036854775807) :
    CallsIn Fence.wide m Try.prog 12 #[.int .u8 n, .int .i64 v] w fun e w' => e = .returned (.bool true) ∧ Below w.heap.size w w' := by
  obtain ⟨k, hk⟩ : ∃ k : Nat, n % 4 = (k : Int) := ⟨(n % 4).toNat, by omega⟩
  have hk4 : k < 4 := by omega
  obtain ⟨s, hs⟩ : ∃ s, f1Z v 1000 = s := ⟨_, rfl⟩
  have hsb := f1Z_bd v 1000 (by omega)
  rw [hs] at hsb
  have HF := Lib.hid (fun wx => fold1_any v 1000 wx (by omega) (by omega) hv hv2)
  rw [hs] at HF
  clear hs hv hv2
  refine callsIn_of_wp Try.func12 rfl trivial ?_ rfl
  simp only [Try.ntmps12, List.size_toArray, List.length_cons, List.length_nil, Nat.reduceAdd, Nat.reduceSub, Array.replicate_succ, Array.replicate_zero, List.push_toArray, List.append_toArray, List.nil_append, List.cons_append]
  gi_wp2_with (fail)
  simp only [hk]
  have HK := Lib.hid hk
  clear hk
  gi_loopw [6, 7] (fun l i wr => EqualI w k s l i wr) (fun _ i _ => 2 * k + 2 - (intOf i).toNat)
  case atStart =>
    exact ⟨0, Nat.zero_le _, rfl, (Below.refl _ w).alloc (Nat.le_refl _) _, rfl, .inr ⟨w.heap.size, 0, #[], rfl, Nat.le_refl _, heap_alloc_new w _, Nat.le_refl _, by unfold maxLen; omega, rfl, rfl⟩⟩
  case round =>
    obtain ⟨j, hj, rfl, hb, hr⟩ := hrel
    have H := Lib.hid (And.intro hb hr)
    have hsz := hb.size
    clear hb hr
    by_cases hlt : j < 2 * k + 2
    · gi_wp2_with (fail)
      refine ⟨trivial, wide_depth, ?_⟩
      refine (callsIn_wide.2 (HF.out _)).mono ?_
      rintro e w1 ⟨rfl, rfl⟩
      gi_wp2_with (gi_at_builtin; refine wpListIn_app_int rfl (.tmp 21) (.tmp 24) rfl w.heap.size _ _ _ rfl s _ rfl rfl H.out.2 (by omega) hsz ?_; intro g cp w2 hr2 hg2 hat2 _; have H2 := Lib.hid (And.intro hr2 hg2); clear hr2 hg2)
      go_roundw
      case rel =>
        refine ⟨j + 1, by omega, by go_num, H.out.1.grown H2.out.2 hsz (fun q hq => (H.out.2.lt q hq).1), ?_⟩
        rw [List.replicate_succ', List.map_append]
        exact H2.out.1
      case measure => simp [intOf]; omega
    · obtain rfl : j = 2 * k + 2 := by omega
      obtain ⟨a, cp, rfl⟩ := ownsRow_slice H.out.2
      have hvx := equal_vertex k s hk4 hsb.1 hsb.2
      gi_wp2_with (fail)
      refine ⟨trivial, wide_depth, ?_⟩
      refine (Patterns_good Nat a (2 * k + 2) cp _ (List.replicate (2 * k + 2) s) wr (by simp) (Ints.of_owns H.out.2) hvx.1 hvx.2).mono ?_
      rintro e w2 ⟨u, rfl, hrow, hb2⟩
      rw [pats_equal k s hsb.1 hk4] at hrow
      obtain ⟨ap, cap2, rfl⟩ := ownsRow_slice hrow
      have HB := Lib.hid (H.out.1.trans (hb2.mono H.out.1.size))
      clear hb2 hrow hvx
      have HV := Lib.hid (lives_any)
      have hix := fun wx => idx4 k hk4 wx
      obtain ⟨kz, hkz⟩ : ∃ kz : Int, (k : Int) = kz := ⟨_, rfl⟩
      simp only [hkz] at hix ⊢
      have hcases : (k = 0 ∧ kz = 0) ∨ (k = 1 ∧ kz = 1) ∨ (k = 2 ∧ kz = 2) ∨ (k = 3 ∧ kz = 3) := by omega
      clear hkz
      clear H HF HK hsz hj hk4
      rcases hcases with ⟨rfl, rfl⟩ | ⟨rfl, rfl⟩ | ⟨rfl, rfl⟩ | ⟨rfl, rfl⟩
      all_goals
        simp only [tableZ] at hix ⊢
        gi_wp2_with (fail)
        refine ⟨trivial, wide_depth, ?_⟩
        refine (HV.out _ _).mono ?_
        rintro e w3 ⟨rfl, hb3⟩
        have HB3 := Lib.hid (HB.out.trans (hb3.mono HB.out.size))
        clear hb3
        gi_wp2_with (fail)
        go_ret
        exact ⟨rfl, HB3.out⟩

end Go.Proofs.Yteankhgikpejhaa
