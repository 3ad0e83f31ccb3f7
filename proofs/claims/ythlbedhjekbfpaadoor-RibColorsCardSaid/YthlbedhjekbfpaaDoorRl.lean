/-
  The reference: the walk of 'Permutation'; two edges compared.
-/
import Derived.Test.YthlbedhjekbfpaaDoorRk
import Derived.Laws.StructEq
namespace Go.Proofs.YthlbedhjekbfpaaDoor
open Go.RowKit Go.Sort

set_option maxRecDepth 100000 in
set_option maxHeartbeats 4000000 in
theorem Permutation_any (a : Option Addr) (n cap : Nat) (zs : List Int) (N : Int) (w : World) (hn : zs.length = n) (hm : n ≤ 1000) (hN : 0 ≤ N) (hN2 : N ≤ 1000) (hz : Ints w a zs) :
    Calls Tryd.prog 12 #[.slice a n cap, .int .i64 N] w fun e w' => e = .returned (.bool (permR zs N)) ∧ Below w.heap.size w w' := by
  have HX := Lib.hid hz.at
  have HN := Lib.hid hn
  have HI := Lib.hid (fun v wx => in_any v 0 (N - 1) wx)
  clear hz hn
  go_enter Tryd.func12, Tryd.ntmps12
  go_wp2
  go_loopw [5, 6] (fun i _ wr => ∃ k : Nat, k ≤ n ∧ i = .int .i64 k ∧ (List.range k).all (newR zs N) = true ∧ Below w.heap.size w wr) (fun i _ _ => n - (intOf i).toNat)
  case atStart => exact ⟨0, Nat.zero_le _, rfl, rfl, Below.refl _ _⟩
  case round =>
    obtain ⟨k, hk, rfl, hall, hb⟩ := hrel
    have HA := Lib.hid hall
    have HB := Lib.hid hb
    clear hall hb
    rename World => w1
    by_cases hlt : k < n
    · rcases HX.out with h | ⟨b, off, rfl, hc⟩
      · have := HN.out; subst h; simp at this; omega
      have hj : k < zs.length := by rw [HN.out]; exact hlt
      have c0 := (HB.out.cell (p := ⟨b, off + k, none⟩) (World.block_lt_of_cell? w _ (hc k hj))).trans (hc k hj)
      have HNW : Hid (newR zs N k = (inR (zs[k]?.getD 0) 0 (N - 1) && (List.range k).all (fun i => !(zs[i]?.getD 0 == zs[k]?.getD 0)))) := Lib.hid rfl
      have HC := Lib.hid hc
      obtain ⟨z, hzk⟩ : ∃ z, zs[k]?.getD 0 = z := ⟨_, rfl⟩
      rw [hzk] at c0
      have HZK := Lib.hid hzk
      rcases Bool.eq_false_or_eq_true (inR z 0 (N - 1)) with hin | hin
      · rw [hzk, hin, Bool.true_and] at HNW
        have HIN := Lib.hid hin
        clear hin hc hzk
        go_wp2_with (go_at_call 40; refine (HI.out z w1).mono ?_; rw [HIN.out]; rintro e w' ⟨rfl, rfl⟩)
        go_loopw [6] (fun i wr => ∃ j : Nat, j ≤ k ∧ i = .int .i64 j ∧ (List.range j).all (fun i => !(zs[i]?.getD 0 == z)) = true ∧ Below w.heap.size w wr) (fun i _ => k - (intOf i).toNat)
        case atStart => exact ⟨0, Nat.zero_le _, rfl, rfl, HB.out⟩
        case round =>
          obtain ⟨j, hjk, rfl, hall2, hb2⟩ := hrel
          have HA2 := Lib.hid hall2
          have HB2 := Lib.hid hb2
          clear hall2 hb2 c0
          by_cases hlt2 : j < k
          · have hcj := HC.out j (by omega)
            have hck := HC.out k (by omega)
            rw [HZK.out] at hck
            have c0 := (HB2.out.cell (p := ⟨b, off + k, none⟩) (World.block_lt_of_cell? w _ hck)).trans hck
            have c1 := (HB2.out.cell (p := ⟨b, off + j, none⟩) (World.block_lt_of_cell? w _ hcj)).trans hcj
            clear hcj hck
            obtain ⟨y, hyj⟩ : ∃ y, zs[j]?.getD 0 = y := ⟨_, rfl⟩
            rw [hyj] at c1
            have HYJ := Lib.hid hyj
            clear hyj
            rcases Bool.eq_false_or_eq_true (y == z) with he | he
            · have HE := Lib.hid he
              go_wp2
              go_quiet (fail)
              go_wp2
              go_ret
              refine ⟨ret_bool (Eq.symm ?_), below_drewN HB2.out _⟩
              rw [permR, HN.out, range_false _ _ _ hlt (by rw [HNW.out, range_false _ _ _ hlt2 (by rw [HYJ.out, HE.out]; rfl)]), Bool.false_and]
            · have HE := Lib.hid he
              go_wp2
              go_quiet (fail)
              go_wp2
              go_roundw
              case rel => exact ⟨j + 1, by omega, by go_num, range_next _ _ HA2.out (by rw [HYJ.out, HE.out]; rfl), below_drewN HB2.out _⟩
              case measure => simp [intOf]; omega
          · obtain rfl : j = k := by omega
            go_wp2
            go_roundw
            case rel => exact ⟨j + 1, by omega, by go_num, range_next _ _ HA.out (by rw [HNW.out, HA2.out]), HB2.out⟩
            case measure => simp [intOf]; omega
      · rw [hzk, hin, Bool.false_and] at HNW
        have HIN := Lib.hid hin
        clear hin hc hzk
        go_wp2_with (go_at_call 40; refine (HI.out z w1).mono ?_; rw [HIN.out]; rintro e w' ⟨rfl, rfl⟩)
        go_ret
        refine ⟨ret_bool (Eq.symm ?_), HB.out⟩
        rw [permR, HN.out, range_false _ _ _ hlt HNW.out, Bool.false_and]
    · obtain rfl : k = n := by omega
      go_wp2
      go_ret
      refine ⟨ret_bool (Eq.symm ?_), HB.out⟩
      rw [permR, HN.out, HA.out, Bool.true_and]
      rw [Bool.eq_iff_iff, decide_eq_true_eq]
      simp

theorem pairS : Tryd.prog.underlying 40 = some (.struct (Tryd.prog.fieldsOf 40)) := by kernel_rfl
theorem pairP : Tryd.prog.stoodInHeld 40 = false := by kernel_rfl
theorem pairG : Tryd.prog.eqGuardType Tryd.prog.depth 40 = false := by kernel_rfl
theorem eqPair (a b c d : Int) (w : World) : (binOp .eql 40 (.agg #[.int .i64 a, .int .i64 b]) (.agg #[.int .i64 c, .int .i64 d])).run Tryd.prog w = .ok (.bool (a == c && b == d)) w := by
  have u3 := Tryd.underlying3
  have a3 := Tryd.isAgg3
  have z3 := Tryd.sizeOf3
  rw [run_eql_struct, show (10000 : Nat) = 9999 + 1 from rfl, run_equalIn_agg w 9999 40 _ _ pairS pairP]
  simp only [Program.fieldsOf, Tryd.underlying40]
  go_simp
  by_cases h1 : a = c <;> by_cases h2 : b = d <;> simp [h1, h2]

end Go.Proofs.YthlbedhjekbfpaaDoor
