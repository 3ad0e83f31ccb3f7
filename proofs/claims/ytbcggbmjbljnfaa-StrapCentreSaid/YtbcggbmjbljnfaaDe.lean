/-
  strap: the reference's 'Check'.
-/
import Derived.Test.YtbcggbmjbljnfaaDd
namespace Go.Proofs.Ytbcggbmjbljnfaa
open Go.RowKit Go.Sort

set_option maxRecDepth 100000 in
set_option maxHeartbeats 400000 in
theorem refCheck_any (n most : Int) (a : Option Addr) (m cap : Nat) (ws : List Int) (w : World) (hl : ws.length = m) (hm : m ≤ 9223372036854775807) (hz : Ints w a ws) :
    Calls Try.prog 19 #[.int .i64 n, .slice a m cap, .int .i64 most] w fun e w' => e = .returned (.int .i64 (checkZ n ws most)) ∧ w = w' := by
  have HIN := Lib.hid (fun (v lo hi : Int) (wx : World) => refIn_any v lo hi wx)
  have HX := Lib.hid hz.at
  have HL := Lib.hid hl
  clear hz
  by_cases hn : 2 ≤ n ∧ n ≤ 8
  · have hb : (decide (2 ≤ n) && decide (n ≤ 8)) = true := by simp [hn]
    have HA := Lib.hid (HIN.out n 2 8)
    rw [hb] at HA
    have HC : Hid (∀ q, ws.all (letS n) = q → checkZ n ws most = if q = true then (if most < (m : Int) then 3 else 0) else 2) := Lib.hid (fun q h => by rw [checkZ, if_pos hb, h, hl])
    obtain ⟨n1, n2⟩ := hn
    have hw1 : IntKind.i64.wrap (1 - n) = 1 - n := by rw [IntKind.wrap_i64]; omega
    have hw2 : IntKind.i64.wrap (n - 1) = n - 1 := by rw [IntKind.wrap_i64]; omega
    clear hb hl
    go_enter Try.func19, Try.ntmps19
    go_wp2_with (go_at_call 56; refine (HA.out _).mono ?_; rintro e w' ⟨rfl, rfl⟩)
    go_loopw [7] (fun i wr => ∃ k : Nat, k ≤ m ∧ i = .int .i64 k ∧ Hid (∀ j, j < k → letS n (ws[j]?.getD 0) = true) ∧ w = wr) (fun i _ => m - (intOf i).toNat)
    case atStart => exact ⟨0, Nat.zero_le _, rfl, Lib.hid (fun j hj => by omega), rfl⟩
    case round =>
      obtain ⟨k, hk, rfl, HP, rfl⟩ := hrel
      by_cases hlt : k < m
      · have hkL : k < ws.length := by rw [HL.out]; exact hlt
        have hkI : (k : Int) < (m : Int) := by omega
        rcases HX.out with h | ⟨b, off, rfl, hc⟩
        · subst h; simp at hkL
        have c0 := hc k hkL
        obtain ⟨z, hz⟩ : ∃ z, ws[k]?.getD 0 = z := ⟨_, rfl⟩
        rw [hz] at c0
        have HZ := Lib.hid hz
        have HI2 := Lib.hid (HIN.out z (1 - n) (n - 1))
        have HBAD : Hid (letS n z = false → checkZ n ws most = 2) := Lib.hid (fun h => by
          rw [HC.out false (by
            rw [Bool.eq_false_iff]; intro hall
            rw [List.all_eq_true] at hall
            have := hall _ (List.getElem_mem hkL)
            rw [List.getElem?_eq_getElem hkL, Option.getD_some] at hz
            rw [hz, h] at this; cases this)]
          rfl)
        clear hc hz
        by_cases hin : 1 - n ≤ z ∧ z ≤ n - 1
        · rw [show (decide (1 - n ≤ z) && decide (z ≤ n - 1)) = true by simp [hin]] at HI2
          by_cases z0 : z = 0
          · have HE := Lib.hid (HBAD.out (by rw [Bool.eq_false_iff]; intro h; exact (letS_iff.1 h).1 z0))
            subst z0
            clear hin
            go_wp2_with (go_at_call 56; refine (HI2.out _).mono ?_; rintro e w' ⟨rfl, rfl⟩)
            go_ret
            exact ⟨by rw [HE.out]; rfl, rfl⟩
          · have HG : Hid (letS n z = true) := Lib.hid (letS_iff.2 ⟨z0, by omega, by omega⟩)
            clear hin
            go_wp2_with (go_at_call 56; refine (HI2.out _).mono ?_; rintro e w' ⟨rfl, rfl⟩)
            go_roundw
            case rel => exact ⟨k + 1, by omega, by go_num, Lib.hid (fun j hj => by
              by_cases e : j = k
              · rw [e, HZ.out]; exact HG.out
              · exact HP.out j (by omega)), trivial⟩
            case measure => simp [intOf]; omega
        · rw [show (decide (1 - n ≤ z) && decide (z ≤ n - 1)) = false by rw [Bool.and_eq_false_iff, decide_eq_false_iff_not, decide_eq_false_iff_not]; omega] at HI2
          have HE := Lib.hid (HBAD.out (by rw [Bool.eq_false_iff]; intro h; have := (letS_iff.1 h).2; omega))
          clear hin
          go_wp2_with (go_at_call 56; refine (HI2.out _).mono ?_; rintro e w' ⟨rfl, rfl⟩)
          go_ret
          exact ⟨by rw [HE.out]; rfl, rfl⟩
      · obtain rfl : k = m := by omega
        have hall : ws.all (letS n) = true := by
          rw [List.all_eq_true]
          intro x hx
          obtain ⟨j, hj, rfl⟩ := List.getElem_of_mem hx
          have := HP.out j (by rw [← HL.out]; exact hj)
          rwa [List.getElem?_eq_getElem hj, Option.getD_some] at this
        have HE := Lib.hid (HC.out true hall)
        by_cases hmo : most < (k : Int)
        · go_wp2
          go_ret
          exact ⟨by rw [HE.out]; simp [hmo], rfl⟩
        · go_wp2
          go_ret
          exact ⟨by rw [HE.out]; simp [hmo], rfl⟩
  · have hb : (decide (2 ≤ n) && decide (n ≤ 8)) = false := by
      rw [Bool.and_eq_false_iff, decide_eq_false_iff_not, decide_eq_false_iff_not]; omega
    have HA := Lib.hid (HIN.out n 2 8)
    rw [hb] at HA
    have HC : Hid (checkZ n ws most = 1) := Lib.hid (by rw [checkZ, if_neg (by rw [hb]; simp)])
    go_enter Try.func19, Try.ntmps19
    go_wp2_with (go_at_call 56; refine (HA.out _).mono ?_; rintro e w' ⟨rfl, rfl⟩)
    go_ret
    exact ⟨by rw [HC.out]; rfl, rfl⟩

end Go.Proofs.Ytbcggbmjbljnfaa
