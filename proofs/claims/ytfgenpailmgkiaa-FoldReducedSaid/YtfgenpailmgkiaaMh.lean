/-
  The walk of the law's 'letters': some pattern.
-/
import Derived.Test.YtfgenpailmgkiaaLe
import Derived.Test.YtfgenpailmgkiaaMg
namespace Go.Proofs.Ytfgenpailmgkiaa
open Go.RowKit Go.Sort Go.Shelf

theorem pat_push {q : ByteArray} {k : Nat} {c : UInt8} (hc : letB c = true) (h1 : q.size = k) (h2 : q.data.toList.all letB = true) : (q ++ (⟨#[c]⟩ : ByteArray)).size = k + 1 ∧ (q ++ (⟨#[c]⟩ : ByteArray)).data.toList.all letB = true := by
  obtain ⟨p1, p2⟩ := bytes_push q c _ _ h1 rfl
  refine ⟨p1, ?_⟩
  rw [p2, List.all_append, h2]
  simp [hc]

set_option maxHeartbeats 1000000 in
theorem lettersLaw_any (bits : Int) (m : Nat) (w : World) (h0 : 0 ≤ bits) (h1 : bits ≤ 65535) (hm : m ≤ 9) :
    Calls Try.prog 41 #[.int .u16 bits, .int .i64 m] w fun e w' => ∃ q, e = .returned (.string q) ∧ patB q m = true ∧ w = w' := by
  go_enter Try.func41, Try.ntmps41
  go_wp2
  go_loop [5, 6] (fun t i => ∃ k : Nat, k ≤ m ∧ i = .int .i64 k ∧ ∃ q : ByteArray, t = .string q ∧ Hid (q.size = k) ∧ Hid (q.data.toList.all letB = true)) (fun _ i => m - (intOf i).toNat)
  case atStart => exact ⟨0, Nat.zero_le _, rfl, _, rfl, Lib.hid rfl, Lib.hid rfl⟩
  case round =>
    obtain ⟨k, hk, rfl, q, rfl, hq1, hq2⟩ := hrel
    have hq3 : q.size ≤ 1000 := by rw [hq1.out]; omega
    by_cases hlt : k < m
    · go_wp2
      all_goals
        go_round
        case rel =>
          first
            | (obtain ⟨p1, p2⟩ := pat_push (c := 86) rfl hq1.out hq2.out
               exact ⟨k + 1, by omega, by go_num, _, rfl, Lib.hid p1, Lib.hid p2⟩)
            | (obtain ⟨p1, p2⟩ := pat_push (c := 77) rfl hq1.out hq2.out
               exact ⟨k + 1, by omega, by go_num, _, rfl, Lib.hid p1, Lib.hid p2⟩)
        case measure => simp [intOf]; omega
    · go_wp2
      go_ret
      obtain rfl : k = m := by omega
      exact ⟨q, rfl, by rw [patB, hq1.out, hq2.out]; simp, rfl⟩

end Go.Proofs.Ytfgenpailmgkiaa
