/-
  strap: the reference's 'Perm'; the law's 'cut'.
-/
import Derived.Test.YtbcggbmjbljnfaaDf
namespace Go.Proofs.Ytbcggbmjbljnfaa
open Go.RowKit Go.Sort

set_option maxRecDepth 100000 in
set_option maxHeartbeats 1000000 in
theorem refPerm_any (n : Nat) (a : Option Addr) (m cap : Nat) (ws : List Int) (w : World) (hl : ws.length = m) (hm : m ≤ 1000) (hn : n ≤ 100) (hz : Ints w a ws) (hws : ws.all (letS n) = true) :
    Calls Try.prog 21 #[.int .i64 (n : Int), .slice a m cap] w fun e w' => ∃ g c, e = .returned (.slice (some ⟨g, 0, none⟩) n c) ∧ Nats w' (some ⟨g, 0, none⟩) (permK n ws m) ∧ Below w.heap.size w w' := by
  have HO := Lib.hid (refOne_any n w (by omega))
  have HX := Lib.hid hz.at
  have HL := Lib.hid hl
  have HWS := Lib.hid hws
  clear hz hl hws
  go_enter Try.func21, Try.ntmps21
  go_wp2_with (fail)
  refine HO.out.mono ?_
  rintro e w1 ⟨g1, c1, rfl, hn1, hb1⟩
  have HI : Hid (Nats w1 (some ⟨g1, 0, none⟩) (permK n ws 0) ∧ Below w.heap.size w w1) := Lib.hid ⟨by simpa [permK] using hn1, hb1⟩
  clear hn1 hb1
  go_wp2_with (fail)
  go_loopw [6, 5] (fun v v5 wr => ∃ k g c : Nat, k ≤ m ∧ v = .int .i64 k ∧ v5 = .slice (some ⟨g, 0, none⟩) n c ∧ Hid (Nats wr (some ⟨g, 0, none⟩) (permK n ws k) ∧ Below w.heap.size w wr)) (fun v _ _ => m - (intOf v).toNat)
  case atStart => exact ⟨0, g1, c1, Nat.zero_le _, rfl, rfl, HI⟩
  case round =>
    clear HI
    obtain ⟨k, g, c, hk, rfl, rfl, HR⟩ := hrel
    by_cases hlt : k < m
    · have hkI : (k : Int) < (m : Int) := by omega
      have hkL : k < ws.length := by rw [HL.out]; exact hlt
      rcases HX.out with h | ⟨ba, oa, rfl, hca⟩
      · rw [h] at hkL; simp at hkL
      have c0 := (HR.out.2.cell (p := ⟨ba, oa + k, none⟩) (World.block_lt_of_cell? w _ (hca k hkL))).trans (hca k hkL)
      have hzv := List.all_eq_true.1 HWS.out (ws[k]?.getD 0) (by rw [List.getElem?_eq_getElem hkL, Option.getD_some]; exact List.getElem_mem _)
      have hsc := permK_succ (n := n) hkL
      have hpi := permK_in (n := n) HWS.out (k := k) (by omega)
      obtain ⟨z, hz⟩ : ∃ z, ws[k]?.getD 0 = z := ⟨_, rfl⟩
      rw [hz] at c0 hzv hsc
      have hzi := letS_iff.1 hzv
      obtain ⟨kk, hkk⟩ : ∃ kk, z.natAbs = kk := ⟨_, rfl⟩
      rw [hkk] at hsc
      have hk1 : 1 ≤ kk := by omega
      have hin : kk < n := by omega
      have hth := fun (wx : World) (hb : Below wr.heap.size wr wx) => refThen_any (some ⟨g, 0, none⟩) n c (kk - 1) (permK n ws k) wx hpi (by omega) (by omega) (HR.out.1.below hb)
      rw [show kk - 1 + 1 = kk by omega, ← hsc, show ((kk - 1 : Nat) : Int) = (kk : Int) - 1 by omega] at hth
      have HTH := Lib.hid hth
      have hwr : IntKind.i64.wrap ((kk : Int) - 1) = (kk : Int) - 1 := by rw [IntKind.wrap_i64]; omega
      rcases (show z = (kk : Int) ∨ z = -(kk : Int) by omega) with rfl | rfl
      · have hmx : ¬ ((kk : Int) < -(kk : Int)) := by omega
        clear hca hzv hsc hpi hz hzi hkk hkL hth
        have hw6 : IntKind.i64.wrap (-(kk : Int)) = -(kk : Int) := by rw [IntKind.wrap_i64]; omega
        have hw7 : IntKind.i64.wrap (kk : Int) = (kk : Int) := by rw [IntKind.wrap_i64]; omega
        have B0 := Below.refl wr.heap.size wr
        have B0d : Below wr.heap.size wr wr.drew := B0.drew
        have s1 : wr.cell? ⟨ba, oa + k, none⟩ = some (.int .i64 (kk : Int)) ∧ True := ⟨c0, trivial⟩
        have s1d : wr.drew.cell? ⟨ba, oa + k, none⟩ = some (.int .i64 (kk : Int)) ∧ True := s1
        go_upto_region 5 with fail
        go_region_law (go_simp; go_at_call 58; refine (HTH.out _ (by first | with_reducible exact B0 | with_reducible exact B0d)).mono ?_; rintro e w5 ⟨g5, c5, rfl, hn5, hb5⟩; have H5 := Lib.hid (And.intro hn5 (show Below wr.heap.size wr w5 from by first | with_reducible exact B0.trans hb5 | with_reducible exact B0d.trans (hb5.mono B0d.size))); clear hn5 hb5)
        all_goals
          go_simp
          go_wp2_with (fail)
          exact ⟨⟨k + 1, g5, c5, by omega, by go_num, rfl, Lib.hid ⟨H5.out.1, HR.out.2.trans (H5.out.2.mono HR.out.2.size)⟩⟩, by simp [intOf]; omega⟩
      · have hmx : -(kk : Int) < (kk : Int) := by omega
        clear hca hzv hsc hpi hz hzi hkk hkL hth
        have hw6 : IntKind.i64.wrap (-(kk : Int)) = -(kk : Int) := by rw [IntKind.wrap_i64]; omega
        have hw7 : IntKind.i64.wrap (kk : Int) = (kk : Int) := by rw [IntKind.wrap_i64]; omega
        have B0 := Below.refl wr.heap.size wr
        have B0d : Below wr.heap.size wr wr.drew := B0.drew
        have s1 : wr.cell? ⟨ba, oa + k, none⟩ = some (.int .i64 (-(kk : Int))) ∧ True := ⟨c0, trivial⟩
        have s1d : wr.drew.cell? ⟨ba, oa + k, none⟩ = some (.int .i64 (-(kk : Int))) ∧ True := s1
        go_upto_region 5 with fail
        go_region_law (go_simp; go_at_call 58; refine (HTH.out _ (by first | with_reducible exact B0 | with_reducible exact B0d)).mono ?_; rintro e w5 ⟨g5, c5, rfl, hn5, hb5⟩; have H5 := Lib.hid (And.intro hn5 (show Below wr.heap.size wr w5 from by first | with_reducible exact B0.trans hb5 | with_reducible exact B0d.trans (hb5.mono B0d.size))); clear hn5 hb5)
        all_goals
          go_simp
          go_wp2_with (fail)
          exact ⟨⟨k + 1, g5, c5, by omega, by go_num, rfl, Lib.hid ⟨H5.out.1, HR.out.2.trans (H5.out.2.mono HR.out.2.size)⟩⟩, by simp [intOf]; omega⟩
    · obtain rfl : k = m := by omega
      go_wp2_with (fail)
      go_ret
      exact ⟨g, c, rfl, HR.out⟩

end Go.Proofs.Ytbcggbmjbljnfaa
