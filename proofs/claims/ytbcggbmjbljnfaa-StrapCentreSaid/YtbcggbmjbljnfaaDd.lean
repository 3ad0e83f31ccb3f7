/-
  strap: 'Perm', 'Loops'; the reference's 'in', 'Check'.
-/
import Derived.Test.YtbcggbmjbljnfaaDc
namespace Go.Proofs.Ytbcggbmjbljnfaa
open Go.RowKit Go.Sort

theorem checkZ_good {n : Nat} {ws : List Int} {most : Int} (h : checkZ n ws most = 0) : 2 ≤ n ∧ n ≤ 8 ∧ ws.all (letS n) = true ∧ ¬ most < ws.length := by
  unfold checkZ at h
  split at h
  · rename_i h1
    simp at h1
    split at h
    · rename_i h2
      split at h
      · cases h
      · rename_i h3
        exact ⟨by omega, by omega, h2, h3⟩
    · cases h
  · cases h
set_option maxRecDepth 100000 in
set_option maxHeartbeats 1000000 in
theorem Perm_bad (n e0 : Int) (a : Option Addr) (m cap : Nat) (ws : List Int) (w : World) (hl : ws.length = m) (hm : m ≤ 9223372036854775807) (hz : Ints w a ws) (he : checkZ n ws 60 = e0) (hne : ¬ e0 = 0) :
    Calls Try.prog 17 #[.int .i64 n, .slice a m cap] w fun e w' => e = .returned (.tuple #[.slice none 0 0, .int .i64 e0]) ∧ Below w.heap.size w w' := by
  have hck := check_any n 60 a m cap ws w hl hm hz
  rw [he] at hck
  have HC := Lib.hid hck
  clear hck hz
  go_enter Try.func17, Try.ntmps17
  go_wp2_with (fail)
  refine HC.out.mono ?_
  rintro e w' ⟨rfl, rfl⟩
  go_wp2_with (fail)
  go_ret2
  exact ⟨rfl, Below.refl _ _⟩
set_option maxRecDepth 100000 in
set_option maxHeartbeats 1000000 in
theorem Loops_bad (n e0 : Int) (a : Option Addr) (m cap : Nat) (ws : List Int) (w : World) (hl : ws.length = m) (hm : m ≤ 9223372036854775807) (hz : Ints w a ws) (he : checkZ n ws 60 = e0) (hne : ¬ e0 = 0) :
    Calls Try.prog 18 #[.int .i64 n, .slice a m cap] w fun e w' => e = .returned (.tuple #[.int .i64 0, .int .i64 e0]) ∧ Below w.heap.size w w' := by
  have hck := check_any n 60 a m cap ws w hl hm hz
  rw [he] at hck
  have HC := Lib.hid hck
  clear hck hz
  go_enter Try.func18, Try.ntmps18
  go_wp2_with (fail)
  refine HC.out.mono ?_
  rintro e w' ⟨rfl, rfl⟩
  go_wp2_with (fail)
  go_ret2
  exact ⟨rfl, Below.refl _ _⟩
set_option maxRecDepth 100000 in
set_option maxHeartbeats 1000000 in
theorem Perm_good (n : Nat) (a : Option Addr) (m cap : Nat) (ws : List Int) (w : World) (hl : ws.length = m) (hz : Ints w a ws) (he : checkZ n ws 60 = 0) :
    Calls Try.prog 17 #[.int .i64 (n : Int), .slice a m cap] w fun e w' => ∃ g, e = .returned (.tuple #[.slice (some ⟨g, 0, none⟩) n n, .int .i64 0]) ∧ Nats w' (some ⟨g, 0, none⟩) (permK n ws m) ∧ Below w.heap.size w w' := by
  obtain ⟨h2, h8, hws, hm⟩ := checkZ_good he
  have hck := check_any n 60 a m cap ws w hl (by omega) hz
  rw [he] at hck
  have HC := Lib.hid hck
  have HP := Lib.hid (permutations_any n w (by omega))
  have HZ := Lib.hid hz
  have HO := Lib.hid (fun (g0 b : Nat) (wx : World) (hzx : Ints wx a ws) (hg : Nats wx (some ⟨g0, 0, none⟩) (idN n)) (hc : wx.cell? ⟨b, 0, none⟩ = some (.int .i64 (n : Int))) => ofWordP_any n g0 b m cap a ws wx (by omega) (by omega) hl hzx hws hg hc)
  clear hck hz hws hl
  go_enter Try.func17, Try.ntmps17
  go_wp2_with (fail)
  refine HC.out.mono ?_
  rintro e w' ⟨rfl, rfl⟩
  go_wp2_with (fail)
  refine HP.out.mono ?_
  rintro e w2 ⟨g, b, rfl, hn2, hc2, hb2⟩
  have H2 := Lib.hid (And.intro hn2 (And.intro hc2 hb2))
  clear hn2 hc2 hb2
  go_wp2_with (fail)
  refine (HO.out g b w2 (HZ.out.below H2.out.2.2) H2.out.1 H2.out.2.1).mono ?_
  rintro e w3 ⟨g3, rfl, hn3, hb3⟩
  have H3 := Lib.hid (And.intro hn3 (H2.out.2.2.trans (hb3.mono H2.out.2.2.size)))
  clear hn3 hb3
  go_wp2_with (fail)
  go_ret2
  exact ⟨g3, rfl, H3.out⟩
set_option maxRecDepth 100000 in
set_option maxHeartbeats 1000000 in
theorem Loops_good (n : Nat) (a : Option Addr) (m cap : Nat) (ws : List Int) (w : World) (hl : ws.length = m) (hz : Ints w a ws) (he : checkZ n ws 60 = 0) :
    Calls Try.prog 18 #[.int .i64 (n : Int), .slice a m cap] w fun e w' => e = .returned (.tuple #[.int .i64 (cycN (permK n ws m) : Int), .int .i64 0]) ∧ Below w.heap.size w w' := by
  obtain ⟨h2, h8, hws, hm⟩ := checkZ_good he
  have hck := check_any n 60 a m cap ws w hl (by omega) hz
  rw [he] at hck
  have HC := Lib.hid hck
  have HP := Lib.hid (permutations_any n w (by omega))
  have HZ := Lib.hid hz
  have HO := Lib.hid (fun (g0 b : Nat) (wx : World) (hzx : Ints wx a ws) (hg : Nats wx (some ⟨g0, 0, none⟩) (idN n)) (hc : wx.cell? ⟨b, 0, none⟩ = some (.int .i64 (n : Int))) => ofWordP_any n g0 b m cap a ws wx (by omega) (by omega) hl hzx hws hg hc)
  have hpi := permK_in (n := n) hws (k := m) (by omega)
  have HY := Lib.hid (fun (g : Nat) (wx : World) (hx : Nats wx (some ⟨g, 0, none⟩) (permK n ws m)) => cycles_any (some ⟨g, 0, none⟩) n n (permK n ws m) wx hpi (by omega) hx)
  clear hck hz hws hl hpi
  go_enter Try.func18, Try.ntmps18
  go_wp2_with (fail)
  refine HC.out.mono ?_
  rintro e w' ⟨rfl, rfl⟩
  go_wp2_with (fail)
  refine HP.out.mono ?_
  rintro e w2 ⟨g, b, rfl, hn2, hc2, hb2⟩
  have H2 := Lib.hid (And.intro hn2 (And.intro hc2 hb2))
  clear hn2 hc2 hb2
  go_wp2_with (fail)
  refine (HO.out g b w2 (HZ.out.below H2.out.2.2) H2.out.1 H2.out.2.1).mono ?_
  rintro e w3 ⟨g3, rfl, hn3, hb3⟩
  have H3 := Lib.hid (And.intro hn3 (H2.out.2.2.trans (hb3.mono H2.out.2.2.size)))
  clear hn3 hb3
  go_wp2_with (fail)
  refine (HY.out g3 w3 H3.out.1).mono ?_
  rintro e w4 ⟨rfl, hb4⟩
  have H4 := Lib.hid (H3.out.2.trans (hb4.mono H3.out.2.size))
  clear hb4
  go_wp2_with (fail)
  go_ret2
  exact ⟨rfl, H4.out⟩

theorem refIn_any (v lo hi : Int) (w : World) : Calls Try.prog 56 #[.int .i64 v, .int .i64 lo, .int .i64 hi] w fun e w' => e = .returned (.bool (decide (lo ≤ v) && decide (v ≤ hi))) ∧ w = w' := by
  by_cases h1 : lo ≤ v <;> by_cases h2 : v ≤ hi
  all_goals
    go_enter Try.func56, Try.ntmps56
    go_wp2
    go_ret
    exact ⟨ret_bool (by simp [h1, h2]), rfl⟩

end Go.Proofs.Ytbcggbmjbljnfaa
