/-
  strap: 'Alexander' of two strands; the reference's 'Same', 'SameBraid', 'SamePoly'.
-/
import Derived.Test.YtbcggbmjbljnfaaCm
import Derived.Test.YtbcggbmjbljnfaaBo
namespace Go.Proofs.Ytbcggbmjbljnfaa
open Go.RowKit Go.Sort

/-- A polynomial and no error. -/
def GivesPE (p : Pol) (w : World) (e : Ending) (w' : World) : Prop := ∃ a c, e = .returned (.tuple #[.agg #[.int .i64 p.1, .slice a p.2.length c], .int .i64 0]) ∧ IntsT w' a p.2 ∧ Below w.heap.size w w'
set_option maxRecDepth 100000 in
set_option maxHeartbeats 1000000 in
theorem Alexander2_good (m cap : Nat) (a : Option Addr) (ws : List Int) (w : World) (hm : m ≤ 24) (hl : ws.length = m) (hz : Ints w a ws) (hws : ∀ z ∈ ws, z = 1) :
    Calls Try.prog 35 #[.int .i64 2, .slice a m cap] w (GivesPE (alex2N (matK 2 ws m 0 0)) w) := by
  obtain ⟨w0, hw0⟩ : ∃ w0, w.alloc (.cells #[.int .i64 0, .slice none 0 0] 56) = w0 := ⟨_, rfl⟩
  have H0 : Hid (Below w.heap.size w w0 ∧ w0.heap[w.heap.size]? = some (.cells #[.int .i64 0, .slice none 0 0] 56 (0, 0)) ∧ w.alloc (.cells #[.int .i64 0, .slice none 0 0] 56) = w0) := Lib.hid (by
    refine ⟨?_, ?_, hw0⟩
    · rw [← hw0]; exact (Below.refl _ w).alloc (Nat.le_refl _) _
    · rw [← hw0]; exact heap_alloc_new w _)
  have hze := hz.below H0.out.1
  have hlet : ws.all (letS 2) = true := by
    rw [List.all_eq_true]; intro z hz; rw [hws z hz]; decide
  have hck := check_any 2 24 a m cap ws w0 hl (by omega) hze
  rw [show checkZ 2 ws 24 = 0 by
    rw [checkZ, if_pos (by simp), if_pos hlet, if_neg (by omega)]] at hck
  have HCK := Lib.hid hck
  have hmt := matrices_any 2 w0 (by omega)
  rw [show ((2 : Nat) : Int) = 2 from rfl] at hmt
  have HMT := Lib.hid hmt
  have HZ := Lib.hid hze
  have HOW := Lib.hid (fun (g0 b : Nat) (wx : World) (hg : MatC wx g0 2 unitN) (hc : wx.cell? ⟨b, 0, none⟩ = some (.int .i64 ((2 : Nat) : Int))) (hzx : Ints wx a ws) => ofWordM_any 2 g0 b m cap a ws wx (by omega) (by omega) hl hzx (fun z hz => by rw [hws z hz]; omega) hg hc)
  have hwi := matK_wi (n := 2) (ws := ws) (k := m) (by omega) 0 (by omega) 0 (by omega)
  obtain ⟨p, hp⟩ : ∃ p, alex2N (matK 2 ws m 0 0) = p := ⟨_, rfl⟩
  have HAL := Lib.hid (fun (g : Nat) (wx : World) (hg : MatC wx g 2 (matK 2 ws m)) => alex2_any g (matK 2 ws m) wx hg ⟨by have := hwi.1; omega, by have := hwi.2; omega⟩)
  rw [hp] at HAL ⊢
  unfold GivesE at HAL
  clear hw0 hz hws hze hl hlet hck hmt hwi hp
  go_enter Try.func35, Try.ntmps35
  go_wp2_with (fail)
  try rw [H0.out.2.2]
  refine HCK.out.mono ?_
  rintro e w' ⟨rfl, rfl⟩
  go_wp2_with (fail)
  refine HMT.out.mono ?_
  rintro e w2 ⟨g0, b, rfl, hg, hcb, hb2⟩
  have H2 := Lib.hid (And.intro hg (And.intro hcb hb2))
  clear hcb hb2 hg
  go_wp2_with (fail)
  refine (HOW.out g0 b w2 H2.out.1 H2.out.2.1 (HZ.out.below H2.out.2.2)).mono ?_
  rintro e w3 ⟨g3, rfl, hm3, hb3⟩
  have H3 := Lib.hid (And.intro hm3 (H2.out.2.2.trans (hb3.mono H2.out.2.2.size)))
  clear hm3 hb3
  go_wp2_with (fail)
  refine (HAL.out g3 w3 H3.out.1).mono ?_
  rintro e w4 ⟨a4, c4, rfl, hz4, hb4, _⟩
  have hb04 := H3.out.2.trans (hb4.mono H3.out.2.size)
  have hbx := (hb04.block w.heap.size (Array.getElem?_eq_some_iff.1 H0.out.2.1).1).trans H0.out.2.1
  have H4 := Lib.hid (And.intro hz4 (And.intro hb04 hbx))
  have k0 := box_cell0 hbx
  have k1 := box_cell1 hbx
  have f0 := row_free hbx 0
  have f1 := row_free hbx 1
  clear hz4 hb4 hb04 hbx
  go_wp2_with (fail)
  have y1 := heap_setCell_self (i := 0) H4.out.2.2 (.int .i64 p.1)
  have y2 := heap_setCell_self (i := 1) y1 (.slice a4 p.2.length c4)
  refine bodyPost_ret_by (results_row_tmp (P := Try.prog) rfl _ _ w.heap.size 56 #[.int .i64 p.1, .slice a4 p.2.length c4] (0, 0) _ rfl y2 Try.underlying56 rfl (by kernel_rfl)) rfl ?_
  exact ⟨a4, c4, rfl, (H4.out.1.setCell H4.out.2.2 (by decide)).setCell y1 (by decide), ((H0.out.1.trans (H4.out.2.1.mono H0.out.1.size)).setCell (p := ⟨w.heap.size, 0, none⟩) (Nat.le_refl _) _).setCell (p := ⟨w.heap.size, 1, none⟩) (Nat.le_refl _) _⟩

theorem t_alex : alex2N (matK 2 [1, 1, 1] 3 0 0) = (0, [1, -1, 1]) := by kernel_rfl
theorem t_norm1 : normTo 10 3 (0, []) [1, 2, 1] = some (1, []) := by decide
theorem t_norm2 : normTo 10 3 (0, []) [2, 1, 2] = some (1, []) := by decide
theorem t_norm3 : normTo 10 3 (0, []) [1, 1, 2] = some (0, [[1, 0, 2], [2, 0, 1]]) := by decide

end Go.Proofs.Ytbcggbmjbljnfaa
