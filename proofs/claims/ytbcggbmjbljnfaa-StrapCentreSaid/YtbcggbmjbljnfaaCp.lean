/-
  strap: 'lives'.
-/
import Derived.Test.YtbcggbmjbljnfaaCo
namespace Go.Proofs.Ytbcggbmjbljnfaa
open Go.RowKit Go.Sort

theorem intsNew (w : World) (zs : List Int) : Ints (w.alloc (.cells (intC zs) 3)) (some ⟨w.heap.size, 0, none⟩) zs := (RowZ.ints (heap_alloc_new w _)).ints
theorem wantFac (w : World) : FacV (((w.alloc (.cells #[.int .i64 1, .int .i64 0, .int .i64 2] 3)).alloc (.cells #[.int .i64 2, .int .i64 0, .int .i64 1] 3)).alloc (.cells #[.slice (some ⟨w.heap.size, 0, none⟩) 3 3, .slice (some ⟨w.heap.size + 1, 0, none⟩) 3 3] 22)) 3 (.slice (some ⟨w.heap.size + 1 + 1, 0, none⟩) 2 2) [[1, 0, 2], [2, 0, 1]] := by
  have h3 := heap_alloc_new ((w.alloc (.cells #[.int .i64 1, .int .i64 0, .int .i64 2] 3)).alloc (.cells #[.int .i64 2, .int .i64 0, .int .i64 1] 3)) (.cells #[.slice (some ⟨w.heap.size, 0, none⟩) 3 3, .slice (some ⟨w.heap.size + 1, 0, none⟩) 3 3] 22)
  rw [show ((w.alloc (.cells #[.int .i64 1, .int .i64 0, .int .i64 2] 3)).alloc (.cells #[.int .i64 2, .int .i64 0, .int .i64 1] 3)).heap.size = w.heap.size + 1 + 1 by simp] at h3
  have h1 : RowN (((w.alloc (.cells #[.int .i64 1, .int .i64 0, .int .i64 2] 3)).alloc (.cells #[.int .i64 2, .int .i64 0, .int .i64 1] 3)).alloc (.cells #[.slice (some ⟨w.heap.size, 0, none⟩) 3 3, .slice (some ⟨w.heap.size + 1, 0, none⟩) 3 3] 22)) w.heap.size [1, 0, 2] :=
    ((Below.heap_alloc _ _ _ (by simp; omega)).trans (Below.heap_alloc _ _ _ (by simp))).trans (heap_alloc_new w _)
  have h2 : RowN (((w.alloc (.cells #[.int .i64 1, .int .i64 0, .int .i64 2] 3)).alloc (.cells #[.int .i64 2, .int .i64 0, .int .i64 1] 3)).alloc (.cells #[.slice (some ⟨w.heap.size, 0, none⟩) 3 3, .slice (some ⟨w.heap.size + 1, 0, none⟩) 3 3] 22)) (w.heap.size + 1) [2, 0, 1] := by
    have h := heap_alloc_new (w.alloc (.cells #[.int .i64 1, .int .i64 0, .int .i64 2] 3)) (.cells #[.int .i64 2, .int .i64 0, .int .i64 1] 3)
    rw [show (w.alloc (.cells #[.int .i64 1, .int .i64 0, .int .i64 2] 3)).heap.size = w.heap.size + 1 by simp] at h
    exact (Below.heap_alloc _ _ _ (by simp)).trans h
  refine ⟨_, 2, [.slice (some ⟨w.heap.size, 0, none⟩) 3 3, .slice (some ⟨w.heap.size + 1, 0, none⟩) 3 3], rfl, ?_, .inr ⟨w.heap.size + 1 + 1, 0, rfl, fun i hi => ?_⟩⟩
  · exact ⟨⟨⟨rfl, by decide⟩, _, 3, rfl, h1.nats⟩, ⟨⟨rfl, by decide⟩, _, 3, rfl, h2.nats⟩, trivial⟩
  · simp only [World.cell?, h3]
    match i, hi with
    | 0, _ => rfl
    | 1, _ => rfl

set_option maxRecDepth 100000 in
set_option maxHeartbeats 1000000 in
theorem lives_any (w : World) : Calls Try.prog 20 #[] w fun e w' => e = .returned (.bool true) ∧ Below w.heap.size w w' := by
  have hE := Equal_good 3 10 3 3 3 3 (some ⟨w.heap.size, 0, none⟩) (some ⟨w.heap.size + 1, 0, none⟩) [1, 2, 1] [2, 1, 2] _ _ ((w.alloc (.cells (intC [1, 2, 1]) 3)).alloc (.cells (intC [2, 1, 2]) 3)) (by omega) (by omega) (by omega) (by omega) rfl rfl
    ((intsNew w [1, 2, 1]).below ((Below.refl _ _).alloc (Nat.le_refl _) _)) (by
      have := intsNew (w.alloc (.cells (intC [1, 2, 1]) 3)) [2, 1, 2]
      rwa [show (w.alloc (.cells (intC [1, 2, 1]) 3)).heap.size = w.heap.size + 1 by simp] at this) (by decide) (by decide) t_norm1 t_norm2 (by decide)
  rw [show decide (((1, []) : Int × List (List Nat)) = (1, [])) = true by decide, show ((3 : Nat) : Int) = 3 from rfl] at hE
  have HE : Hid (Calls Try.prog 33 #[.int .i64 3, .slice (some ⟨w.heap.size, 0, none⟩) 3 3, .slice (some ⟨w.heap.size + 1, 0, none⟩) 3 3] ((w.alloc (.cells #[.int .i64 1, .int .i64 2, .int .i64 1] 3)).alloc (.cells #[.int .i64 2, .int .i64 1, .int .i64 2] 3)) (fun e w' => e = .returned (.tuple #[.bool true, .int .i64 0]) ∧ Below w.heap.size w w')) := Lib.hid (Calls.mono hE (fun e w' h => ⟨h.1, (((Below.refl _ w).alloc (Nat.le_refl _) _).alloc (by simp) _).trans (h.2.mono (by simp; omega))⟩))
  have HN : Hid (∀ wx : World, Calls Try.prog 24 #[.int .i64 3, .slice (some ⟨wx.heap.size, 0, none⟩) 3 3] (wx.alloc (.cells #[.int .i64 1, .int .i64 1, .int .i64 2] 3)) (fun e w' => ∃ a c, e = .returned (.tuple #[.agg #[.int .i64 0, .slice a 2 c], .int .i64 0]) ∧ FacV w' 3 (.slice a 2 c) [[1, 0, 2], [2, 0, 1]] ∧ Below wx.heap.size wx w')) := Lib.hid (fun wx => by
    have h := Normal_good 3 10 3 3 (some ⟨wx.heap.size, 0, none⟩) [1, 1, 2] _ (wx.alloc (.cells (intC [1, 1, 2]) 3)) (by omega) (by omega) (by omega) rfl (intsNew wx [1, 1, 2]) (by decide) t_norm3
    exact Calls.mono h (fun e w' ⟨a, c, h1, h2, h3⟩ => ⟨a, c, h1, h2, ((Below.refl _ wx).alloc (Nat.le_refl _) _).trans (h3.mono (by simp))⟩))
  have HA : Hid (∀ wx : World, Calls Try.prog 35 #[.int .i64 2, .slice (some ⟨wx.heap.size, 0, none⟩) 3 3] (wx.alloc (.cells #[.int .i64 1, .int .i64 1, .int .i64 1] 3)) (fun e w' => ∃ a c, e = .returned (.tuple #[.agg #[.int .i64 0, .slice a 3 c], .int .i64 0]) ∧ Ints w' a [1, -1, 1] ∧ Below wx.heap.size wx w')) := Lib.hid (fun wx => by
    have h := Alexander2_good 3 3 (some ⟨wx.heap.size, 0, none⟩) [1, 1, 1] (wx.alloc (.cells (intC [1, 1, 1]) 3)) (by omega) rfl (intsNew wx [1, 1, 1]) (by decide)
    rw [t_alex] at h
    exact Calls.mono h (fun e w' ⟨a, c, h1, h2, h3⟩ => ⟨a, c, h1, h2.ints, ((Below.refl _ wx).alloc (Nat.le_refl _) _).trans (h3.mono (by simp))⟩))
  clear hE
  go_enter Try.func20, Try.ntmps20
  go_wp2_with (fail)
  refine HE.out.mono ?_
  rintro e w1 ⟨rfl, hb1⟩
  have H1 := Lib.hid hb1
  clear hb1
  go_wp2_with (fail)
  refine (HN.out w1).mono ?_
  rintro e w2 ⟨a2, c2, rfl, hf2, hb2⟩
  obtain ⟨w3, hw3⟩ : ∃ w3, w2.alloc (.cells #[.int .i64 0, .slice a2 2 c2] 37) = w3 := ⟨_, rfl⟩
  have hb23 : Below w2.heap.size w2 w3 := by rw [← hw3]; exact (Below.refl _ w2).alloc (Nat.le_refl _) _
  have hr3 : w3.heap[w2.heap.size]? = some (.cells #[.int .i64 0, .slice a2 2 c2] 37 (0, 0)) := by rw [← hw3]; exact heap_alloc_new w2 _
  have hb13 := H1.out.trans ((hb2.trans (hb23.mono hb2.size)).mono H1.out.size)
  have H3 := Lib.hid (And.intro (hf2.below hb23) (And.intro hb13 hr3))
  clear hb2 hb23 hr3 hb13 hf2
  go_wp2_with (fail)
  refine (HA.out w3).mono ?_
  rintro e w4 ⟨a4, c4, rfl, hz4, hb4⟩
  obtain ⟨w5, hw5⟩ : ∃ w5, w4.alloc (.cells #[.int .i64 0, .slice a4 3 c4] 56) = w5 := ⟨_, rfl⟩
  have hb45 : Below w4.heap.size w4 w5 := by rw [← hw5]; exact (Below.refl _ w4).alloc (Nat.le_refl _) _
  have hr5 : w5.heap[w4.heap.size]? = some (.cells #[.int .i64 0, .slice a4 3 c4] 56 (0, 0)) := by rw [← hw5]; exact heap_alloc_new w4 _
  have hb35 := hb4.trans (hb45.mono hb4.size)
  have hr3 := (hb35.block _ (Array.getElem?_eq_some_iff.1 H3.out.2.2).1).trans H3.out.2.2
  have k0 := box_cell0 hr3
  have k1 := box_cell1 hr3
  have H5 := Lib.hid (And.intro (H3.out.1.below hb35) (And.intro (H3.out.2.1.trans (hb35.mono H3.out.2.1.size)) (And.intro hr5 (hz4.below hb45))))
  have HSB := Lib.hid (fun (wx : World) (hf1 : FacV wx 3 (.slice a2 2 c2) [[1, 0, 2], [2, 0, 1]]) (b : Option Addr) (hf2 : FacV wx 3 (.slice b 2 2) [[1, 0, 2], [2, 0, 1]]) => sameBraid_yes 0 3 2 c2 2 a2 b [[1, 0, 2], [2, 0, 1]] wx rfl (by omega) (by omega) hf1 hf2)
  clear hb4 hb45 hr5 hb35 hr3 hz4
  go_wp2_with (fail)
  have hba : Below w5.heap.size w5 (((w5.alloc (.cells #[.int .i64 1, .int .i64 0, .int .i64 2] 3)).alloc (.cells #[.int .i64 2, .int .i64 0, .int .i64 1] 3)).alloc (.cells #[.slice (some ⟨w5.heap.size, 0, none⟩) 3 3, .slice (some ⟨w5.heap.size + 1, 0, none⟩) 3 3] 22)) := (((Below.refl _ w5).alloc (Nat.le_refl _) _).alloc (by simp) _).alloc (by simp; omega) _
  refine (HSB.out _ (H5.out.1.below hba) _ (wantFac w5)).mono ?_
  rintro e w6 ⟨rfl, hb6⟩
  have hb56 := hba.trans (hb6.mono hba.size)
  have hr6 := (hb56.block _ (Array.getElem?_eq_some_iff.1 H5.out.2.2.1).1).trans H5.out.2.2.1
  have q0 := box_cell0 hr6
  have q1 := box_cell1 hr6
  have H6 := Lib.hid (And.intro (H5.out.2.1.trans (hb56.mono H5.out.2.1.size)) (H5.out.2.2.2.below hb56))
  clear hba hb6 hb56 hr6 k0 k1
  go_wp2_with (fail)
  have hbc : Below w6.heap.size w6 (w6.alloc (.cells #[.int .i64 1, .int .i64 (-1), .int .i64 1] 3)) := (Below.refl _ w6).alloc (Nat.le_refl _) _
  refine (samePoly_yes 0 a4 (some ⟨w6.heap.size, 0, none⟩) 3 c4 3 [1, -1, 1] _ rfl (by omega) (H6.out.2.below hbc) (intsNew w6 [1, -1, 1])).mono ?_
  rintro e w7 ⟨rfl, hb7⟩
  have H7 := Lib.hid (H6.out.1.trans ((hbc.trans (hb7.mono hbc.size)).mono H6.out.1.size))
  clear hbc hb7
  go_wp2_with (fail)
  go_ret
  exact ⟨rfl, H7.out⟩

end Go.Proofs.Ytbcggbmjbljnfaa
