/-
  strap: 'permutations', 'ofWord' for permutations, 'Perm', 'Loops'.
-/
import Derived.Test.YtbcggbmjbljnfaaDb
namespace Go.Proofs.Ytbcggbmjbljnfaa
open Go.RowKit Go.Sort

/-- The permutation of the first letters. -/
def permK (n : Nat) (ws : List Int) (k : Nat) : List Nat := (ws.take k).foldl (fun p z => thenN p (exchN n z.natAbs)) (idN n)
theorem permK_succ {n : Nat} {ws : List Int} {k : Nat} (h : k < ws.length) : permK n ws (k + 1) = thenN (permK n ws k) (exchN n (ws[k]?.getD 0).natAbs) := by
  have e : ws.take (k + 1) = ws.take k ++ [ws[k]] := by simp
  unfold permK
  rw [e, List.foldl_append, List.getElem?_eq_getElem h]
  rfl
theorem idN_in (n : Nat) : InN n (idN n) := ⟨by simp [idN], fun x hx => List.mem_range.1 hx⟩
theorem permK_in {n : Nat} {ws : List Int} (hws : ws.all (letS n) = true) : ∀ {k}, k ≤ ws.length → InN n (permK n ws k)
  | 0, _ => by simp only [permK, List.take_zero, List.foldl_nil]; exact idN_in n
  | k + 1, hk => by
    rw [permK_succ (by omega)]
    have hz := letS_iff.1 (List.all_eq_true.1 hws (ws[k]?.getD 0) (by rw [List.getElem?_eq_getElem (by omega), Option.getD_some]; exact List.getElem_mem _))
    exact thenN_in (permK_in hws (by omega)) (exchN_in (by omega) (by omega))

set_option maxRecDepth 100000 in
set_option maxHeartbeats 1000000 in
theorem permLetter_any (n b : Nat) (z : Int) (w : World) (hn : n ≤ 1000) (hz : letS n z = true) (hc : w.cell? ⟨b, 0, none⟩ = some (.int .i64 (n : Int))) :
    Calls Try.prog 82 #[.int .i64 z, .pointer (some ⟨b, 0, none⟩)] w (GivesP (exchN n z.natAbs) w) := by
  obtain ⟨hz0, hz1, hz2⟩ := letS_iff.1 hz
  have HX := Lib.hid (exchange_any n z.natAbs z w hn (by omega) (by omega) (by omega))
  unfold GivesP at HX ⊢
  clear hz hz0 hz1 hz2
  go_enter Try.func82, Try.ntmps82
  go_wp2_with (fail)
  refine HX.out.mono ?_
  rintro e w1 ⟨g, rfl, hg, hr, hb⟩
  have H1 := Lib.hid (And.intro hg (And.intro hr hb))
  clear hg hr hb
  go_wp2_with (fail)
  go_ret
  exact ⟨g, rfl, H1.out⟩

/-- The permutations' image. -/
def imgP (n g b : Nat) : Value := .agg #[.slice (some ⟨g, 0, none⟩) n n, .func (.func 82) #[] #[.pointer (some ⟨b, 0, none⟩)], .func (.func 84) #[] #[]]
set_option maxRecDepth 100000 in
set_option maxHeartbeats 1000000 in
theorem permutations_any (n : Nat) (w : World) (hn : n ≤ 1000) :
    Calls Try.prog 53 #[.int .i64 (n : Int)] w (fun e w' => ∃ g b, e = .returned (imgP n g b) ∧ Nats w' (some ⟨g, 0, none⟩) (idN n) ∧ w'.cell? ⟨b, 0, none⟩ = some (.int .i64 (n : Int)) ∧ Below w.heap.size w w') := by
  obtain ⟨w0, hw0⟩ : ∃ w0, w0 = (w.alloc (.cells #[.int .i64 (n : Int)] 3)).alloc (.cells #[.slice none 0 0, .nilFunc, .nilFunc] 84) := ⟨_, rfl⟩
  have hs0 : w0.heap.size = w.heap.size + 1 + 1 := by rw [hw0]; simp
  have hr0 : w0.heap[w.heap.size]? = some (.cells #[.int .i64 (n : Int)] 3 (0, 0)) := by
    rw [hw0, Below.heap_alloc _ _ _ (by simp)]; exact heap_alloc_new w _
  have hr1 : w0.heap[w.heap.size + 1]? = some (.cells #[.slice none 0 0, .nilFunc, .nilFunc] 84 (0, 0)) := by
    rw [hw0, show ∀ o, w.heap.size + 1 = (w.alloc o).heap.size by simp]; exact heap_alloc_new _ _
  have hb0 : Below w.heap.size w w0 := by rw [hw0]; exact ((Below.refl _ w).alloc (Nat.le_refl _) _).alloc (by simp) _
  have H0 := Lib.hid (And.intro hb0 (And.intro hr0 hr1))
  have HW0 := Lib.hid hw0
  have hu := identity_any n w0 hn
  unfold GivesP at hu
  rw [(idN_in n).1] at hu
  have HU := Lib.hid hu
  have c0 : w0.cell? ⟨w.heap.size, 0, none⟩ = some (.int .i64 (n : Int)) := by simp [World.cell?, hr0]
  clear hb0 hr0 hr1 hw0 hu
  go_enter Try.func53, Try.ntmps53
  go_wp2_with (fail)
  try rw [← HW0.out]
  refine HU.out.mono ?_
  rintro e w1 ⟨g, rfl, hg, hm, hb⟩
  have hr1 := (hb.block _ (by omega)).trans H0.out.2.2
  have H1 := Lib.hid (And.intro hg (And.intro hm (And.intro hb hr1)))
  have k0 : w1.cell? ⟨w.heap.size + 1, 0, none⟩ = some (.slice none 0 0) := by simp [World.cell?, hr1]
  have k1 : w1.cell? ⟨w.heap.size + 1, 1, none⟩ = some .nilFunc := by simp [World.cell?, hr1]
  have k2 : w1.cell? ⟨w.heap.size + 1, 2, none⟩ = some .nilFunc := by simp [World.cell?, hr1]
  have f0 := row_free hr1 0
  have f1 := row_free hr1 1
  have f2 := row_free hr1 2
  clear hg hm hb hr1
  go_wp2_with (fail)
  have y1 := heap_setCell_self (i := 0) H1.out.2.2.2 (.slice (some ⟨g, 0, none⟩) n n)
  have y2 := heap_setCell_self (i := 1) y1 (.func (.func 82) #[] #[.pointer (some ⟨w.heap.size, 0, none⟩)])
  have y3 := heap_setCell_self (i := 2) y2 (.func (.func 84) #[] #[])
  refine bodyPost_ret_by (results_cell_row (P := Try.prog) rfl _ _ (w.heap.size + 1) 84 #[.slice (some ⟨g, 0, none⟩) n n, .func (.func 82) #[] #[.pointer (some ⟨w.heap.size, 0, none⟩)], .func (.func 84) #[] #[]] (0, 0) _ rfl y3 Try.underlying84 rfl (by kernel_rfl)) rfl ?_
  have hge := H1.out.1
  have hoff : Off (w.heap.size + 1) (some ⟨g, 0, none⟩) := fun x hx => by cases hx; simp; omega
  have hc1 := (H1.out.2.2.1.cell (p := ⟨w.heap.size, 0, none⟩) (by simp; omega)).trans c0
  refine ⟨g, w.heap.size, rfl, ((H1.out.2.1.nats.setCell hoff).setCell hoff).setCell hoff, ?_, (((H0.out.1.trans (H1.out.2.2.1.mono H0.out.1.size)).setCell (p := ⟨w.heap.size + 1, 0, none⟩) (by simp) _).setCell (p := ⟨w.heap.size + 1, 1, none⟩) (by simp) _).setCell (p := ⟨w.heap.size + 1, 2, none⟩) (by simp) _⟩
  rw [cell_other (by omega), cell_other (by omega), cell_other (by omega)]
  exact hc1

set_option maxRecDepth 100000 in
set_option maxHeartbeats 1000000 in
theorem ofWordP_any (n g0 b m cap : Nat) (a : Option Addr) (ws : List Int) (w : World) (hn : n ≤ 1000) (hm : m ≤ 60) (hl : ws.length = m) (hz : Ints w a ws) (hws : ws.all (letS n) = true) (hg : Nats w (some ⟨g0, 0, none⟩) (idN n)) (hc : w.cell? ⟨b, 0, none⟩ = some (.int .i64 (n : Int))) :
    Calls Try.prog 54 #[imgP n g0 b, .slice a m cap] w (fun e w' => ∃ g, e = .returned (.slice (some ⟨g, 0, none⟩) n n) ∧ Nats w' (some ⟨g, 0, none⟩) (permK n ws m) ∧ Below w.heap.size w w') := by
  unfold imgP
  obtain ⟨w0, hw0⟩ : ∃ w0, w0 = w.alloc (.cells #[.slice (some ⟨g0, 0, none⟩) n n, .func (.func 82) #[] #[.pointer (some ⟨b, 0, none⟩)], .func (.func 84) #[] #[]] 84) := ⟨_, rfl⟩
  have hb0 : Below w.heap.size w w0 := by rw [hw0]; exact (Below.refl _ w).alloc (Nat.le_refl _) _
  have hr0 : w0.heap[w.heap.size]? = some (.cells #[.slice (some ⟨g0, 0, none⟩) n n, .func (.func 82) #[] #[.pointer (some ⟨b, 0, none⟩)], .func (.func 84) #[] #[]] 84 (0, 0)) := by rw [hw0]; exact heap_alloc_new w _
  have hs0 : w0.heap.size = w.heap.size + 1 := by rw [hw0]; simp
  have H0 := Lib.hid (And.intro hb0 hr0)
  have HW0 := Lib.hid hw0
  have HX := Lib.hid hz.at
  have HL := Lib.hid hl
  have HWS := Lib.hid hws
  have HC := Lib.hid hc
  have hcb := World.block_lt_of_cell? w _ hc
  have HI : Hid (Below w0.heap.size w0 w0 ∧ ∃ g, .slice (some ⟨g0, 0, none⟩) n n = Value.slice (some ⟨g, 0, none⟩) n n ∧ Nats w0 (some ⟨g, 0, none⟩) (permK n ws 0)) := Lib.hid ⟨Below.refl _ _, g0, rfl, by simpa [permK] using hg.below hb0⟩
  clear hw0 hb0 hr0 hz hl hws hc hg
  go_enter Try.func54, Try.ntmps54
  go_wp2_with (fail)
  try rw [← HW0.out]
  go_loopw [12, 5] (fun v v5 wr => ∃ k : Nat, k ≤ m ∧ v = .int .i64 k ∧ Hid (Below w0.heap.size w0 wr ∧ ∃ g, v5 = Value.slice (some ⟨g, 0, none⟩) n n ∧ Nats wr (some ⟨g, 0, none⟩) (permK n ws k))) (fun v _ _ => m - (intOf v).toNat)
  case atStart => exact ⟨0, Nat.zero_le _, rfl, HI⟩
  case round =>
    clear HI
    obtain ⟨k, hk, rfl, HR⟩ := hrel
    obtain ⟨hb, g, rfl, hmk⟩ := HR.out
    have HB := Lib.hid hb
    have HM := Lib.hid hmk
    clear hb hmk HR
    by_cases hlt : k < m
    · have hkI : (k : Int) < (m : Int) := by omega
      have hkL : k < ws.length := by rw [HL.out]; exact hlt
      have hbw := H0.out.1.trans (HB.out.mono (B' := w.heap.size) (by omega))
      rcases HX.out with h | ⟨ba, oa, rfl, hca⟩
      · rw [h] at hkL; simp at hkL
      have c0 := (hbw.cell (p := ⟨ba, oa + k, none⟩) (World.block_lt_of_cell? w _ (hca k hkL))).trans (hca k hkL)
      have hzv := List.all_eq_true.1 HWS.out (ws[k]?.getD 0) (by rw [List.getElem?_eq_getElem hkL, Option.getD_some]; exact List.getElem_mem _)
      have hsc := permK_succ (n := n) hkL
      have hpi := permK_in (n := n) HWS.out (k := k) (by omega)
      obtain ⟨z, hz⟩ : ∃ z, ws[k]?.getD 0 = z := ⟨_, rfl⟩
      rw [hz] at c0 hzv hsc
      have hzi := letS_iff.1 hzv
      have hei := exchN_in (n := n) (k := z.natAbs) (by omega) (by omega)
      obtain ⟨p, hp⟩ : ∃ p, permK n ws k = p := ⟨_, rfl⟩
      have HMP := Lib.hid HM.out
      rw [hp] at hsc hpi HMP
      have htl := (thenN_in hpi hei).1
      have HLE : Hid (∀ wx, Below wr.heap.size wr wx → Calls Try.prog 82 #[.int .i64 z, .pointer (some ⟨b, 0, none⟩)] wx (fun e w' => ∃ g5, e = .returned (.slice (some ⟨g5, 0, none⟩) n n) ∧ Nats w' (some ⟨g5, 0, none⟩) (exchN n z.natAbs) ∧ Below wr.heap.size wr w')) := Lib.hid (fun wx hb => by
        refine (permLetter_any n b z wx hn hzv ?_).mono ?_
        · have hw := hbw.trans (hb.mono (B' := w.heap.size) hbw.size)
          exact (hw.cell (p := ⟨b, 0, none⟩) hcb).trans HC.out
        · rintro e w' ⟨g5, rfl, _, h2, h3⟩
          exact ⟨g5, by rw [hei.1], h2.nats, hb.trans (h3.mono hb.size)⟩)
      have HPR : Hid (∀ g5 wx, Below wr.heap.size wr wx → Nats wx (some ⟨g5, 0, none⟩) (exchN n z.natAbs) → Calls Try.prog 84 #[.slice (some ⟨g, 0, none⟩) n n, .slice (some ⟨g5, 0, none⟩) n n] wx (fun e w' => ∃ g6, e = .returned (.slice (some ⟨g6, 0, none⟩) n n) ∧ Nats w' (some ⟨g6, 0, none⟩) (permK n ws (k + 1)) ∧ Below wr.heap.size wr w')) := Lib.hid (fun g5 wx hb hm5 => by
        refine (then_any (some ⟨g, 0, none⟩) (some ⟨g5, 0, none⟩) n n n p (exchN n z.natAbs) wx hpi hei.1 hn (HMP.out.below hb) hm5).mono ?_
        rw [hsc]
        rintro e w' ⟨g6, rfl, _, h2, h3⟩
        exact ⟨g6, by rw [htl], h2.nats, hb.trans (h3.mono hb.size)⟩)
      have him := (HB.out.block w.heap.size (by omega)).trans H0.out.2
      have r1 : wr.cell? ⟨w.heap.size, 1, none⟩ = some (.func (.func 82) #[] #[.pointer (some ⟨b, 0, none⟩)]) ∧ wr.cell? ⟨w.heap.size, 2, none⟩ = some (.func (.func 84) #[] #[]) := box3_1 him
      have r1d : wr.drew.cell? ⟨w.heap.size, 1, none⟩ = some (.func (.func 82) #[] #[.pointer (some ⟨b, 0, none⟩)]) ∧ wr.drew.cell? ⟨w.heap.size, 2, none⟩ = some (.func (.func 84) #[] #[]) := r1
      have HIM := Lib.hid him
      have hszr := HB.out.size
      have B0 := Below.refl wr.heap.size wr
      have B0d : Below wr.heap.size wr wr.drew := B0.drew
      clear hca hzv hsc hpi hz him hbw hkL hzi hei hp htl
      go_wp2_with (fail)
      go_region_held3 (fun w' => w'.cell? ⟨w.heap.size, 1, none⟩ = some (.func (.func 82) #[] #[.pointer (some ⟨b, 0, none⟩)]) ∧ w'.cell? ⟨w.heap.size, 2, none⟩ = some (.func (.func 84) #[] #[]))
        (first | with_reducible assumption)
        (first
          | (go_at_call 82; refine (HLE.out _ (by first | with_reducible exact B0 | with_reducible exact B0d)).mono ?_; rintro e w5 ⟨g5, rfl, hm5, hb5⟩; have K5 := box3_1 ((hb5.block w.heap.size (by omega)).trans HIM.out); have H5 := Lib.hid (And.intro hm5 hb5); clear hm5 hb5)
          | (go_at_call 84; refine (HPR.out _ _ H5.out.2 H5.out.1).mono ?_; rintro e w6 ⟨g6, rfl, hm6, hb6⟩; have K6 := box3_1 ((hb6.block w.heap.size (by omega)).trans HIM.out); have H6 := Lib.hid (And.intro hm6 hb6); clear hm6 hb6))
      all_goals
        go_wp2_with (fail)
        exact ⟨⟨k + 1, by omega, by go_num, Lib.hid ⟨HB.out.trans (H6.out.2.mono HB.out.size), g6, rfl, H6.out.1⟩⟩, by simp [intOf]; omega⟩
    · obtain rfl : k = m := by omega
      go_wp2_with (fail)
      go_ret
      exact ⟨g, rfl, HM.out, H0.out.1.trans (HB.out.mono (by omega))⟩

end Go.Proofs.Ytbcggbmjbljnfaa
