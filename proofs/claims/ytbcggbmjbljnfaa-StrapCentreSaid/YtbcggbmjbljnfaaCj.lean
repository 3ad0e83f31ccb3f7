/-
  strap: 'matrices' and its letter, 'ofWord' for matrices, of letters above 0.
-/
import Derived.Test.YtbcggbmjbljnfaaCi
namespace Go.Proofs.Ytbcggbmjbljnfaa
open Go.RowKit Go.Sort

theorem unitN_wi (B : Int) (hB : 1 ≤ B) (i j : Nat) : Wi 0 B (unitN i j) := by
  unfold unitN; split
  · exact ⟨by simp, by simp; omega⟩
  · exact ⟨by simp, by simp; omega⟩
theorem letPN_wi (k i j : Nat) : Wi 0 2 (letPN k i j) := by
  unfold letPN updM
  split
  · exact ⟨by simp, by simp⟩
  · split
    · exact ⟨by simp, by simp⟩
    · split
      · exact ⟨by simp, by simp⟩
      · split
        · exact ⟨by simp, by simp⟩
        · exact unitN_wi 2 (by omega) i j
/-- The matrix of the first letters. -/
def matK (n : Nat) (ws : List Int) (k : Nat) : Nat → Nat → Pol := (ws.take k).foldl (fun M z => mulM n M (letPN (z.toNat - 1))) unitN
theorem matK_succ {n : Nat} {ws : List Int} {k : Nat} (h : k < ws.length) : matK n ws (k + 1) = mulM n (matK n ws k) (letPN ((ws[k]?.getD 0).toNat - 1)) := by
  have e : ws.take (k + 1) = ws.take k ++ [ws[k]] := by simp
  unfold matK
  rw [e, List.foldl_append, List.getElem?_eq_getElem h]
  rfl
/-- A store into a block of another kind. -/
theorem MatC.other {w : World} {g n H i : Nat} {M : Nat → Nat → Pol} {v : Value} {cs : Array Value} {T : TypeId} {fz : Nat × Nat} (h : MatC w g n M) (hH : w.heap[H]? = some (.cells cs T fz)) (h1 : T ≠ 3) (h2 : T ≠ 128) (h3 : T ≠ 130) : MatC (w.setCell ⟨H, i, none⟩ v) g n M := by
  obtain ⟨⟨cs', x1, x2, x3⟩, x4⟩ := h
  have hne : g ≠ H := fun e => by rw [e, hH] at x1; cases x1; exact h2 rfl
  refine ⟨⟨cs', (RowKit.Below.heap_setCell w ⟨H, i, none⟩ v g (by exact hne)).trans x1, x2, x3⟩, fun j hj => ?_⟩
  obtain ⟨cr, y1, _⟩ := id (x4 j hj)
  exact (x4 j hj).other hH h1 (fun e => by rw [e, hH] at y1; cases y1; exact h3 rfl)
theorem matK_wi {n : Nat} {ws : List Int} : ∀ {k}, k ≤ ws.length → ∀ i, i < n → ∀ j, j < n → Wi 0 (2 * k + 1) (matK n ws k i j)
  | 0, _, i, _, j, _ => by simp only [matK, List.take_zero, List.foldl_nil]; exact unitN_wi _ (by omega) i j
  | k + 1, hk, i, hi, j, hj => by
    rw [matK_succ (by omega)]
    have := mulAcc_wi (A := 0) (B := 2 * k + 1) (A' := 0) (B' := 2) (by omega) (by omega) (by omega) (by omega) (matK_wi (n := n) (ws := ws) (k := k) (by omega)) (fun i _ j _ => letPN_wi ((ws[k]?.getD 0).toNat - 1) i j) hi hj (Nat.le_refl n)
    unfold mulM
    have e : ((2 * (k : Int) + 1) + 2) = 2 * ((k + 1 : Nat) : Int) + 1 := by omega
    rw [e, Int.add_zero] at this
    exact this

set_option maxRecDepth 100000 in
set_option maxHeartbeats 1000000 in
theorem matLetter_any (n i b : Nat) (w : World) (hn : n ≤ 100) (hi : i + 1 < n) (hc : w.cell? ⟨b, 0, none⟩ = some (.int .i64 (n : Int))) :
    Calls Try.prog 98 #[.int .i64 ((i : Int) + 1), .pointer (some ⟨b, 0, none⟩)] w (GivesM n (letPN i) w) := by
  have HL := Lib.hid (letterMat_pos n i w hn hi)
  go_enter Try.func98, Try.ntmps98
  go_wp2_with (fail)
  refine HL.out.mono ?_
  rintro e w1 ⟨g, rfl, hg, hm, hb⟩
  have H1 := Lib.hid (And.intro hg (And.intro hm hb))
  clear hg hm hb
  go_wp2_with (fail)
  go_ret
  exact ⟨g, rfl, H1.out.1, H1.out.2.1, H1.out.2.2⟩

/-- The matrices' image. -/
def imgM (n g b : Nat) : Value := .agg #[.slice (some ⟨g, 0, none⟩) n n, .func (.func 98) #[] #[.pointer (some ⟨b, 0, none⟩)], .func (.func 100) #[] #[]]
set_option maxRecDepth 100000 in
set_option maxHeartbeats 1000000 in
theorem matrices_any (n : Nat) (w : World) (hn : n ≤ 1000) :
    Calls Try.prog 71 #[.int .i64 (n : Int)] w (fun e w' => ∃ g b, e = .returned (imgM n g b) ∧ MatC w' g n unitN ∧ w'.cell? ⟨b, 0, none⟩ = some (.int .i64 (n : Int)) ∧ Below w.heap.size w w') := by
  obtain ⟨w0, hw0⟩ : ∃ w0, w0 = (w.alloc (.cells #[.int .i64 (n : Int)] 3)).alloc (.cells #[.slice none 0 0, .nilFunc, .nilFunc] 107) := ⟨_, rfl⟩
  have hs0 : w0.heap.size = w.heap.size + 1 + 1 := by rw [hw0]; simp
  have hr0 : w0.heap[w.heap.size]? = some (.cells #[.int .i64 (n : Int)] 3 (0, 0)) := by
    rw [hw0, Below.heap_alloc _ _ _ (by simp)]; exact heap_alloc_new w _
  have hr1 : w0.heap[w.heap.size + 1]? = some (.cells #[.slice none 0 0, .nilFunc, .nilFunc] 107 (0, 0)) := by
    rw [hw0, show ∀ o, w.heap.size + 1 = (w.alloc o).heap.size by simp]; exact heap_alloc_new _ _
  have hb0 : Below w.heap.size w w0 := by rw [hw0]; exact ((Below.refl _ w).alloc (Nat.le_refl _) _).alloc (by simp) _
  have H0 := Lib.hid (And.intro hb0 (And.intro hr0 hr1))
  have HW0 := Lib.hid hw0
  have HU := Lib.hid (unit_any n w0 hn)
  have c0 : w0.cell? ⟨w.heap.size, 0, none⟩ = some (.int .i64 (n : Int)) := by simp [World.cell?, hr0]
  clear hb0 hr0 hr1 hw0
  go_enter Try.func71, Try.ntmps71
  go_wp2_with (fail)
  try rw [← HW0.out]
  refine HU.out.mono ?_
  rintro e w1 ⟨g, rfl, hg, hm, hb⟩
  have hr1 := (hb.block _ (by omega)).trans H0.out.2.2
  have H1 := Lib.hid (And.intro hg (And.intro hm (And.intro hb hr1)))
  have k0 : w1.cell? ⟨w.heap.size + 1, 0, none⟩ = some (.slice none 0 0) := by simp [World.cell?, hr1]
  have k1 : w1.cell? ⟨w.heap.size + 1, 1, none⟩ = some .nilFunc := by simp [World.cell?, hr1]
  have k2 : w1.cell? ⟨w.heap.size + 1, 2, none⟩ = some .nilFunc := by simp [World.cell?, hr1]
  have f0 := row_free hr1 0
  have f1 := row_free hr1 1
  have f2 := row_free hr1 2
  clear hg hm hb hr1
  go_wp2_with (fail)
  have y1 := heap_setCell_self (i := 0) H1.out.2.2.2 (.slice (some ⟨g, 0, none⟩) n n)
  have y2 := heap_setCell_self (i := 1) y1 (.func (.func 98) #[] #[.pointer (some ⟨w.heap.size, 0, none⟩)])
  have y3 := heap_setCell_self (i := 2) y2 (.func (.func 100) #[] #[])
  refine bodyPost_ret_by (results_cell_row (P := Try.prog) rfl _ _ (w.heap.size + 1) 107 #[.slice (some ⟨g, 0, none⟩) n n, .func (.func 98) #[] #[.pointer (some ⟨w.heap.size, 0, none⟩)], .func (.func 100) #[] #[]] (0, 0) _ rfl y3 Try.underlying107 rfl (by kernel_rfl)) rfl ?_
  have hm := ((H1.out.2.1.other (i := 0) (v := .slice (some ⟨g, 0, none⟩) n n) H1.out.2.2.2 (by decide) (by decide) (by decide)).other (i := 1) (v := .func (.func 98) #[] #[.pointer (some ⟨w.heap.size, 0, none⟩)]) y1 (by decide) (by decide) (by decide)).other (i := 2) (v := .func (.func 100) #[] #[]) y2 (by decide) (by decide) (by decide)
  have hc1 := (H1.out.2.2.1.cell (p := ⟨w.heap.size, 0, none⟩) (by simp; omega)).trans c0
  refine ⟨g, w.heap.size, rfl, hm, ?_, (((H0.out.1.trans (H1.out.2.2.1.mono H0.out.1.size)).setCell (p := ⟨w.heap.size + 1, 0, none⟩) (by simp) _).setCell (p := ⟨w.heap.size + 1, 1, none⟩) (by simp) _).setCell (p := ⟨w.heap.size + 1, 2, none⟩) (by simp) _⟩
  rw [cell_other (by omega), cell_other (by omega), cell_other (by omega)]
  exact hc1

theorem box3_1 {w : World} {H : Nat} {x0 x1 x2 : Value} {T : TypeId} (h : w.heap[H]? = some (.cells #[x0, x1, x2] T (0, 0))) : w.cell? ⟨H, 1, none⟩ = some x1 ∧ w.cell? ⟨H, 2, none⟩ = some x2 := by simp [World.cell?, h]
set_option maxRecDepth 100000 in
set_option maxHeartbeats 1000000 in
theorem ofWordM_any (n g0 b m cap : Nat) (a : Option Addr) (ws : List Int) (w : World) (hn : n ≤ 100) (hm : m ≤ 60) (hl : ws.length = m) (hz : Ints w a ws) (hws : ∀ z ∈ ws, 0 < z ∧ z < n) (hg : MatC w g0 n unitN) (hc : w.cell? ⟨b, 0, none⟩ = some (.int .i64 (n : Int))) :
    Calls Try.prog 72 #[imgM n g0 b, .slice a m cap] w (fun e w' => ∃ g, e = .returned (.slice (some ⟨g, 0, none⟩) n n) ∧ MatC w' g n (matK n ws m) ∧ Below w.heap.size w w') := by
  unfold imgM
  obtain ⟨w0, hw0⟩ : ∃ w0, w0 = w.alloc (.cells #[.slice (some ⟨g0, 0, none⟩) n n, .func (.func 98) #[] #[.pointer (some ⟨b, 0, none⟩)], .func (.func 100) #[] #[]] 107) := ⟨_, rfl⟩
  have hb0 : Below w.heap.size w w0 := by rw [hw0]; exact (Below.refl _ w).alloc (Nat.le_refl _) _
  have hr0 : w0.heap[w.heap.size]? = some (.cells #[.slice (some ⟨g0, 0, none⟩) n n, .func (.func 98) #[] #[.pointer (some ⟨b, 0, none⟩)], .func (.func 100) #[] #[]] 107 (0, 0)) := by rw [hw0]; exact heap_alloc_new w _
  have hs0 : w0.heap.size = w.heap.size + 1 := by rw [hw0]; simp
  have H0 := Lib.hid (And.intro hb0 hr0)
  have HW0 := Lib.hid hw0
  have HX := Lib.hid hz.at
  have HL := Lib.hid hl
  have HWS := Lib.hid hws
  have HC := Lib.hid hc
  have hcb := World.block_lt_of_cell? w _ hc
  have HI : Hid (Below w0.heap.size w0 w0 ∧ ∃ g, .slice (some ⟨g0, 0, none⟩) n n = Value.slice (some ⟨g, 0, none⟩) n n ∧ MatC w0 g n (matK n ws 0)) := Lib.hid ⟨Below.refl _ _, g0, rfl, by simpa [matK] using hg.below hb0⟩
  clear hw0 hb0 hr0 hz hl hws hc hg
  go_enter Try.func72, Try.ntmps72
  go_wp2_with (fail)
  try rw [← HW0.out]
  go_loopw [12, 5] (fun v v5 wr => ∃ k : Nat, k ≤ m ∧ v = .int .i64 k ∧ Hid (Below w0.heap.size w0 wr ∧ ∃ g, v5 = Value.slice (some ⟨g, 0, none⟩) n n ∧ MatC wr g n (matK n ws k))) (fun v _ _ => m - (intOf v).toNat)
  case atStart => exact ⟨0, Nat.zero_le _, rfl, HI⟩
  case round =>
    clear HI
    obtain ⟨k, hk, rfl, HR⟩ := hrel
    obtain ⟨hb, g, rfl, hmk⟩ := HR.out
    have HB := Lib.hid hb
    have HM := Lib.hid hmk
    clear hb hmk HR
    by_cases hlt : k < m
    · have hkI : (k : Int) < (m : Int) := by omega
      have hkL : k < ws.length := by rw [HL.out]; exact hlt
      have hbw := H0.out.1.trans (HB.out.mono (B' := w.heap.size) (by omega))
      rcases HX.out with h | ⟨ba, oa, rfl, hca⟩
      · rw [h] at hkL; simp at hkL
      have c0 := (hbw.cell (p := ⟨ba, oa + k, none⟩) (World.block_lt_of_cell? w _ (hca k hkL))).trans (hca k hkL)
      have hzv := HWS.out (ws[k]?.getD 0) (by rw [List.getElem?_eq_getElem hkL, Option.getD_some]; exact List.getElem_mem _)
      have hsc := matK_succ (n := n) hkL
      have hwi := matK_wi (n := n) (ws := ws) (k := k) (by omega)
      obtain ⟨i, hi⟩ : ∃ i : Nat, ws[k]?.getD 0 = (i : Int) + 1 := ⟨(ws[k]?.getD 0).toNat - 1, by omega⟩
      rw [hi] at c0 hzv hsc
      rw [show ((i : Int) + 1).toNat - 1 = i by omega] at hsc
      have hin : i + 1 < n := by omega
      have HLE : Hid (∀ wx, Below wr.heap.size wr wx → Calls Try.prog 98 #[.int .i64 ((i : Int) + 1), .pointer (some ⟨b, 0, none⟩)] wx (fun e w' => ∃ g5, e = .returned (.slice (some ⟨g5, 0, none⟩) n n) ∧ MatC w' g5 n (letPN i) ∧ Below wr.heap.size wr w')) := Lib.hid (fun wx hb => by
        refine (matLetter_any n i b wx hn hin ?_).mono ?_
        · have hw := hbw.trans (hb.mono (B' := w.heap.size) hbw.size)
          exact (hw.cell (p := ⟨b, 0, none⟩) hcb).trans HC.out
        · rintro e w' ⟨g5, rfl, _, h2, h3⟩
          exact ⟨g5, rfl, h2, hb.trans (h3.mono hb.size)⟩)
      have HPR : Hid (∀ g5 wx, Below wr.heap.size wr wx → MatC wx g5 n (letPN i) → Calls Try.prog 100 #[.slice (some ⟨g, 0, none⟩) n n, .slice (some ⟨g5, 0, none⟩) n n] wx (fun e w' => ∃ g6, e = .returned (.slice (some ⟨g6, 0, none⟩) n n) ∧ MatC w' g6 n (matK n ws (k + 1)) ∧ Below wr.heap.size wr w')) := Lib.hid (fun g5 wx hb hm5 => by
        refine (matTimes_any g g5 n 0 (2 * k + 1) 0 2 (matK n ws k) (letPN i) wx hn (by omega) (by omega) (by omega) (by omega) (HM.out.below hb) hm5 hwi (fun a _ b _ => letPN_wi i a b)).mono ?_
        rw [← hsc]
        rintro e w' ⟨g6, rfl, _, h2, h3⟩
        exact ⟨g6, rfl, h2, hb.trans (h3.mono hb.size)⟩)
      have him := (HB.out.block w.heap.size (by omega)).trans H0.out.2
      have r1 : wr.cell? ⟨w.heap.size, 1, none⟩ = some (.func (.func 98) #[] #[.pointer (some ⟨b, 0, none⟩)]) ∧ wr.cell? ⟨w.heap.size, 2, none⟩ = some (.func (.func 100) #[] #[]) := box3_1 him
      have r1d : wr.drew.cell? ⟨w.heap.size, 1, none⟩ = some (.func (.func 98) #[] #[.pointer (some ⟨b, 0, none⟩)]) ∧ wr.drew.cell? ⟨w.heap.size, 2, none⟩ = some (.func (.func 100) #[] #[]) := r1
      have HIM := Lib.hid him
      have hszr := HB.out.size
      have B0 := Below.refl wr.heap.size wr
      have B0d : Below wr.heap.size wr wr.drew := B0.drew
      clear hca hzv hsc hwi hi him hbw hkL
      go_wp2_with (fail)
      go_region_held3 (fun w' => w'.cell? ⟨w.heap.size, 1, none⟩ = some (.func (.func 98) #[] #[.pointer (some ⟨b, 0, none⟩)]) ∧ w'.cell? ⟨w.heap.size, 2, none⟩ = some (.func (.func 100) #[] #[]))
        (first | with_reducible assumption)
        (first
          | (go_at_call 98; refine (HLE.out _ (by first | with_reducible exact B0 | with_reducible exact B0d)).mono ?_; rintro e w5 ⟨g5, rfl, hm5, hb5⟩; have K5 := box3_1 ((hb5.block w.heap.size (by omega)).trans HIM.out); have H5 := Lib.hid (And.intro hm5 hb5); clear hm5 hb5)
          | (go_at_call 100; refine (HPR.out _ _ H5.out.2 H5.out.1).mono ?_; rintro e w6 ⟨g6, rfl, hm6, hb6⟩; have K6 := box3_1 ((hb6.block w.heap.size (by omega)).trans HIM.out); have H6 := Lib.hid (And.intro hm6 hb6); clear hm6 hb6))
      all_goals
        go_wp2_with (fail)
        exact ⟨⟨k + 1, by omega, by go_num, Lib.hid ⟨HB.out.trans (H6.out.2.mono HB.out.size), g6, rfl, H6.out.1⟩⟩, by simp [intOf]; omega⟩
    · obtain rfl : k = m := by omega
      go_wp2_with (fail)
      go_ret
      exact ⟨g, rfl, HM.out, H0.out.1.trans (HB.out.mono (by omega))⟩

end Go.Proofs.Ytbcggbmjbljnfaa
