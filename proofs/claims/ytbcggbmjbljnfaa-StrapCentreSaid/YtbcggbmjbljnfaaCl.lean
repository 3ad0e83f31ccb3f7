/-
  strap: 'determinant' of one row.
-/
import Derived.Test.YtbcggbmjbljnfaaCk
namespace Go.Proofs.Ytbcggbmjbljnfaa
open Go.RowKit Go.Sort

theorem cell2_below {w w' : World} {a b : Addr} {u v : Value} (h : w.cell? a = some u ∧ w.cell? b = some v) (hb : Below w.heap.size w w') : w'.cell? a = some u ∧ w'.cell? b = some v := ⟨(hb.cell (p := a) (World.block_lt_of_cell? w _ h.1)).trans h.1, (hb.cell (p := b) (World.block_lt_of_cell? w _ h.2)).trans h.2⟩
theorem cell2_set {w : World} {T B p q x y : Nat} {u0 v0 u u' : Value} (h : w.cell? ⟨T, p, none⟩ = some u0 ∧ w.cell? ⟨T, q, none⟩ = some v0) (hn : T ≠ B) : ((w.setCell ⟨B, x, none⟩ u).setCell ⟨B, y, none⟩ u').cell? ⟨T, p, none⟩ = some u0 ∧ ((w.setCell ⟨B, x, none⟩ u).setCell ⟨B, y, none⟩ u').cell? ⟨T, q, none⟩ = some v0 := ⟨by rw [cell_other hn, cell_other hn]; exact h.1, by rw [cell_other hn, cell_other hn]; exact h.2⟩
/-- The determinant of one row. -/
def det1N (e : Pol) : Pol := plusN (0, []) (timesN e (0, [1]))
set_option maxRecDepth 100000 in
set_option maxHeartbeats 1000000 in
theorem det1_any (g : Nat) (M : Nat → Nat → Pol) (w : World) (hm : MatC w g 1 M) (hw : Wi (-100) 100 (M 0 0)) :
    Calls Try.prog 103 #[.slice (some ⟨g, 0, none⟩) 1 1] w (GivesE (det1N (M 0 0)) w) := by
  obtain ⟨w0, hw0⟩ : ∃ w0, w0 = w.alloc (.cells #[.int .i64 0, .slice none 0 0] 130) := ⟨_, rfl⟩
  have hb0 : Below w.heap.size w w0 := by rw [hw0]; exact (Below.refl _ w).alloc (Nat.le_refl _) _
  have hr0 : w0.heap[w.heap.size]? = some (.cells #[.int .i64 0, .slice none 0 0] 130 (0, 0)) := by rw [hw0]; exact heap_alloc_new w _
  have hs0 : w0.heap.size = w.heap.size + 1 := by rw [hw0]; simp
  have hmk := make_rowE 2 (by omega) w0
  rw [hs0, show ((2 : Nat) : Int) = 2 from rfl] at hmk
  obtain ⟨w1, hw1⟩ : ∃ w1, w1 = w0.alloc (.cells (madeCells #[.int .i64 0, .slice none 0 0] (2 * 2)) 130) := ⟨_, rfl⟩
  rw [← hw1, hw0] at hmk
  have hR1 : RowE w1 (w.heap.size + 1) 2 (fun _ => (0, [])) := by rw [hw1, ← hs0]; exact rowE_new w0 2
  have hb1 : Below w0.heap.size w0 w1 := by rw [hw1]; exact (Below.refl _ w0).alloc (Nat.le_refl _) _
  have hs1 : w1.heap.size = w.heap.size + 1 + 1 := by rw [hw1]; simp [hs0]
  have HO1 := Lib.hid (fun wx => ones_any 1 (.inr rfl) wx)
  have HO0 := Lib.hid (fun wx => ones_any 0 (.inl rfl) wx)
  have HW0 := Lib.hid hw0
  have H1 := Lib.hid (And.intro hR1 (And.intro hb0 (And.intro hb1 hr0)))
  have HM := Lib.hid hm
  clear hw0 hb0 hr0 hw1 hR1 hb1 hm
  obtain ⟨e, he⟩ : ∃ e, M 0 0 = e := ⟨_, rfl⟩
  rw [he] at hw
  obtain ⟨res, hres⟩ : ∃ res, det1N (M 0 0) = res := ⟨_, rfl⟩
  rw [hres]
  rw [he] at hres
  have HRES := Lib.hid hres
  have HE := Lib.hid he
  have HWI := Lib.hid hw
  clear hres he hw
  have HRZ : Hid (RowZ (w1.alloc (.cells #[.int .i64 1] 3)) (w.heap.size + 1 + 1) [1] ∧ Below w1.heap.size w1 (w1.alloc (.cells #[.int .i64 1] 3))) := Lib.hid ⟨by rw [← hs1]; exact heap_alloc_new w1 _, (Below.refl _ w1).alloc (Nat.le_refl _) _⟩
  have hbt1 : bits BinOp.and IntKind.i64 1 1 = 1 := by kernel_rfl
  have hbt2 : bits BinOp.andNot IntKind.i64 1 1 = 0 := by kernel_rfl
  go_enter Try.func103, Try.ntmps103
  go_wp2_with (fail)
  refine (entOne_any 0 1 (by decide) (by omega) _ w1 _ HRZ.out.2 HRZ.out.1).mono ?_
  rintro e2 w2 ⟨a2, c2, rfl, hz2, hb2, hl2⟩
  have hR2 := H1.out.1.below hb2
  obtain ⟨xa, xc, q0, q1, _⟩ := hR2.at (j := 0) (by omega)
  simp only [Nat.zero_mul, Nat.zero_add] at q0 q1
  have f0 := hR2.free 0
  have f1 := hR2.free 1
  have HP2 := Lib.hid (hR2.put (j := 0) (q := (0, [1])) (by omega) hz2 (show ([1] : List Int).length ≤ c2 from hl2))
  have HBX : Hid (w2.heap[w.heap.size]? = some (.cells #[.int .i64 0, .slice none 0 0] 130 (0, 0))) := Lib.hid ((hb2.block _ (by omega)).trans ((H1.out.2.2.1.block _ (by omega)).trans H1.out.2.2.2))
  have HB2 := Lib.hid (H1.out.2.1.trans ((H1.out.2.2.1.mono (by omega)).trans (hb2.mono (by omega))))
  clear hR2 hz2 hb2 hl2
  go_wp2_with (fail)
  obtain ⟨pA, hpA⟩ : ∃ pA : Nat → Pol, updR (fun _ => (0, [])) 0 (0, [1]) = pA := ⟨_, rfl⟩
  rw [hpA] at HP2
  have HPA : Hid (pA 0 = (0, [1]) ∧ pA 1 = (0, [])) := Lib.hid ⟨by rw [← hpA]; simp [updR], by rw [← hpA]; simp [updR]⟩
  clear hpA q0 q1 f0 f1
  have hmin : w.heap.size ≤ w.heap.size + 1 := by omega
  have HI : Hid (RowE ((w2.setCell ⟨w.heap.size + 1, 0, none⟩ (.int .i64 0)).setCell ⟨w.heap.size + 1, 1, none⟩ (.slice a2 1 c2)) (w.heap.size + 1) 2 pA ∧ Below w.heap.size w ((w2.setCell ⟨w.heap.size + 1, 0, none⟩ (.int .i64 0)).setCell ⟨w.heap.size + 1, 1, none⟩ (.slice a2 1 c2))) := Lib.hid ⟨HP2.out, (HB2.out.setCell (p := ⟨w.heap.size + 1, 0, none⟩) hmin _).setCell (p := ⟨w.heap.size + 1, 1, none⟩) hmin _⟩
  go_loopw [4] (fun v wr => (v = .int .i64 1 ∧ Hid (RowE wr (w.heap.size + 1) 2 pA ∧ Below w.heap.size w wr ∧ wr.heap[w.heap.size]? = some (.cells #[.int .i64 0, .slice none 0 0] 130 (0, 0)))) ∨ (v = .int .i64 2 ∧ Hid (RowE wr (w.heap.size + 1) 2 (updR pA 1 res) ∧ Below w.heap.size w wr ∧ wr.heap[w.heap.size]? = some (.cells #[.int .i64 0, .slice none 0 0] 130 (0, 0))))) (fun v _ => 3 - (intOf v).toNat)
  case atStart => exact .inl ⟨rfl, Lib.hid ⟨HI.out.1, HI.out.2, ((RowKit.Below.heap_setCell _ _ _ _ (by simp)).trans (RowKit.Below.heap_setCell _ _ _ _ (by simp))).trans HBX.out⟩⟩
  case round =>
    clear HI HP2
    rcases hrel with ⟨rfl, HR⟩ | ⟨rfl, HR⟩
    · have hm3 := HM.out.below HR.out.2.1
      have r0 := hm3.row (i := 0) (by omega)
      simp only [Nat.add_zero] at r0
      have HR' := Lib.hid HR.out
      go_wp2_with (go_at_call 118; refine (HO1.out _).mono ?_; rintro e w' ⟨rfl, rfl⟩)
      go_loopw [32] (fun v wx => (v = .int .i64 0 ∧ Hid (RowE wx (w.heap.size + 1) 2 pA ∧ Below w.heap.size w wx ∧ wx.heap[w.heap.size]? = some (.cells #[.int .i64 0, .slice none 0 0] 130 (0, 0)))) ∨ (v = .int .i64 1 ∧ Hid (RowE wx (w.heap.size + 1) 2 (updR pA 1 res) ∧ Below w.heap.size w wx ∧ wx.heap[w.heap.size]? = some (.cells #[.int .i64 0, .slice none 0 0] 130 (0, 0))))) (fun v _ => 3 - (intOf v).toNat)
      case atStart => exact .inl ⟨rfl, HR'⟩
      case round =>
        clear HR HR' r0 hm3
        rename World => w3
        rcases hrel with ⟨rfl, HR⟩ | ⟨rfl, HR⟩
        · have hm3 := HM.out.below HR.out.2.1
          obtain ⟨ea, ec, e0, e1, ez, _⟩ := (hm3.2 0 (by omega)).at (j := 0) (by omega)
          rw [HE.out] at e0 e1 ez
          simp only [Nat.add_zero, Nat.zero_mul, Nat.zero_add] at e0 e1
          obtain ⟨w4, hw4⟩ : ∃ w4, w3.alloc (.cells #[.int .i64 e.1, .slice ea e.2.length ec] 130) = w4 := ⟨_, rfl⟩
          have hs4 : w4.heap.size = w3.heap.size + 1 := by rw [← hw4]; simp
          have hB34 : Below w3.heap.size w3 w4 := by rw [← hw4]; exact (Below.refl _ w3).alloc (Nat.le_refl _) _
          have hrE : w4.heap[w3.heap.size]? = some (.cells #[.int .i64 e.1, .slice ea e.2.length ec] 130 (0, 0)) := by rw [← hw4]; exact heap_alloc_new w3 _
          have hR4 := HR.out.1.below hB34
          obtain ⟨ma, mc, m0, m1, mz, _⟩ := hR4.at (j := 0) (by omega)
          obtain ⟨na, nc, n0, n1, nz, _⟩ := hR4.at (j := 1) (by omega)
          rw [HPA.out.1] at m0 m1 mz
          rw [HPA.out.2] at n0 n1 nz
          simp only [Nat.zero_mul, Nat.zero_add, Nat.one_mul, Nat.reduceAdd] at m0 m1 n0 n1
          have hw := HWI.out
          unfold Wi at hw
          obtain ⟨t, ht⟩ : ∃ t, timesN e (0, [1]) = t := ⟨_, rfl⟩
          have hwt := timesN_wi (A := -100) (B := 100) (A' := 0) (B' := 1) (f := (0, [1])) (by omega) (by omega) (by omega) (by omega) HWI.out ⟨by simp, by simp⟩
          rw [ht] at hwt
          unfold Wi at hwt
          have HTI : Hid (∀ wx, Below w4.heap.size w4 wx → Calls Try.prog 117 #[.agg #[.int .i64 e.1, .slice ea e.2.length ec], .agg #[.int .i64 0, .slice ma 1 mc]] wx (fun ed w' => ∃ a c, ed = .returned (.agg #[.int .i64 t.1, .slice a t.2.length c]) ∧ IntsT w' a t.2 ∧ Below wx.heap.size wx w' ∧ t.2.length ≤ c)) := Lib.hid (fun wx hb => by
            refine (times_any e.1 0 _ _ ec mc ea ma e.2 [1] wx rfl rfl (by omega) (by simp) (by omega) (by omega) ((ez.below hB34).below hb) (mz.below hb)).mono ?_
            rw [show timesN (e.1, e.2) (0, [1]) = t from ht]
            rintro ed w' ⟨a, c, rfl, hz, hb', hl⟩
            exact ⟨a, c, rfl, hz, hb', hl⟩)
          have HPL : Hid (∀ a c wx, Below w4.heap.size w4 wx → IntsT wx a t.2 → Calls Try.prog 101 #[.agg #[.int .i64 0, .slice na 0 nc], .agg #[.int .i64 t.1, .slice a t.2.length c]] wx (fun ed w' => ∃ a c, ed = .returned (.agg #[.int .i64 res.1, .slice a res.2.length c]) ∧ IntsT w' a res.2 ∧ Below wx.heap.size wx w' ∧ res.2.length ≤ c)) := Lib.hid (fun a c wx hb hz => by
            refine (plus_any 0 t.1 0 _ nc c na a [] t.2 wx rfl rfl (by omega) (by omega) (by omega) (by omega) (.inl rfl) hz).mono ?_
            rw [show plusN (0, []) (t.1, t.2) = res by rw [← HRES.out, det1N, ht]]
            rintro ed w' ⟨a, c, rfl, hz, hb', hl⟩
            exact ⟨a, c, rfl, hz, hb', hl⟩)
          have HR4 := Lib.hid (And.intro hR4 (And.intro hB34 hrE))
          have HR3 := Lib.hid HR.out
          have hsz3 := HR.out.2.1.size
          have hbl : w.heap.size + 1 < w3.heap.size := by obtain ⟨cs, h, _⟩ := HR.out.1; exact (Array.getElem?_eq_some_iff.1 h).1
          have s1 : w4.cell? ⟨w3.heap.size, 0, none⟩ = some (.int .i64 e.1) ∧ w4.cell? ⟨w3.heap.size, 1, none⟩ = some (.slice ea e.2.length ec) ∧ w4.cell? ⟨w.heap.size + 1, 0, none⟩ = some (.int .i64 0) ∧ w4.cell? ⟨w.heap.size + 1, 1, none⟩ = some (.slice ma 1 mc) := ⟨box_cell0 hrE, box_cell1 hrE, m0, m1⟩
          clear hR4 hB34 hrE m0 m1 mz nz ez hw hwt HR hm3
          go_wp2_with (fail)
          try rw [hw4]
          have s1d : w4.drew.cell? ⟨w3.heap.size, 0, none⟩ = some (.int .i64 e.1) ∧ w4.drew.cell? ⟨w3.heap.size, 1, none⟩ = some (.slice ea e.2.length ec) ∧ w4.drew.cell? ⟨w.heap.size + 1, 0, none⟩ = some (.int .i64 0) ∧ w4.drew.cell? ⟨w.heap.size + 1, 1, none⟩ = some (.slice ma 1 mc) := s1
          have B0d : Below w4.heap.size w4 w4.drew := (Below.refl _ _).drew
          have hws : ∀ (wx : World), Below w4.heap.size w4 wx → wx.cell? ⟨w3.heap.size, 0, none⟩ = some (.int .i64 e.1) ∧ wx.cell? ⟨w3.heap.size, 1, none⟩ = some (.slice ea e.2.length ec) ∧ wx.cell? ⟨w.heap.size + 1, 0, none⟩ = some (.int .i64 0) ∧ wx.cell? ⟨w.heap.size + 1, 1, none⟩ = some (.slice ma 1 mc) := fun wx hb =>
            ⟨(hb.cell (p := ⟨w3.heap.size, 0, none⟩) (by simp; omega)).trans s1.1, (hb.cell (p := ⟨w3.heap.size, 1, none⟩) (by simp; omega)).trans s1.2.1, (hb.cell (p := ⟨w.heap.size + 1, 0, none⟩) (by simp; omega)).trans s1.2.2.1, (hb.cell (p := ⟨w.heap.size + 1, 1, none⟩) (by simp; omega)).trans s1.2.2.2⟩
          have HWS := Lib.hid hws
          clear hws
          have Ba : Below w4.heap.size w4 (w4.alloc (.cells #[.int .i64 0, .slice none 0 0] 130)) := (Below.refl _ w4).alloc (Nat.le_refl _) _
          have Bad : Below w4.heap.size w4 (w4.alloc (.cells #[.int .i64 0, .slice none 0 0] 130)).drew := Ba.drew
          have Sa := HWS.out _ Ba
          have Sad := HWS.out _ Bad
          have RZ : (w4.alloc (.cells #[.int .i64 0, .slice none 0 0] 130)).drew.heap[w3.heap.size + 1]? = some (.cells #[.int .i64 0, .slice none 0 0] 130 (0, 0)) := by rw [← hs4]; exact heap_alloc_new w4 _
          have RZlt : w3.heap.size + 1 < (w4.alloc (.cells #[.int .i64 0, .slice none 0 0] 130)).drew.heap.size := (Array.getElem?_eq_some_iff.1 RZ).1
          have hTle : w4.heap.size ≤ w3.heap.size + 1 := by omega
          go_upto_region 11 with fail
          go_cut [8] from 42 to 50 (fun v8 wx => ∃ T, v8 = .pointer (some ⟨T, 0, none⟩) ∧ Hid (∃ at' ct, wx.heap[T]? = some (.cells #[.int .i64 t.1, .slice at' t.2.length ct] 130 (0, 0)) ∧ IntsT wx at' t.2 ∧ t.2.length ≤ ct ∧ Below w4.heap.size w4 wx ∧ w4.heap.size ≤ T))
          case first =>
            refine wp_region_held_drew (S := (fun w' => w'.cell? ⟨w3.heap.size, 0, none⟩ = some (.int .i64 e.1) ∧ w'.cell? ⟨w3.heap.size, 1, none⟩ = some (.slice ea e.2.length ec) ∧ w'.cell? ⟨w.heap.size + 1, 0, none⟩ = some (.int .i64 0) ∧ w'.cell? ⟨w.heap.size + 1, 1, none⟩ = some (.slice ma 1 mc))) (by kernel_rfl) ?_ (fun hHl0 => ?_)
            · (try dsimp only)
              first | with_reducible assumption
            refine wpAnyH_take (i := 0) (oi := _) (v := ?vv0x1) rfl (by kernel_rfl) (by kernel_rfl) (by kernel_rfl) (fun _ _ _ h => h) (Or.inl ⟨by rfl, ?hy0x1⟩) hHl0 ?rest0x1
            case hy0x1 => (intro wS hSw; (try dsimp only at hSw); go_simp; try with_reducible rfl)
            try simp only [Act.put, List.setIfInBounds_toArray, List.set_cons_zero, List.set_cons_succ]
            refine wpAnyH_take (i := 1) (oi := _) (v := ?vv0x2) rfl (by kernel_rfl) (by kernel_rfl) (by kernel_rfl) (fun _ _ _ h => h) (Or.inl ⟨by rfl, ?hy0x2⟩) hHl0 ?rest0x2
            case hy0x2 => (intro wS hSw; (try dsimp only at hSw); go_simp; try with_reducible rfl)
            try simp only [Act.put, List.setIfInBounds_toArray, List.set_cons_zero, List.set_cons_succ]
            refine wpAnyH_take (i := 2) (oi := _) (v := ?vv0x3) rfl (by kernel_rfl) (by kernel_rfl) (by kernel_rfl) (fun _ _ _ h => h) (Or.inl ⟨by rfl, ?hy0x3⟩) hHl0 ?rest0x3
            case hy0x3 => (intro wS hSw; (try dsimp only at hSw); go_simp; try with_reducible rfl)
            try simp only [Act.put, List.setIfInBounds_toArray, List.set_cons_zero, List.set_cons_succ]
            refine wpAnyH_take (i := 3) (oi := _) (v := ?vv0x4) rfl (by kernel_rfl) (by kernel_rfl) (by kernel_rfl) (fun _ _ _ h => h) (Or.inl ⟨by rfl, ?hy0x4⟩) hHl0 ?rest0x4
            case hy0x4 => (intro wS hSw; (try dsimp only at hSw); go_simp; try with_reducible rfl)
            try simp only [Act.put, List.setIfInBounds_toArray, List.set_cons_zero, List.set_cons_succ]
            refine wpAnyH_take (i := 4) (oi := _) (v := ?vv0x5) rfl (by kernel_rfl) (by kernel_rfl) (by kernel_rfl) (fun _ _ _ h => h) (Or.inl ⟨by rfl, ?hy0x5⟩) hHl0 ?rest0x5
            case hy0x5 => (intro wS hSw; (try dsimp only at hSw); go_simp; try with_reducible rfl)
            try simp only [Act.put, List.setIfInBounds_toArray, List.set_cons_zero, List.set_cons_succ]
            refine wpAnyH_take (i := 5) (oi := _) (v := ?vv0x6) rfl (by kernel_rfl) (by kernel_rfl) (by kernel_rfl) (fun _ _ _ h => h) (Or.inl ⟨by rfl, ?hy0x6⟩) hHl0 ?rest0x6
            case hy0x6 => (intro wS hSw; (try dsimp only at hSw); go_simp; try with_reducible rfl)
            try simp only [Act.put, List.setIfInBounds_toArray, List.set_cons_zero, List.set_cons_succ]
            refine wpAnyH_ready (rs := [6, 9]) (by kernel_rfl) (by simp) ?_
            refine AllReadyH.cons (o := _) rfl (fun K hK => ?_) ?_
            · go_simp
              try go_wp2_with (fail)
              refine hK.out _ _ ?_ (fun hHl7 => ?_)
              · (try dsimp only)
                first | with_reducible assumption
              clear hK K hHl0
              try simp only [Act.put, List.setIfInBounds_toArray, List.set_cons_zero, List.set_cons_succ]
              refine wpAnyH_take (i := 7) (oi := _) (v := ?vv0x8) rfl (by kernel_rfl) (by kernel_rfl) (by kernel_rfl) (fun _ _ _ h => h) (Or.inl ⟨by rfl, ?hy0x8⟩) hHl7 ?rest0x8
              case hy0x8 => (intro wS hSw; (try dsimp only at hSw); go_simp; try with_reducible rfl)
              try simp only [Act.put, List.setIfInBounds_toArray, List.set_cons_zero, List.set_cons_succ]
              refine wpAnyH_ready (rs := [8, 9]) (by kernel_rfl) (by simp) ?_
              refine AllReadyH.cons (o := _) rfl (fun K hK => ?_) ?_
              · go_simp
                first | (go_at_call 117; refine (HTI.out _ (by first | with_reducible exact B0d | with_reducible exact Bad)).mono ?_; rintro ed w5 ⟨a5, c5, rfl, hz5, hb5, hl5⟩; have hB5 : Below w4.heap.size w4 w5 := (by first | with_reducible exact B0d.trans (hb5.mono B0d.size) | with_reducible exact Bad.trans (hb5.mono Bad.size)); have K5 := HWS.out _ hB5; have K5a := HWS.out _ (hB5.alloc hB5.size (.cells #[.int .i64 0, .slice none 0 0] 130)); have K5b := HWS.out _ (hB5.alloc hB5.size (.cells #[.int .i64 t.1, .slice a5 t.2.length c5] 130)); have K5c := HWS.out _ ((hB5.setCell (p := ⟨w3.heap.size + 1, 0, none⟩) hTle (.int .i64 t.1)).setCell (p := ⟨w3.heap.size + 1, 1, none⟩) hTle (.slice a5 t.2.length c5)); (try have G5 : w5.heap[w3.heap.size + 1]? = some (.cells #[.int .i64 0, .slice none 0 0] 130 (0, 0)) := by with_reducible exact (hb5.block (w3.heap.size + 1) RZlt).trans RZ); (try have g0 := box_cell0 G5); (try have g1 := box_cell1 G5); (try have g2 := row_free G5 0); (try have g3 := row_free G5 1); have H5 := Lib.hid (And.intro hz5 (And.intro hB5 hl5)); clear hb5)
                try go_wp2_with (fail)
                refine hK.out _ _ ?_ (fun hHl9 => ?_)
                · (try dsimp only)
                  first | with_reducible assumption
                clear hK K hHl7
                try simp only [Act.put, List.setIfInBounds_toArray, List.set_cons_zero, List.set_cons_succ]
                refine wpAnyH_ready (rs := [9]) (by kernel_rfl) (by simp) ?_
                refine AllReadyH.cons (o := _) rfl (fun K hK => ?_) ?_
                · go_simp
                  try go_wp2_with (fail)
                  refine hK.out _ _ ?_ (fun hHl10 => ?_)
                  · (try dsimp only)
                    first | with_reducible assumption
                  clear hK K hHl9
                  try simp only [Act.put, List.setIfInBounds_toArray, List.set_cons_zero, List.set_cons_succ]
                  refine wpAnyH_ready (rs := [10]) (by kernel_rfl) (by simp) ?_
                  refine AllReadyH.cons (o := _) rfl (fun K hK => ?_) ?_
                  · go_simp
                    try go_wp2_with (fail)
                    refine hK.out _ _ ?_ (fun hHl11 => ?_)
                    · (try dsimp only)
                      first | with_reducible assumption
                    clear hK K hHl10
                    try simp only [Act.put, List.setIfInBounds_toArray, List.set_cons_zero, List.set_cons_succ]
                    refine wpAnyH_done (by kernel_rfl) ?_ _
                    go_wp2_with (fail)
                    go_meet
                    first
                      | exact ⟨w5.heap.size, rfl, Lib.hid ⟨a5, c5, heap_alloc_new w5 _, H5.out.1.below ((Below.refl _ w5).alloc (Nat.le_refl _) _), H5.out.2.2, H5.out.2.1.alloc H5.out.2.1.size _, H5.out.2.1.size⟩⟩
                      | exact ⟨w3.heap.size + 1, rfl, Lib.hid ⟨a5, c5, heap_setCell_self (i := 1) (heap_setCell_self (i := 0) G5 (.int .i64 t.1)) (.slice a5 t.2.length c5), (H5.out.1.setCell G5 (by decide)).setCell (heap_setCell_self (i := 0) G5 (.int .i64 t.1)) (by decide), H5.out.2.2, (H5.out.2.1.setCell (p := ⟨w3.heap.size + 1, 0, none⟩) hTle _).setCell (p := ⟨w3.heap.size + 1, 1, none⟩) hTle _, hTle⟩⟩
                  exact AllReadyH.nil
                exact AllReadyH.nil
              refine AllReadyH.cons (o := _) rfl (fun K hK => ?_) ?_
              · go_simp
                try go_wp2_with (fail)
                refine hK.out _ _ ?_ (fun hHl12 => ?_)
                · (try dsimp only)
                  first | with_reducible assumption
                clear hK K hHl7
                try simp only [Act.put, List.setIfInBounds_toArray, List.set_cons_zero, List.set_cons_succ]
                refine wpAnyH_ready (rs := [8]) (by kernel_rfl) (by simp) ?_
                refine AllReadyH.cons (o := _) rfl (fun K hK => ?_) ?_
                · go_simp
                  first | (go_at_call 117; refine (HTI.out _ (by first | with_reducible exact B0d | with_reducible exact Bad)).mono ?_; rintro ed w5 ⟨a5, c5, rfl, hz5, hb5, hl5⟩; have hB5 : Below w4.heap.size w4 w5 := (by first | with_reducible exact B0d.trans (hb5.mono B0d.size) | with_reducible exact Bad.trans (hb5.mono Bad.size)); have K5 := HWS.out _ hB5; have K5a := HWS.out _ (hB5.alloc hB5.size (.cells #[.int .i64 0, .slice none 0 0] 130)); have K5b := HWS.out _ (hB5.alloc hB5.size (.cells #[.int .i64 t.1, .slice a5 t.2.length c5] 130)); have K5c := HWS.out _ ((hB5.setCell (p := ⟨w3.heap.size + 1, 0, none⟩) hTle (.int .i64 t.1)).setCell (p := ⟨w3.heap.size + 1, 1, none⟩) hTle (.slice a5 t.2.length c5)); (try have G5 : w5.heap[w3.heap.size + 1]? = some (.cells #[.int .i64 0, .slice none 0 0] 130 (0, 0)) := by with_reducible exact (hb5.block (w3.heap.size + 1) RZlt).trans RZ); (try have g0 := box_cell0 G5); (try have g1 := box_cell1 G5); (try have g2 := row_free G5 0); (try have g3 := row_free G5 1); have H5 := Lib.hid (And.intro hz5 (And.intro hB5 hl5)); clear hb5)
                  try go_wp2_with (fail)
                  refine hK.out _ _ ?_ (fun hHl13 => ?_)
                  · (try dsimp only)
                    first | with_reducible assumption
                  clear hK K hHl12
                  try simp only [Act.put, List.setIfInBounds_toArray, List.set_cons_zero, List.set_cons_succ]
                  refine wpAnyH_ready (rs := [10]) (by kernel_rfl) (by simp) ?_
                  refine AllReadyH.cons (o := _) rfl (fun K hK => ?_) ?_
                  · go_simp
                    try go_wp2_with (fail)
                    refine hK.out _ _ ?_ (fun hHl14 => ?_)
                    · (try dsimp only)
                      first | with_reducible assumption
                    clear hK K hHl13
                    try simp only [Act.put, List.setIfInBounds_toArray, List.set_cons_zero, List.set_cons_succ]
                    refine wpAnyH_done (by kernel_rfl) ?_ _
                    go_wp2_with (fail)
                    go_meet
                    first
                      | exact ⟨w5.heap.size, rfl, Lib.hid ⟨a5, c5, heap_alloc_new w5 _, H5.out.1.below ((Below.refl _ w5).alloc (Nat.le_refl _) _), H5.out.2.2, H5.out.2.1.alloc H5.out.2.1.size _, H5.out.2.1.size⟩⟩
                      | exact ⟨w3.heap.size + 1, rfl, Lib.hid ⟨a5, c5, heap_setCell_self (i := 1) (heap_setCell_self (i := 0) G5 (.int .i64 t.1)) (.slice a5 t.2.length c5), (H5.out.1.setCell G5 (by decide)).setCell (heap_setCell_self (i := 0) G5 (.int .i64 t.1)) (by decide), H5.out.2.2, (H5.out.2.1.setCell (p := ⟨w3.heap.size + 1, 0, none⟩) hTle _).setCell (p := ⟨w3.heap.size + 1, 1, none⟩) hTle _, hTle⟩⟩
                  exact AllReadyH.nil
                exact AllReadyH.nil
              exact AllReadyH.nil
            refine AllReadyH.cons (o := _) rfl (fun K hK => ?_) ?_
            · go_simp
              try go_wp2_with (fail)
              refine hK.out _ _ ?_ (fun hHl15 => ?_)
              · (try dsimp only)
                first | with_reducible assumption
              clear hK K hHl0
              try simp only [Act.put, List.setIfInBounds_toArray, List.set_cons_zero, List.set_cons_succ]
              refine wpAnyH_ready (rs := [6]) (by kernel_rfl) (by simp) ?_
              refine AllReadyH.cons (o := _) rfl (fun K hK => ?_) ?_
              · go_simp
                try go_wp2_with (fail)
                refine hK.out _ _ ?_ (fun hHl16 => ?_)
                · (try dsimp only)
                  first | with_reducible assumption
                clear hK K hHl15
                try simp only [Act.put, List.setIfInBounds_toArray, List.set_cons_zero, List.set_cons_succ]
                refine wpAnyH_take (i := 7) (oi := _) (v := ?vv0x17) rfl (by kernel_rfl) (by kernel_rfl) (by kernel_rfl) (fun _ _ _ h => h) (Or.inl ⟨by rfl, ?hy0x17⟩) hHl16 ?rest0x17
                case hy0x17 => (intro wS hSw; (try dsimp only at hSw); go_simp; try with_reducible rfl)
                try simp only [Act.put, List.setIfInBounds_toArray, List.set_cons_zero, List.set_cons_succ]
                refine wpAnyH_ready (rs := [8]) (by kernel_rfl) (by simp) ?_
                refine AllReadyH.cons (o := _) rfl (fun K hK => ?_) ?_
                · go_simp
                  first | (go_at_call 117; refine (HTI.out _ (by first | with_reducible exact B0d | with_reducible exact Bad)).mono ?_; rintro ed w5 ⟨a5, c5, rfl, hz5, hb5, hl5⟩; have hB5 : Below w4.heap.size w4 w5 := (by first | with_reducible exact B0d.trans (hb5.mono B0d.size) | with_reducible exact Bad.trans (hb5.mono Bad.size)); have K5 := HWS.out _ hB5; have K5a := HWS.out _ (hB5.alloc hB5.size (.cells #[.int .i64 0, .slice none 0 0] 130)); have K5b := HWS.out _ (hB5.alloc hB5.size (.cells #[.int .i64 t.1, .slice a5 t.2.length c5] 130)); have K5c := HWS.out _ ((hB5.setCell (p := ⟨w3.heap.size + 1, 0, none⟩) hTle (.int .i64 t.1)).setCell (p := ⟨w3.heap.size + 1, 1, none⟩) hTle (.slice a5 t.2.length c5)); (try have G5 : w5.heap[w3.heap.size + 1]? = some (.cells #[.int .i64 0, .slice none 0 0] 130 (0, 0)) := by with_reducible exact (hb5.block (w3.heap.size + 1) RZlt).trans RZ); (try have g0 := box_cell0 G5); (try have g1 := box_cell1 G5); (try have g2 := row_free G5 0); (try have g3 := row_free G5 1); have H5 := Lib.hid (And.intro hz5 (And.intro hB5 hl5)); clear hb5)
                  try go_wp2_with (fail)
                  refine hK.out _ _ ?_ (fun hHl18 => ?_)
                  · (try dsimp only)
                    first | with_reducible assumption
                  clear hK K hHl16
                  try simp only [Act.put, List.setIfInBounds_toArray, List.set_cons_zero, List.set_cons_succ]
                  refine wpAnyH_ready (rs := [10]) (by kernel_rfl) (by simp) ?_
                  refine AllReadyH.cons (o := _) rfl (fun K hK => ?_) ?_
                  · go_simp
                    try go_wp2_with (fail)
                    refine hK.out _ _ ?_ (fun hHl19 => ?_)
                    · (try dsimp only)
                      first | with_reducible assumption
                    clear hK K hHl18
                    try simp only [Act.put, List.setIfInBounds_toArray, List.set_cons_zero, List.set_cons_succ]
                    refine wpAnyH_done (by kernel_rfl) ?_ _
                    go_wp2_with (fail)
                    go_meet
                    first
                      | exact ⟨w5.heap.size, rfl, Lib.hid ⟨a5, c5, heap_alloc_new w5 _, H5.out.1.below ((Below.refl _ w5).alloc (Nat.le_refl _) _), H5.out.2.2, H5.out.2.1.alloc H5.out.2.1.size _, H5.out.2.1.size⟩⟩
                      | exact ⟨w3.heap.size + 1, rfl, Lib.hid ⟨a5, c5, heap_setCell_self (i := 1) (heap_setCell_self (i := 0) G5 (.int .i64 t.1)) (.slice a5 t.2.length c5), (H5.out.1.setCell G5 (by decide)).setCell (heap_setCell_self (i := 0) G5 (.int .i64 t.1)) (by decide), H5.out.2.2, (H5.out.2.1.setCell (p := ⟨w3.heap.size + 1, 0, none⟩) hTle _).setCell (p := ⟨w3.heap.size + 1, 1, none⟩) hTle _, hTle⟩⟩
                  exact AllReadyH.nil
                exact AllReadyH.nil
              exact AllReadyH.nil
            exact AllReadyH.nil
          case rest =>
            obtain ⟨T, rfl, HT⟩ := hcut
            obtain ⟨ta, tc, hrT, hzT, hlT, hbT, hTT⟩ := HT.out
            have u0 := box_cell0 hrT
            have u1 := box_cell1 hrT
            have n0' := (hbT.cell (p := ⟨w.heap.size + 1, 2, none⟩) (by simp; omega)).trans n0
            have n1' := (hbT.cell (p := ⟨w.heap.size + 1, 3, none⟩) (by simp; omega)).trans n1
            have HT2 := Lib.hid (And.intro hrT (And.intro hzT (And.intro hlT (And.intro hbT hTT))))
            have hne : T ≠ w.heap.size + 1 := by omega
            have Bc0 := Below.refl wc.heap.size wc
            have Bcd : Below wc.heap.size wc wc.drew := Bc0.drew
            have v1 : wc.cell? ⟨T, 0, none⟩ = some (.int .i64 t.1) ∧ wc.cell? ⟨T, 1, none⟩ = some (.slice ta t.2.length tc) := ⟨u0, u1⟩
            have v1d : wc.drew.cell? ⟨T, 0, none⟩ = some (.int .i64 t.1) ∧ wc.drew.cell? ⟨T, 1, none⟩ = some (.slice ta t.2.length tc) := v1
            have hTlt : T < wc.heap.size := (Array.getElem?_eq_some_iff.1 hrT).1
            have hblt : w.heap.size + 1 < wc.heap.size := by have := hbT.size; omega
            clear hrT hzT hlT hbT s1 s1d B0d Ba Bad Sa Sad RZ RZlt n0 n1 HTI
            go_wp2_with (go_at_call 118; refine (HO0.out _).mono ?_; rintro ed w' ⟨rfl, rfl⟩)
            refine wp_region_held_drew (S := (fun w' => w'.cell? ⟨T, 0, none⟩ = some (.int .i64 t.1) ∧ w'.cell? ⟨T, 1, none⟩ = some (.slice ta t.2.length tc))) (by kernel_rfl) ?_ (fun hHl0 => ?_)
            · (try dsimp only)
              first | with_reducible assumption
            refine wpAnyH_take (i := 0) (oi := _) (v := ?vv48x1) rfl (by kernel_rfl) (by kernel_rfl) (by kernel_rfl) (fun _ _ _ h => h) (Or.inl ⟨by rfl, ?hy48x1⟩) hHl0 ?rest48x1
            case hy48x1 => (intro wS hSw; (try dsimp only at hSw); go_simp; try with_reducible rfl)
            try simp only [Act.put, List.setIfInBounds_toArray, List.set_cons_zero, List.set_cons_succ]
            refine wpAnyH_take (i := 1) (oi := _) (v := ?vv48x2) rfl (by kernel_rfl) (by kernel_rfl) (by kernel_rfl) (fun _ _ _ h => h) (Or.inl ⟨by rfl, ?hy48x2⟩) hHl0 ?rest48x2
            case hy48x2 => (intro wS hSw; (try dsimp only at hSw); go_simp; try with_reducible rfl)
            try simp only [Act.put, List.setIfInBounds_toArray, List.set_cons_zero, List.set_cons_succ]
            refine wpAnyH_take (i := 2) (oi := _) (v := ?vv48x3) rfl (by kernel_rfl) (by kernel_rfl) (by kernel_rfl) (fun _ _ _ h => h) (Or.inl ⟨by rfl, ?hy48x3⟩) hHl0 ?rest48x3
            case hy48x3 => (intro wS hSw; (try dsimp only at hSw); go_simp; try with_reducible rfl)
            try simp only [Act.put, List.setIfInBounds_toArray, List.set_cons_zero, List.set_cons_succ]
            refine wpAnyH_take (i := 3) (oi := _) (v := ?vv48x4) rfl (by kernel_rfl) (by kernel_rfl) (by kernel_rfl) (fun _ _ _ h => h) (Or.inl ⟨by rfl, ?hy48x4⟩) hHl0 ?rest48x4
            case hy48x4 => (intro wS hSw; (try dsimp only at hSw); go_simp; try with_reducible rfl)
            try simp only [Act.put, List.setIfInBounds_toArray, List.set_cons_zero, List.set_cons_succ]
            refine wpAnyH_take (i := 4) (oi := _) (v := ?vv48x5) rfl (by kernel_rfl) (by kernel_rfl) (by kernel_rfl) (fun _ _ _ h => h) (Or.inl ⟨by rfl, ?hy48x5⟩) hHl0 ?rest48x5
            case hy48x5 => (intro wS hSw; (try dsimp only at hSw); go_simp; try with_reducible rfl)
            try simp only [Act.put, List.setIfInBounds_toArray, List.set_cons_zero, List.set_cons_succ]
            refine wpAnyH_take (i := 6) (oi := _) (v := ?vv48x6) rfl (by kernel_rfl) (by kernel_rfl) (by kernel_rfl) (fun _ _ _ h => h) (Or.inl ⟨by rfl, ?hy48x6⟩) hHl0 ?rest48x6
            case hy48x6 => (intro wS hSw; (try dsimp only at hSw); go_simp; try with_reducible rfl)
            try simp only [Act.put, List.setIfInBounds_toArray, List.set_cons_zero, List.set_cons_succ]
            refine wpAnyH_ready (rs := [5]) (by kernel_rfl) (by simp) ?_
            refine AllReadyH.cons (o := _) rfl (fun K hK => ?_) ?_
            · go_simp
              try go_wp2_with (fail)
              refine hK.out _ _ ?_ (fun hHl7 => ?_)
              · (try dsimp only)
                first | with_reducible assumption
              clear hK K hHl0
              try simp only [Act.put, List.setIfInBounds_toArray, List.set_cons_zero, List.set_cons_succ]
              refine wpAnyH_ready (rs := [7]) (by kernel_rfl) (by simp) ?_
              refine AllReadyH.cons (o := _) rfl (fun K hK => ?_) ?_
              · go_simp
                (go_at_call 101; refine (HPL.out _ _ _ (HT2.out.2.2.2.1.trans ((by first | with_reducible exact Bc0 | with_reducible exact Bcd : Below wc.heap.size wc _).mono HT2.out.2.2.2.1.size)) (HT2.out.2.1.below (by first | with_reducible exact Bc0 | with_reducible exact Bcd))).mono ?_; rintro ed w6 ⟨a6, c6, rfl, hz6, hb6, hl6⟩; have hB6 : Below wc.heap.size wc w6 := (by first | with_reducible exact Bc0.trans hb6 | with_reducible exact Bcd.trans (hb6.mono Bcd.size)); have K6 := cell2_below v1 hB6; have K6s := cell2_set (x := 2) (y := 3) (u := .int .i64 res.1) (u' := .slice a6 res.2.length c6) K6 hne; have hR6 := HR4.out.1.below (HT2.out.2.2.2.1.trans (hB6.mono HT2.out.2.2.2.1.size)); have p0 := (hB6.cell (p := ⟨w.heap.size + 1, 2, none⟩) hblt).trans n0'; have p1 := (hB6.cell (p := ⟨w.heap.size + 1, 3, none⟩) hblt).trans n1'; have p2 := hR6.free 2; have p3 := hR6.free 3; have H6 := Lib.hid (And.intro hR6 (And.intro hz6 (And.intro hl6 hB6))); clear hR6 hz6 hl6 hb6)
                try go_wp2_with (fail)
                refine hK.out _ _ ?_ (fun hHl8 => ?_)
                · (try dsimp only)
                  first | with_reducible assumption
                clear hK K hHl7
                try simp only [Act.put, List.setIfInBounds_toArray, List.set_cons_zero, List.set_cons_succ]
                refine wpAnyH_take (i := 8) (oi := _) (v := ?vv48x9) rfl (by kernel_rfl) (by kernel_rfl) (by kernel_rfl) (fun _ _ _ h => h) (Or.inl ⟨by rfl, ?hy48x9⟩) hHl8 ?rest48x9
                case hy48x9 => (intro wS hSw; (try dsimp only at hSw); go_simp; try with_reducible rfl)
                try simp only [Act.put, List.setIfInBounds_toArray, List.set_cons_zero, List.set_cons_succ]
                refine wpAnyH_ready (rs := [9]) (by kernel_rfl) (by simp) ?_
                refine AllReadyH.cons (o := _) rfl (fun K hK => ?_) ?_
                · go_simp
                  try go_wp2_with (fail)
                  refine hK.out _ _ ?_ (fun hHl10 => ?_)
                  · (try dsimp only)
                    first | with_reducible assumption
                  clear hK K hHl8
                  try simp only [Act.put, List.setIfInBounds_toArray, List.set_cons_zero, List.set_cons_succ]
                  refine wpAnyH_done (by kernel_rfl) ?_ _
                  go_wp2_with (fail)
                  have hput := H6.out.1.put (j := 1) (q := res) (by omega) H6.out.2.1 H6.out.2.2.1
                  have hB46 := HT2.out.2.2.2.1.trans (H6.out.2.2.2.mono HT2.out.2.2.2.1.size)
                  have hB36 := HR4.out.2.1.trans (hB46.mono HR4.out.2.1.size)
                  have hbx6 := (hB36.block w.heap.size (by omega)).trans HR3.out.2.2
                  exact ⟨.inr ⟨rfl, Lib.hid ⟨hput, ((HR3.out.2.1.trans (hB36.mono hsz3)).setCell (p := ⟨w.heap.size + 1, 2, none⟩) (by simp) _).setCell (p := ⟨w.heap.size + 1, 3, none⟩) (by simp) _, ((RowKit.Below.heap_setCell _ _ _ _ (by simp)).trans (RowKit.Below.heap_setCell _ _ _ _ (by simp))).trans hbx6⟩⟩, by simp [intOf]⟩
                exact AllReadyH.nil
              exact AllReadyH.nil
            exact AllReadyH.nil
        · go_wp2_with (fail)
          exact ⟨.inr ⟨rfl, HR⟩, by simp [intOf]⟩
    · obtain ⟨za, zc, z0, z1, zz, zl⟩ := HR.out.1.at (j := 1) (by omega)
      simp only [updR, if_pos, Nat.one_mul, Nat.reduceAdd] at z0 z1 zz zl
      have hbx := HR.out.2.2
      have k0 := box_cell0 hbx
      have k1 := box_cell1 hbx
      have f0 := row_free hbx 0
      have f1 := row_free hbx 1
      have ZZ := Lib.hid (And.intro zz zl)
      clear hbx zz zl
      go_wp2_with (fail)
      have y1 := heap_setCell_self (i := 0) HR.out.2.2 (.int .i64 res.1)
      have y2 := heap_setCell_self (i := 1) y1 (.slice za res.2.length zc)
      refine bodyPost_ret_by (results_cell_row (P := Try.prog) rfl _ _ w.heap.size 130 #[.int .i64 res.1, .slice za res.2.length zc] (0, 0) _ rfl y2 Try.underlying130 rfl (by kernel_rfl)) rfl ?_
      exact ⟨za, zc, rfl, (ZZ.out.1.setCell HR.out.2.2 (by decide)).setCell y1 (by decide), (HR.out.2.1.setCell (p := ⟨w.heap.size, 0, none⟩) (Nat.le_refl _) _).setCell (p := ⟨w.heap.size, 1, none⟩) (Nat.le_refl _) _, ZZ.out.2⟩

end Go.Proofs.Ytbcggbmjbljnfaa
