/-
  strap: 'alexander' of two strands.
-/
import Derived.Test.YtbcggbmjbljnfaaCl
namespace Go.Proofs.Ytbcggbmjbljnfaa
open Go.RowKit Go.Sort

/-- The Alexander polynomial from the first entry of the matrix of two strands. -/
def alex2N (e : Pol) : Pol := normP (det1N (plusN (0, [1]) (negN e)))
theorem cell4_below {w w' : World} {a b c d : Addr} {u v x y : Value} (h : w.cell? a = some u ∧ w.cell? b = some v ∧ w.cell? c = some x ∧ w.cell? d = some y) (hb : Below w.heap.size w w') : w'.cell? a = some u ∧ w'.cell? b = some v ∧ w'.cell? c = some x ∧ w'.cell? d = some y :=
  ⟨(cell2_below ⟨h.1, h.2.1⟩ hb).1, (cell2_below ⟨h.1, h.2.1⟩ hb).2, (cell2_below h.2.2 hb).1, (cell2_below h.2.2 hb).2⟩
theorem cell4_set {w : World} {b1 o1 b2 o2 b3 o3 b4 o4 B x y : Nat} {v1 v2 v3 v4 u u' : Value} (h : w.cell? ⟨b1, o1, none⟩ = some v1 ∧ w.cell? ⟨b2, o2, none⟩ = some v2 ∧ w.cell? ⟨b3, o3, none⟩ = some v3 ∧ w.cell? ⟨b4, o4, none⟩ = some v4) (hn : b1 ≠ B ∧ b2 ≠ B ∧ b3 ≠ B ∧ b4 ≠ B) :
    ((w.setCell ⟨B, x, none⟩ u).setCell ⟨B, y, none⟩ u').cell? ⟨b1, o1, none⟩ = some v1 ∧ ((w.setCell ⟨B, x, none⟩ u).setCell ⟨B, y, none⟩ u').cell? ⟨b2, o2, none⟩ = some v2 ∧ ((w.setCell ⟨B, x, none⟩ u).setCell ⟨B, y, none⟩ u').cell? ⟨b3, o3, none⟩ = some v3 ∧ ((w.setCell ⟨B, x, none⟩ u).setCell ⟨B, y, none⟩ u').cell? ⟨b4, o4, none⟩ = some v4 := by
  have k : ∀ {b o : Nat} {z : Value}, b ≠ B → w.cell? ⟨b, o, none⟩ = some z → ((w.setCell ⟨B, x, none⟩ u).setCell ⟨B, y, none⟩ u').cell? ⟨b, o, none⟩ = some z := fun hb hc => by rw [cell_other hb, cell_other hb, hc]
  exact ⟨k hn.1 h.1, k hn.2.1 h.2.1, k hn.2.2.1 h.2.2.1, k hn.2.2.2 h.2.2.2⟩

theorem field_ent (p1 : Int) (a : Option Addr) (n c : Nat) (w : World) : (Instr.field 130 (.agg #[.int .i64 p1, .slice a n c]) 0).run Try.prog w = .ok (.agg #[.int .i64 p1, .slice a n c]) w := by
  first
    | kernel_rfl
    | (simp [Instr.field, Try.underlying130]; done)
    | rfl

set_option maxRecDepth 100000 in
set_option maxHeartbeats 1000000 in
theorem alex2_any (g : Nat) (M : Nat → Nat → Pol) (w : World) (hm : MatC w g 2 M) (hw : Wi (-50) 50 (M 0 0)) :
    Calls Try.prog 74 #[.slice (some ⟨g, 0, none⟩) 2 2] w (GivesE (alex2N (M 0 0)) w) := by
  obtain ⟨e, he⟩ : ∃ e, M 0 0 = e := ⟨_, rfl⟩
  rw [he] at hw ⊢
  obtain ⟨ne, hne⟩ : ∃ ne, negN e = ne := ⟨_, rfl⟩
  obtain ⟨r, hr⟩ : ∃ r, plusN (0, [1]) ne = r := ⟨_, rfl⟩
  obtain ⟨d, hd⟩ : ∃ d, det1N r = d := ⟨_, rfl⟩
  obtain ⟨p, hp⟩ : ∃ p, normP d = p := ⟨_, rfl⟩
  rw [show alex2N e = p by rw [alex2N, hne, hr, hd, hp]]
  have w1 : Wi (-50) 51 ne := by
    rw [← hne]
    have := timesN_wi (A := -50) (B := 50) (A' := 0) (B' := 1) (f := (0, [-1])) (by omega) (by omega) (by omega) (by omega) hw ⟨by simp, by simp⟩
    exact this
  have w2 : Wi (-50) 51 r := by
    rw [← hr]; exact plusN_wi (by omega) (by omega) ⟨by simp, by simp⟩ w1
  have w3 : Wi (-50) 52 d := by
    rw [← hd]
    have := timesN_wi (A := -50) (B := 51) (A' := 0) (B' := 1) (f := (0, [1])) (by omega) (by omega) (by omega) (by omega) w2 ⟨by simp, by simp⟩
    exact plusN_wi (by omega) (by omega) ⟨by simp, by simp⟩ this
  unfold Wi at w1 w3
  unfold Wi at hw
  obtain ⟨w0, hw0⟩ : ∃ w0, w0 = w.alloc (.cells #[.int .i64 0, .slice none 0 0] 56) := ⟨_, rfl⟩
  have hb0 : Below w.heap.size w w0 := by rw [hw0]; exact (Below.refl _ w).alloc (Nat.le_refl _) _
  have hr0 : w0.heap[w.heap.size]? = some (.cells #[.int .i64 0, .slice none 0 0] 56 (0, 0)) := by rw [hw0]; exact heap_alloc_new w _
  have hs0 : w0.heap.size = w.heap.size + 1 := by rw [hw0]; simp
  have HU := unit_any 1 w0 (by omega)
  rw [hw0] at HU
  unfold GivesM at HU
  rw [show ((1 : Nat) : Int) = 1 from rfl] at HU
  have HU := Lib.hid HU
  have H0 := Lib.hid (And.intro hb0 hr0)
  have HM := Lib.hid hm
  have HE := Lib.hid he
  have HW2 := Lib.hid w2
  have HNE := Lib.hid (fun (a : Option Addr) (c : Nat) (wx : World) (h : IntsT wx a e.2) => negative_any e.1 e.2.length c a e.2 wx rfl (by omega) (by omega) h)
  rw [show negN (e.1, e.2) = ne from hne] at HNE
  have HPL := Lib.hid (fun (a b : Option Addr) (c c' : Nat) (wx : World) (h : IntsT wx a [1]) (h' : IntsT wx b ne.2) => plus_any 0 ne.1 1 ne.2.length c c' a b [1] ne.2 wx rfl rfl (by omega) (by omega) (by omega) (by omega) h h')
  rw [show plusN (0, [1]) (ne.1, ne.2) = r from hr] at HPL
  have HNO := Lib.hid (fun (a : Option Addr) (c : Nat) (wx : World) (hc : d.2.length ≤ c) (h : IntsT wx a d.2) => normalized_any d.1 d.2.length c a d.2 wx rfl (by omega) (by omega) h hc)
  rw [show normP (d.1, d.2) = p from hp] at HNO
  have HD := Lib.hid hd
  unfold GivesE at HNE HPL HNO
  have hgl := hm.lt
  have HW0 := Lib.hid hw0
  clear hw0 hb0 hr0 hm he hw hne hr hd hp w1 w2 w3
  go_enter Try.func74, Try.ntmps74
  go_wp2_with (fail)
  refine HU.out.mono ?_
  rw [← HW0.out]
  rintro ed w5 ⟨gr, rfl, hgr, hmr, hbr⟩
  have HI : Hid (MatC w5 gr 1 unitN ∧ Below w0.heap.size w0 w5) := Lib.hid ⟨hmr, hbr⟩
  have HGR := Lib.hid hgr
  clear hmr hbr
  go_wp2_with (fail)
  go_loopw [12] (fun v wr => (v = .int .i64 0 ∧ Hid (MatC wr gr 1 unitN ∧ Below w0.heap.size w0 wr)) ∨ (v = .int .i64 1 ∧ Hid (MatC wr gr 1 (updM unitN 0 0 r) ∧ Below w0.heap.size w0 wr))) (fun v _ => 3 - (intOf v).toNat)
  case atStart => exact .inl ⟨rfl, HI⟩
  case round =>
    clear HI
    rcases hrel with ⟨rfl, HR⟩ | ⟨rfl, HR⟩
    · go_wp2_with (fail)
      go_loopw [17] (fun v wx => (v = .int .i64 0 ∧ Hid (MatC wx gr 1 unitN ∧ Below w0.heap.size w0 wx)) ∨ (v = .int .i64 1 ∧ Hid (MatC wx gr 1 (updM unitN 0 0 r) ∧ Below w0.heap.size w0 wx))) (fun v _ => 3 - (intOf v).toNat)
      case atStart => exact .inl ⟨rfl, HR⟩
      case round =>
        clear HR
        rename World => w3
        rcases hrel with ⟨rfl, HR⟩ | ⟨rfl, HR⟩
        · have hbw := H0.out.1.trans (HR.out.2.mono (by omega))
          have hm3 := HM.out.below hbw
          have r0 := HR.out.1.row (i := 0) (by omega)
          have r1 := hm3.row (i := 0) (by omega)
          obtain ⟨ea, ec, e0, e1, ez, _⟩ := (hm3.2 0 (by omega)).at (j := 0) (by omega)
          obtain ⟨ua, uc, u0, u1, uz, _⟩ := (HR.out.1.2 0 (by omega)).at (j := 0) (by omega)
          rw [HE.out] at e0 e1 ez
          rw [show unitN 0 0 = (0, [1]) from rfl] at u0 u1 uz
          simp only [Nat.add_zero, Nat.zero_mul, Nat.zero_add] at e0 e1 u0 u1 r0 r1
          have hgr0 := HGR.out
          have hglt := HR.out.1.lt
          have HR3 := Lib.hid HR.out
          have EZ := Lib.hid ez
          have UZ := Lib.hid uz
          have B0 := Below.refl w3.heap.size w3
          have B0d : Below w3.heap.size w3 w3.drew := B0.drew
          have s1 : w3.cell? ⟨gr, 0, none⟩ = some (.slice (some ⟨gr + 1, 0, none⟩) 1 1) ∧ w3.cell? ⟨g, 0, none⟩ = some (.slice (some ⟨g + 1, 0, none⟩) 2 2) ∧ w3.cell? ⟨g + 1, 0, none⟩ = some (.int .i64 e.1) ∧ w3.cell? ⟨g + 1, 1, none⟩ = some (.slice ea e.2.length ec) := ⟨r0, r1, e0, e1⟩
          have s1d : w3.drew.cell? ⟨gr, 0, none⟩ = some (.slice (some ⟨gr + 1, 0, none⟩) 1 1) ∧ w3.drew.cell? ⟨g, 0, none⟩ = some (.slice (some ⟨g + 1, 0, none⟩) 2 2) ∧ w3.drew.cell? ⟨g + 1, 0, none⟩ = some (.int .i64 e.1) ∧ w3.drew.cell? ⟨g + 1, 1, none⟩ = some (.slice ea e.2.length ec) := s1
          have hnn : gr ≠ gr + 1 ∧ g ≠ gr + 1 ∧ g + 1 ≠ gr + 1 ∧ g + 1 ≠ gr + 1 := by omega
          have hgrl : gr + 1 < w3.heap.size := by omega
          clear hm3 ez uz r0 r1 e0 e1 HR
          go_wp2_with (fail)
          refine wp_region_held_drew (S := (fun w' => w'.cell? ⟨gr, 0, none⟩ = some (.slice (some ⟨gr + 1, 0, none⟩) 1 1) ∧ w'.cell? ⟨g, 0, none⟩ = some (.slice (some ⟨g + 1, 0, none⟩) 2 2) ∧ w'.cell? ⟨g + 1, 0, none⟩ = some (.int .i64 e.1) ∧ w'.cell? ⟨g + 1, 1, none⟩ = some (.slice ea e.2.length ec))) (by kernel_rfl) ?_ (fun hHl0 => ?_)
          · (try dsimp only)
            first | with_reducible assumption
          refine wpAnyH_take (i := 0) (oi := _) (v := ?vv0x1) rfl (by kernel_rfl) (by kernel_rfl) (by kernel_rfl) (fun _ _ _ h => h) (Or.inl ⟨by rfl, ?hy0x1⟩) hHl0 ?rest0x1
          case hy0x1 => (intro wS hSw; (try dsimp only at hSw); go_simp; try with_reducible rfl)
          try simp only [Act.put, List.setIfInBounds_toArray, List.set_cons_zero, List.set_cons_succ]
          refine wpAnyH_take (i := 1) (oi := _) (v := ?vv0x2) rfl (by kernel_rfl) (by kernel_rfl) (by kernel_rfl) (fun _ _ _ h => h) (Or.inl ⟨by rfl, ?hy0x2⟩) hHl0 ?rest0x2
          case hy0x2 => (intro wS hSw; (try dsimp only at hSw); go_simp; try with_reducible rfl)
          try simp only [Act.put, List.setIfInBounds_toArray, List.set_cons_zero, List.set_cons_succ]
          refine wpAnyH_take (i := 2) (oi := _) (v := ?vv0x3) rfl (by kernel_rfl) (by kernel_rfl) (by kernel_rfl) (fun _ _ _ h => h) (Or.inl ⟨by rfl, ?hy0x3⟩) hHl0 ?rest0x3
          case hy0x3 => (intro wS hSw; (try dsimp only at hSw); go_simp; try with_reducible rfl)
          try simp only [Act.put, List.setIfInBounds_toArray, List.set_cons_zero, List.set_cons_succ]
          refine wpAnyH_take (i := 3) (oi := _) (v := ?vv0x4) rfl (by kernel_rfl) (by kernel_rfl) (by kernel_rfl) (fun _ _ _ h => h) (Or.inl ⟨by rfl, ?hy0x4⟩) hHl0 ?rest0x4
          case hy0x4 => (intro wS hSw; (try dsimp only at hSw); go_simp; try with_reducible rfl)
          try simp only [Act.put, List.setIfInBounds_toArray, List.set_cons_zero, List.set_cons_succ]
          refine wpAnyH_take (i := 4) (oi := _) (v := ?vv0x5) rfl (by kernel_rfl) (by kernel_rfl) (by kernel_rfl) (fun _ _ _ h => h) (Or.inl ⟨by rfl, ?hy0x5⟩) hHl0 ?rest0x5
          case hy0x5 => (intro wS hSw; (try dsimp only at hSw); go_simp; try with_reducible rfl)
          try simp only [Act.put, List.setIfInBounds_toArray, List.set_cons_zero, List.set_cons_succ]
          refine wpAnyH_take (i := 5) (oi := _) (v := ?vv0x6) rfl (by kernel_rfl) (by kernel_rfl) (by kernel_rfl) (fun _ _ _ h => h) (Or.inl ⟨by rfl, ?hy0x6⟩) hHl0 ?rest0x6
          case hy0x6 => (intro wS hSw; (try dsimp only at hSw); go_simp; try with_reducible rfl)
          try simp only [Act.put, List.setIfInBounds_toArray, List.set_cons_zero, List.set_cons_succ]
          refine wpAnyH_take (i := 6) (oi := _) (v := ?vv0x7) rfl (by kernel_rfl) (by kernel_rfl) (by kernel_rfl) (fun _ _ _ h => h) (Or.inl ⟨by rfl, ?hy0x7⟩) hHl0 ?rest0x7
          case hy0x7 => (intro wS hSw; (try dsimp only at hSw); go_simp; try with_reducible rfl)
          try simp only [Act.put, List.setIfInBounds_toArray, List.set_cons_zero, List.set_cons_succ]
          refine wpAnyH_take (i := 7) (oi := _) (v := ?vv0x8) rfl (by kernel_rfl) (by kernel_rfl) (by kernel_rfl) (fun _ _ _ h => h) (Or.inl ⟨by rfl, ?hy0x8⟩) hHl0 ?rest0x8
          case hy0x8 => (intro wS hSw; (try dsimp only at hSw); go_simp; try with_reducible rfl)
          try simp only [Act.put, List.setIfInBounds_toArray, List.set_cons_zero, List.set_cons_succ]
          refine wpAnyH_take (i := 8) (oi := _) (v := ?vv0x9) rfl (by kernel_rfl) (by kernel_rfl) (by kernel_rfl) (fun _ _ _ h => h) (Or.inl ⟨by rfl, ?hy0x9⟩) hHl0 ?rest0x9
          case hy0x9 => (intro wS hSw; (try dsimp only at hSw); go_simp; try with_reducible rfl)
          try simp only [Act.put, List.setIfInBounds_toArray, List.set_cons_zero, List.set_cons_succ]
          refine wpAnyH_take (i := 9) (oi := _) (v := ?vv0x10) rfl (by kernel_rfl) (by kernel_rfl) (by kernel_rfl) (fun _ _ _ h => h) (Or.inl ⟨by rfl, ?hy0x10⟩) hHl0 ?rest0x10
          case hy0x10 => (intro wS hSw; (try dsimp only at hSw); go_simp; try with_reducible rfl)
          try simp only [Act.put, List.setIfInBounds_toArray, List.set_cons_zero, List.set_cons_succ]
          refine wpAnyH_take (i := 10) (oi := _) (v := ?vv0x11) rfl (by kernel_rfl) (by kernel_rfl) (by kernel_rfl) (fun _ _ _ h => h) (Or.inl ⟨by rfl, ?hy0x11⟩) hHl0 ?rest0x11
          case hy0x11 => (intro wS hSw; (try dsimp only at hSw); go_simp; try with_reducible rfl)
          try simp only [Act.put, List.setIfInBounds_toArray, List.set_cons_zero, List.set_cons_succ]
          refine wpAnyH_take (i := 12) (oi := _) (v := ?vv0x12) rfl (by kernel_rfl) (by kernel_rfl) (by kernel_rfl) (fun _ _ _ h => h) (Or.inl ⟨by rfl, ?hy0x12⟩) hHl0 ?rest0x12
          case hy0x12 => (intro wS hSw; (try dsimp only at hSw); go_simp; try with_reducible rfl)
          try simp only [Act.put, List.setIfInBounds_toArray, List.set_cons_zero, List.set_cons_succ]
          refine wpAnyH_take (i := 13) (oi := _) (v := ?vv0x13) rfl (by kernel_rfl) (by kernel_rfl) (by kernel_rfl) (fun _ _ _ h => h) (Or.inl ⟨by rfl, ?hy0x13⟩) hHl0 ?rest0x13
          case hy0x13 => (intro wS hSw; (try dsimp only at hSw); go_simp; try with_reducible rfl)
          try simp only [Act.put, List.setIfInBounds_toArray, List.set_cons_zero, List.set_cons_succ]
          refine wpAnyH_take (i := 14) (oi := _) (v := ?vv0x14) rfl (by kernel_rfl) (by kernel_rfl) (by kernel_rfl) (fun _ _ _ h => h) (Or.inl ⟨by rfl, ?hy0x14⟩) hHl0 ?rest0x14
          case hy0x14 => (intro wS hSw; (try dsimp only at hSw); go_simp; try with_reducible rfl)
          try simp only [Act.put, List.setIfInBounds_toArray, List.set_cons_zero, List.set_cons_succ]
          refine wpAnyH_take (i := 15) (oi := _) (v := ?vv0x15) rfl (by kernel_rfl) (by kernel_rfl) (by kernel_rfl) (fun _ _ _ h => h) (Or.inl ⟨by rfl, ?hy0x15⟩) hHl0 ?rest0x15
          case hy0x15 => (intro wS hSw; (try dsimp only at hSw); go_simp; try with_reducible rfl)
          try simp only [Act.put, List.setIfInBounds_toArray, List.set_cons_zero, List.set_cons_succ]
          refine wpAnyH_take (i := 16) (oi := _) (v := ?vv0x16) rfl (by kernel_rfl) (by kernel_rfl) (by kernel_rfl) (fun _ _ _ h => h) (Or.inl ⟨by rfl, ?hy0x16⟩) hHl0 ?rest0x16
          case hy0x16 => (intro wS hSw; (try dsimp only at hSw); go_simp; try with_reducible rfl)
          try simp only [Act.put, List.setIfInBounds_toArray, List.set_cons_zero, List.set_cons_succ]
          refine wpAnyH_take (i := 17) (oi := _) (v := ?vv0x17) rfl (by kernel_rfl) (by kernel_rfl) (by kernel_rfl) (fun _ _ _ h => h) (Or.inl ⟨by rfl, ?hy0x17⟩) hHl0 ?rest0x17
          case hy0x17 => (intro wS hSw; (try dsimp only at hSw); go_simp; try with_reducible rfl)
          try simp only [Act.put, List.setIfInBounds_toArray, List.set_cons_zero, List.set_cons_succ]
          refine wpAnyH_take (i := 18) (oi := _) (v := ?vv0x18) rfl (by kernel_rfl) (by kernel_rfl) (by kernel_rfl) (fun _ _ _ h => h) (Or.inl ⟨by rfl, ?hy0x18⟩) hHl0 ?rest0x18
          case hy0x18 => (intro wS hSw; (try dsimp only at hSw); go_simp; try with_reducible rfl)
          try simp only [Act.put, List.setIfInBounds_toArray, List.set_cons_zero, List.set_cons_succ]
          refine wpAnyH_ready (rs := [11, 19]) (by kernel_rfl) (by simp) ?_
          refine AllReadyH.cons (o := _) rfl (fun K hK => ?_) ?_
          · go_simp
            try go_wp2_with (fail)
            refine hK.out _ _ ?_ (fun hHl19 => ?_)
            · (try dsimp only)
              first | with_reducible assumption
            clear hK K hHl0
            try simp only [Act.put, List.setIfInBounds_toArray, List.set_cons_zero, List.set_cons_succ]
            refine wpAnyH_ready (rs := [19]) (by kernel_rfl) (by simp) ?_
            refine AllReadyH.cons (o := _) rfl (fun K hK => ?_) ?_
            · go_simp
              first | (go_at_call 102; refine (HNE.out _ _ _ (EZ.out.below (by first | with_reducible exact B0 | with_reducible exact B0d))).mono ?_; rintro ed w5 ⟨a5, c5, rfl, hz5, hb5, _⟩; have hB5 : Below w3.heap.size w3 w5 := (by first | with_reducible exact B0.trans hb5 | with_reducible exact B0d.trans (hb5.mono B0d.size)); have K5 := cell4_below s1 hB5; have u0' := (hB5.cell (p := ⟨gr + 1, 0, none⟩) hgrl).trans u0; have u1' := (hB5.cell (p := ⟨gr + 1, 1, none⟩) hgrl).trans u1; have H5 := Lib.hid (And.intro hz5 hB5); clear hb5 hz5) | (go_at_call 101; refine (HPL.out _ _ _ _ _ (UZ.out.below H5.out.2) H5.out.1).mono ?_; rintro ed w6 ⟨a6, c6, rfl, hz6, hb6, hl6⟩; have hB6 := hB5.trans (hb6.mono hB5.size); have K6 := cell4_below s1 hB6; have K6s := cell4_set (x := 0) (y := 1) (u := .int .i64 r.1) (u' := .slice a6 r.2.length c6) K6 hnn; have q0 := (hB6.cell (p := ⟨gr + 1, 0, none⟩) hgrl).trans u0; have q1 := (hB6.cell (p := ⟨gr + 1, 1, none⟩) hgrl).trans u1; have hM6 := HR3.out.1.below hB6; have q2 := (hM6.2 0 (by omega)).free 0; have q3 := (hM6.2 0 (by omega)).free 1; have H6 := Lib.hid (And.intro hz6 (And.intro hB6 (And.intro hl6 hM6))); clear hM6 hz6 hb6 hl6)
              try go_wp2_with (fail)
              refine hK.out _ _ ?_ (fun hHl20 => ?_)
              · (try dsimp only)
                first | with_reducible assumption
              clear hK K hHl19
              try simp only [Act.put, List.setIfInBounds_toArray, List.set_cons_zero, List.set_cons_succ]
              refine wpAnyH_ready (rs := [20]) (by kernel_rfl) (by simp) ?_
              refine AllReadyH.cons (o := _) rfl (fun K hK => ?_) ?_
              · go_simp
                first | (go_at_call 102; refine (HNE.out _ _ _ (EZ.out.below (by first | with_reducible exact B0 | with_reducible exact B0d))).mono ?_; rintro ed w5 ⟨a5, c5, rfl, hz5, hb5, _⟩; have hB5 : Below w3.heap.size w3 w5 := (by first | with_reducible exact B0.trans hb5 | with_reducible exact B0d.trans (hb5.mono B0d.size)); have K5 := cell4_below s1 hB5; have u0' := (hB5.cell (p := ⟨gr + 1, 0, none⟩) hgrl).trans u0; have u1' := (hB5.cell (p := ⟨gr + 1, 1, none⟩) hgrl).trans u1; have H5 := Lib.hid (And.intro hz5 hB5); clear hb5 hz5) | (go_at_call 101; refine (HPL.out _ _ _ _ _ (UZ.out.below H5.out.2) H5.out.1).mono ?_; rintro ed w6 ⟨a6, c6, rfl, hz6, hb6, hl6⟩; have hB6 := hB5.trans (hb6.mono hB5.size); have K6 := cell4_below s1 hB6; have K6s := cell4_set (x := 0) (y := 1) (u := .int .i64 r.1) (u' := .slice a6 r.2.length c6) K6 hnn; have q0 := (hB6.cell (p := ⟨gr + 1, 0, none⟩) hgrl).trans u0; have q1 := (hB6.cell (p := ⟨gr + 1, 1, none⟩) hgrl).trans u1; have hM6 := HR3.out.1.below hB6; have q2 := (hM6.2 0 (by omega)).free 0; have q3 := (hM6.2 0 (by omega)).free 1; have H6 := Lib.hid (And.intro hz6 (And.intro hB6 (And.intro hl6 hM6))); clear hM6 hz6 hb6 hl6)
                try go_wp2_with (fail)
                refine hK.out _ _ ?_ (fun hHl21 => ?_)
                · (try dsimp only)
                  first | with_reducible assumption
                clear hK K hHl20
                try simp only [Act.put, List.setIfInBounds_toArray, List.set_cons_zero, List.set_cons_succ]
                refine wpAnyH_take (i := 21) (oi := _) (v := ?vv0x22) rfl (by kernel_rfl) (by kernel_rfl) (by kernel_rfl) (fun _ _ _ h => h) (Or.inl ⟨by rfl, ?hy0x22⟩) hHl21 ?rest0x22
                case hy0x22 => (intro wS hSw; (try dsimp only at hSw); go_simp; try with_reducible rfl)
                try simp only [Act.put, List.setIfInBounds_toArray, List.set_cons_zero, List.set_cons_succ]
                refine wpAnyH_ready (rs := [22]) (by kernel_rfl) (by simp) ?_
                refine AllReadyH.cons (o := _) rfl (fun K hK => ?_) ?_
                · go_simp
                  try go_wp2_with (fail)
                  refine hK.out _ _ ?_ (fun hHl23 => ?_)
                  · (try dsimp only)
                    first | with_reducible assumption
                  clear hK K hHl21
                  try simp only [Act.put, List.setIfInBounds_toArray, List.set_cons_zero, List.set_cons_succ]
                  refine wpAnyH_done (by kernel_rfl) ?_ _
                  go_wp2_with (fail)
                  have hput := H6.out.2.2.2.put (i := 0) (j := 0) (q := r) (by omega) (by omega) H6.out.1 H6.out.2.2.1
                  exact ⟨.inr ⟨rfl, Lib.hid ⟨hput, ((HR3.out.2.trans (H6.out.2.1.mono HR3.out.2.size)).setCell (p := ⟨gr + 1, 0, none⟩) (by simp; omega) _).setCell (p := ⟨gr + 1, 1, none⟩) (by simp; omega) _⟩⟩, by simp [intOf]⟩
                exact AllReadyH.nil
              exact AllReadyH.nil
            exact AllReadyH.nil
          refine AllReadyH.cons (o := _) rfl (fun K hK => ?_) ?_
          · go_simp
            first | (go_at_call 102; refine (HNE.out _ _ _ (EZ.out.below (by first | with_reducible exact B0 | with_reducible exact B0d))).mono ?_; rintro ed w5 ⟨a5, c5, rfl, hz5, hb5, _⟩; have hB5 : Below w3.heap.size w3 w5 := (by first | with_reducible exact B0.trans hb5 | with_reducible exact B0d.trans (hb5.mono B0d.size)); have K5 := cell4_below s1 hB5; have u0' := (hB5.cell (p := ⟨gr + 1, 0, none⟩) hgrl).trans u0; have u1' := (hB5.cell (p := ⟨gr + 1, 1, none⟩) hgrl).trans u1; have H5 := Lib.hid (And.intro hz5 hB5); clear hb5 hz5) | (go_at_call 101; refine (HPL.out _ _ _ _ _ (UZ.out.below H5.out.2) H5.out.1).mono ?_; rintro ed w6 ⟨a6, c6, rfl, hz6, hb6, hl6⟩; have hB6 := hB5.trans (hb6.mono hB5.size); have K6 := cell4_below s1 hB6; have K6s := cell4_set (x := 0) (y := 1) (u := .int .i64 r.1) (u' := .slice a6 r.2.length c6) K6 hnn; have q0 := (hB6.cell (p := ⟨gr + 1, 0, none⟩) hgrl).trans u0; have q1 := (hB6.cell (p := ⟨gr + 1, 1, none⟩) hgrl).trans u1; have hM6 := HR3.out.1.below hB6; have q2 := (hM6.2 0 (by omega)).free 0; have q3 := (hM6.2 0 (by omega)).free 1; have H6 := Lib.hid (And.intro hz6 (And.intro hB6 (And.intro hl6 hM6))); clear hM6 hz6 hb6 hl6)
            try go_wp2_with (fail)
            refine hK.out _ _ ?_ (fun hHl24 => ?_)
            · (try dsimp only)
              first | with_reducible assumption
            clear hK K hHl0
            try simp only [Act.put, List.setIfInBounds_toArray, List.set_cons_zero, List.set_cons_succ]
            refine wpAnyH_ready (rs := [11]) (by kernel_rfl) (by simp) ?_
            refine AllReadyH.cons (o := _) rfl (fun K hK => ?_) ?_
            · go_simp
              try go_wp2_with (fail)
              refine hK.out _ _ ?_ (fun hHl25 => ?_)
              · (try dsimp only)
                first | with_reducible assumption
              clear hK K hHl24
              try simp only [Act.put, List.setIfInBounds_toArray, List.set_cons_zero, List.set_cons_succ]
              refine wpAnyH_ready (rs := [20]) (by kernel_rfl) (by simp) ?_
              refine AllReadyH.cons (o := _) rfl (fun K hK => ?_) ?_
              · go_simp
                first | (go_at_call 102; refine (HNE.out _ _ _ (EZ.out.below (by first | with_reducible exact B0 | with_reducible exact B0d))).mono ?_; rintro ed w5 ⟨a5, c5, rfl, hz5, hb5, _⟩; have hB5 : Below w3.heap.size w3 w5 := (by first | with_reducible exact B0.trans hb5 | with_reducible exact B0d.trans (hb5.mono B0d.size)); have K5 := cell4_below s1 hB5; have u0' := (hB5.cell (p := ⟨gr + 1, 0, none⟩) hgrl).trans u0; have u1' := (hB5.cell (p := ⟨gr + 1, 1, none⟩) hgrl).trans u1; have H5 := Lib.hid (And.intro hz5 hB5); clear hb5 hz5) | (go_at_call 101; refine (HPL.out _ _ _ _ _ (UZ.out.below H5.out.2) H5.out.1).mono ?_; rintro ed w6 ⟨a6, c6, rfl, hz6, hb6, hl6⟩; have hB6 := hB5.trans (hb6.mono hB5.size); have K6 := cell4_below s1 hB6; have K6s := cell4_set (x := 0) (y := 1) (u := .int .i64 r.1) (u' := .slice a6 r.2.length c6) K6 hnn; have q0 := (hB6.cell (p := ⟨gr + 1, 0, none⟩) hgrl).trans u0; have q1 := (hB6.cell (p := ⟨gr + 1, 1, none⟩) hgrl).trans u1; have hM6 := HR3.out.1.below hB6; have q2 := (hM6.2 0 (by omega)).free 0; have q3 := (hM6.2 0 (by omega)).free 1; have H6 := Lib.hid (And.intro hz6 (And.intro hB6 (And.intro hl6 hM6))); clear hM6 hz6 hb6 hl6)
                try go_wp2_with (fail)
                refine hK.out _ _ ?_ (fun hHl26 => ?_)
                · (try dsimp only)
                  first | with_reducible assumption
                clear hK K hHl25
                try simp only [Act.put, List.setIfInBounds_toArray, List.set_cons_zero, List.set_cons_succ]
                refine wpAnyH_take (i := 21) (oi := _) (v := ?vv0x27) rfl (by kernel_rfl) (by kernel_rfl) (by kernel_rfl) (fun _ _ _ h => h) (Or.inl ⟨by rfl, ?hy0x27⟩) hHl26 ?rest0x27
                case hy0x27 => (intro wS hSw; (try dsimp only at hSw); go_simp; try with_reducible rfl)
                try simp only [Act.put, List.setIfInBounds_toArray, List.set_cons_zero, List.set_cons_succ]
                refine wpAnyH_ready (rs := [22]) (by kernel_rfl) (by simp) ?_
                refine AllReadyH.cons (o := _) rfl (fun K hK => ?_) ?_
                · go_simp
                  try go_wp2_with (fail)
                  refine hK.out _ _ ?_ (fun hHl28 => ?_)
                  · (try dsimp only)
                    first | with_reducible assumption
                  clear hK K hHl26
                  try simp only [Act.put, List.setIfInBounds_toArray, List.set_cons_zero, List.set_cons_succ]
                  refine wpAnyH_done (by kernel_rfl) ?_ _
                  go_wp2_with (fail)
                  have hput := H6.out.2.2.2.put (i := 0) (j := 0) (q := r) (by omega) (by omega) H6.out.1 H6.out.2.2.1
                  exact ⟨.inr ⟨rfl, Lib.hid ⟨hput, ((HR3.out.2.trans (H6.out.2.1.mono HR3.out.2.size)).setCell (p := ⟨gr + 1, 0, none⟩) (by simp; omega) _).setCell (p := ⟨gr + 1, 1, none⟩) (by simp; omega) _⟩⟩, by simp [intOf]⟩
                exact AllReadyH.nil
              exact AllReadyH.nil
            exact AllReadyH.nil
          exact AllReadyH.nil
        · go_wp2_with (fail)
          exact ⟨.inr ⟨rfl, HR⟩, by simp [intOf]⟩
    · have hupd : updM unitN 0 0 r 0 0 = r := by simp [updM]
      have HDT := det1_any gr (updM unitN 0 0 r) wr HR.out.1 (by rw [hupd]; exact ⟨by have := HW2.out.1; omega, by have := HW2.out.2; omega⟩)
      rw [hupd, HD.out] at HDT
      have HDT := Lib.hid HDT
      have hbw := H0.out.1.trans (HR.out.2.mono (by omega))
      have hbx := (HR.out.2.block w.heap.size (by omega)).trans H0.out.2
      have HBW := Lib.hid (And.intro hbw hbx)
      unfold GivesE at HDT
      clear hbw hbx hupd
      go_wp2_with (fail)
      refine HDT.out.mono ?_
      rintro ed w6 ⟨a6, c6, rfl, hz6, hb6, hl6⟩
      have H6 := Lib.hid (And.intro hz6 (And.intro (HBW.out.1.trans (hb6.mono HBW.out.1.size)) (And.intro hl6 ((hb6.block w.heap.size (Array.getElem?_eq_some_iff.1 HBW.out.2).1).trans HBW.out.2))))
      clear hz6 hb6 hl6
      go_wp2_with (fail)
      refine (HNO.out _ _ _ H6.out.2.2.1 H6.out.1).mono ?_
      rintro ed w7 ⟨a7, c7, rfl, hz7, hb7, hl7⟩
      have hbx7 := (hb7.block w.heap.size (Array.getElem?_eq_some_iff.1 H6.out.2.2.2).1).trans H6.out.2.2.2
      have H7 := Lib.hid (And.intro hz7 (And.intro (H6.out.2.1.trans (hb7.mono H6.out.2.1.size)) (And.intro hl7 hbx7)))
      have k0 := box_cell0 hbx7
      have k1 := box_cell1 hbx7
      have f0 := row_free hbx7 0
      have f1 := row_free hbx7 1
      clear hz7 hb7 hl7 hbx7
      have hfe := field_ent p.1 a7 p.2.length c7 w7
      go_wp2_with (fail)
      have y1 := heap_setCell_self (i := 0) H7.out.2.2.2 (.int .i64 p.1)
      have y2 := heap_setCell_self (i := 1) y1 (.slice a7 p.2.length c7)
      refine bodyPost_ret_by (results_cell_row (P := Try.prog) rfl _ _ w.heap.size 56 #[.int .i64 p.1, .slice a7 p.2.length c7] (0, 0) _ rfl y2 Try.underlying56 rfl (by kernel_rfl)) rfl ?_
      exact ⟨a7, c7, rfl, (H7.out.1.setCell H7.out.2.2.2 (by decide)).setCell y1 (by decide), (H7.out.2.1.setCell (p := ⟨w.heap.size, 0, none⟩) (Nat.le_refl _) _).setCell (p := ⟨w.heap.size, 1, none⟩) (Nat.le_refl _) _, H7.out.2.2.1⟩

end Go.Proofs.Ytbcggbmjbljnfaa
