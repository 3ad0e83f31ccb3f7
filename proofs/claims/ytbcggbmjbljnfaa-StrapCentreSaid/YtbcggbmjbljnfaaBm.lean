/-
  strap: 'ofWord' for normal forms.
-/
import Derived.Test.YtbcggbmjbljnfaaBl
namespace Go.Proofs.Ytbcggbmjbljnfaa
open Go.RowKit Go.Sort

theorem box4_2 {w : World} {H : Nat} {x0 x1 x2 x3 : Value} {T : TypeId} (h : w.heap[H]? = some (.cells #[x0, x1, x2, x3] T (0, 0))) : w.cell? ⟨H, 2, none⟩ = some x2 := by simp [World.cell?, h]
theorem box4_3 {w : World} {H : Nat} {x0 x1 x2 x3 : Value} {T : TypeId} (h : w.heap[H]? = some (.cells #[x0, x1, x2, x3] T (0, 0))) : w.cell? ⟨H, 3, none⟩ = some x3 := by simp [World.cell?, h]
/-- A braid that is handed back, its slice opened. -/
def GivesB2 (n : Nat) (pw : Int) (ps : List (List Nat)) (wr : World) (e : Ending) (w' : World) : Prop := ∃ a c, e = .returned (.agg #[.int .i64 pw, .slice a ps.length c]) ∧ FacV w' n (.slice a ps.length c) ps ∧ Below wr.heap.size wr w'
theorem GivesB.two {n : Nat} {pw : Int} {ps : List (List Nat)} {wr wx : World} {e : Ending} {w' : World} (h : GivesB n pw ps wx e w') (hb : Below wr.heap.size wr wx) : GivesB2 n pw ps wr e w' := by
  obtain ⟨v, rfl, ⟨fv, rfl, hf⟩, hb2⟩ := h
  obtain ⟨a, c, vs, rfl, hq⟩ := id hf
  exact ⟨a, c, rfl, hf, hb.trans (hb2.mono hb.size)⟩

set_option maxRecDepth 100000 in
set_option maxHeartbeats 4000000 in
theorem ofWordB_any (n f b m cap : Nat) (a : Option Addr) (ws : List Int) (r : Int × List (List Nat)) (w : World) (h1 : 2 ≤ n) (hn : n ≤ 100) (hm : m ≤ 60) (hl : ws.length = m) (hz : Ints w a ws) (hws : ∀ z ∈ ws, z ≠ 0 ∧ -(n : Int) < z ∧ z < n) (hc : w.cell? ⟨b, 0, none⟩ = some (.int .i64 (n : Int))) (hq : normTo f n (0, []) ws = some r) :
    Calls Try.prog 60 #[imgB b, .slice a m cap] w (GivesB n r.1 r.2 w) := by
  unfold imgB
  obtain ⟨w0, hw0⟩ : ∃ w0, w0 = (((w.alloc (.cells #[.int .i64 0, .slice none 0 0, .func (.func 85) #[] #[.pointer (some ⟨b, 0, none⟩)], .func (.func 87) #[] #[]] 93)).alloc (.cells #[.int .i64 0, .slice none 0 0] 37)).alloc (.cells #[.int .i64 0, .slice none 0 0] 37)) := ⟨_, rfl⟩
  have H0 : Hid (Below w.heap.size w w0 ∧ w0.heap[w.heap.size]? = some (.cells #[.int .i64 0, .slice none 0 0, .func (.func 85) #[] #[.pointer (some ⟨b, 0, none⟩)], .func (.func 87) #[] #[]] 93 (0, 0)) ∧ w0.heap[w.heap.size + 1]? = some (.cells #[.int .i64 0, .slice none 0 0] 37 (0, 0)) ∧
      BrBox w0 n (w.heap.size + 1 + 1) 0 []) := Lib.hid (by
    refine ⟨?_, ?_, ?_, .slice none 0 0, ?_, FacV.nil _ _⟩
    · rw [hw0]; exact ((((Below.refl _ w).alloc (Nat.le_refl _) _).alloc (by simp) _).alloc (by simp; omega) _)
    · rw [hw0, Below.heap_alloc _ _ _ (by simp; omega), Below.heap_alloc _ _ _ (by simp)]; exact heap_alloc_new _ _
    · rw [hw0, Below.heap_alloc _ _ _ (by simp), show ∀ o, w.heap.size + 1 = (w.alloc o).heap.size by simp]; exact heap_alloc_new _ _
    · rw [hw0, show ∀ o o', w.heap.size + 1 + 1 = ((w.alloc o).alloc o').heap.size by simp]; exact heap_alloc_new _ _)
  have hs0 : w.heap.size + 1 + 1 < w0.heap.size := by rw [hw0]; simp
  have HW0 := Lib.hid hw0
  have HX := Lib.hid hz.at
  have HL := Lib.hid hl
  have HWS := Lib.hid hws
  have HC := Lib.hid hc
  have hcb := World.block_lt_of_cell? w _ hc
  have HQ := Lib.hid hq
  clear hw0 hz hl hws hc hq
  go_enter Try.func60, Try.ntmps60
  go_wp2_with (fail)
  rw [← HW0.out]
  go_loopw [12, 7] (fun i _ wr => ∃ k : Nat, k ≤ m ∧ i = .int .i64 k ∧ Hid (Below (w.heap.size + 1 + 1) w0 wr ∧ ∃ cur, BrBox wr n (w.heap.size + 1 + 1) cur.1 cur.2 ∧ normTo f n cur (ws.drop k) = some r ∧ cur.2.length ≤ k ∧ -(k : Int) ≤ cur.1 ∧ cur.1 + (cur.2.length : Int) ≤ (k : Int))) (fun i _ _ => m - (intOf i).toNat)
  case atStart => exact ⟨0, Nat.zero_le _, rfl, Lib.hid ⟨Below.refl _ _, (0, []), H0.out.2.2.2, by simpa using HQ.out, by simp, by simp, by simp⟩⟩
  case round =>
    obtain ⟨k, hk, rfl, HR⟩ := hrel
    obtain ⟨hb, cur, ⟨fv, hrow, hfv⟩, hpr, hc1, hc2, hc3⟩ := HR.out
    obtain ⟨a3, c3, v3, rfl, hq3⟩ := id hfv
    clear hq3
    obtain ⟨m3, hm3⟩ : ∃ m3, cur.2.length = m3 := ⟨_, rfl⟩
    obtain ⟨pc, hpc⟩ : ∃ pc, cur.1 = pc := ⟨_, rfl⟩
    rw [hm3, hpc] at hrow
    have k0 := box_cell0 hrow
    have k1 := box_cell1 hrow
    have HR4 : Hid (wr.heap[w.heap.size + 1 + 1]? = some (.cells #[.int .i64 pc, .slice a3 m3 c3] 37 (0, 0)) ∧ FacV wr n (.slice a3 m3 c3) cur.2 ∧ normTo f n cur (ws.drop k) = some r ∧ cur.2.length ≤ k ∧ -(k : Int) ≤ cur.1 ∧ cur.1 + (cur.2.length : Int) ≤ (k : Int) ∧ cur.2.length = m3 ∧ cur.1 = pc) := Lib.hid ⟨hrow, by rw [← hm3]; exact hfv, hpr, hc1, hc2, hc3, hm3, hpc⟩
    have HB := Lib.hid hb
    have hsr := hb.size
    clear hrow hfv hpr hc1 hc2 hc3 hm3 hpc HR
    by_cases hlt : k < m
    · have hkI : (k : Int) < (m : Int) := by omega
      have hkL : k < ws.length := by rw [HL.out]; exact hlt
      have hbw := H0.out.1.trans (HB.out.mono (B' := w.heap.size) (by omega))
      rcases HX.out with h | ⟨ba, oa, rfl, hca⟩
      · rw [h] at hkL; simp at hkL
      have c0 := (hbw.cell (p := ⟨ba, oa + k, none⟩) (World.block_lt_of_cell? w _ (hca k hkL))).trans (hca k hkL)
      obtain ⟨z, hz⟩ : ∃ z, ws[k]?.getD 0 = z := ⟨_, rfl⟩
      rw [hz] at c0
      rw [List.getElem?_eq_getElem hkL, Option.getD_some] at hz
      have hzv := HWS.out z (by rw [← hz]; exact List.getElem_mem _)
      have hpr := HR4.out.2.2.1
      rw [List.drop_eq_getElem_cons hkL, hz] at hpr
      obtain ⟨l, r', hl1, hl2, hl3⟩ := normTo_next hpr
      have hll := letN_len hl1
      have hpl := prodN_len hl2
      have hcl := HR4.out.2.2.2
      have HLE : Hid (∀ wx, Below wr.heap.size wr wx → Calls Try.prog 85 #[.int .i64 z, .pointer (some ⟨b, 0, none⟩)] wx (GivesB2 n l.1 l.2 wr)) := Lib.hid (fun wx hb => by
        refine (formLetter_any n f b z l wx h1 hn hzv.1 hzv.2.1 hzv.2.2 hl1 ?_).mono (fun e w' h => h.two hb)
        have hw := hbw.trans (hb.mono (B' := w.heap.size) (by omega))
        exact (hw.cell (p := ⟨b, 0, none⟩) hcb).trans HC.out)
      have HPR : Hid (∀ a5 c5 wx, Below wr.heap.size wr wx → FacV wx n (.slice a5 l.2.length c5) l.2 → Calls Try.prog 87 #[.agg #[.int .i64 pc, .slice a3 m3 c3], .agg #[.int .i64 l.1, .slice a5 l.2.length c5]] wx (GivesB2 n r'.1 r'.2 wr)) := Lib.hid (fun a5 c5 wx hb hf => by
        refine (product_any n f cur.1 l.1 _ _ cur.2 l.2 r' wx h1 hn (by omega) (by omega) (by omega) ⟨.slice a3 m3 c3, by rw [hcl.2.2.2.2], HR4.out.2.1.below hb⟩ ⟨_, rfl, hf⟩ hl2).mono (fun e w' h => h.two hb))
      have HNX := Lib.hid (And.intro hl3 (And.intro hll hpl))
      have him := (HB.out.block w.heap.size (by omega)).trans H0.out.2.1
      have k2 := box4_2 him
      have k3 := box4_3 him
      have HIM := Lib.hid him
      obtain ⟨ll, hll'⟩ : ∃ ll, l.2.length = ll := ⟨_, rfl⟩
      unfold GivesB2 at HLE HPR
      rw [hll'] at HLE HPR
      clear hca hz hpr hl1 hl2 hl3 hll hpl hcl him hbw hll' hzv hkL
      go_wp2_with (fail)
      go_region_law (first
        | (go_simp; go_at_call 85; refine (HLE.out _ (by first | exact Below.refl _ _ | exact Below.drew (Below.refl _ _))).mono ?_; rintro e w5 ⟨a5, c5, rfl, hf5, hb5⟩; have H5 := Lib.hid (And.intro hf5 hb5); have q2 := box4_2 ((H5.out.2.block w.heap.size (by omega)).trans HIM.out); have q3 := box4_3 ((H5.out.2.block w.heap.size (by omega)).trans HIM.out); have q0 := box_cell0 ((H5.out.2.block (w.heap.size + 1 + 1) (by omega)).trans HR4.out.1); have q1 := box_cell1 ((H5.out.2.block (w.heap.size + 1 + 1) (by omega)).trans HR4.out.1); clear hf5 hb5)
        | (go_simp; go_at_call 87; refine (HPR.out _ _ _ H5.out.2 H5.out.1).mono ?_; rintro e w6 ⟨a6, c6, rfl, hf6, hb6⟩; have H6 := Lib.hid (And.intro hf6 hb6); have p0 := box_cell0 ((H6.out.2.block (w.heap.size + 1 + 1) (by omega)).trans HR4.out.1); have p1 := box_cell1 ((H6.out.2.block (w.heap.size + 1 + 1) (by omega)).trans HR4.out.1); have g0 := row_free ((H6.out.2.block (w.heap.size + 1 + 1) (by omega)).trans HR4.out.1) 0; have g1 := row_free ((H6.out.2.block (w.heap.size + 1 + 1) (by omega)).trans HR4.out.1) 1; clear hf6 hb6))
      all_goals
        go_simp
        go_wp2_with (fail)
        have hbx : BrBox wr n (w.heap.size + 1 + 1) cur.1 cur.2 := ⟨_, by rw [HR4.out.2.2.2.2.2.2.2]; exact HR4.out.1, HR4.out.2.1⟩
        refine ⟨⟨k + 1, by omega, by go_num, Lib.hid ⟨((HB.out.trans (H6.out.2.mono (by omega))).setCell (p := ⟨w.heap.size + 1 + 1, 0, none⟩) (Nat.le_refl _) _).setCell (p := ⟨w.heap.size + 1 + 1, 1, none⟩) (Nat.le_refl _) _, r', (hbx.below H6.out.2).put h1 H6.out.1, HNX.out.1, ?_, ?_, ?_⟩⟩, by simp [intOf]; omega⟩
        · have := HNX.out.2; have := HR4.out.2.2.2; omega
        · have := HNX.out.2; have := HR4.out.2.2.2; omega
        · have := HNX.out.2; have := HR4.out.2.2.2; omega
    · obtain rfl : r = cur := by
        have hp := HR4.out.2.2.1
        rw [List.drop_of_length_le (by rw [HL.out]; omega)] at hp
        simpa [normTo] using hp.symm
      have hrow4 := (HB.out.block (w.heap.size + 1) (by omega)).trans H0.out.2.2.1
      have k0' := box_cell0 hrow4
      have k1' := box_cell1 hrow4
      have f0' := row_free hrow4 0
      have f1' := row_free hrow4 1
      have HBX : Hid (BrBox wr n (w.heap.size + 1) 0 []) := Lib.hid ⟨_, hrow4, FacV.nil _ _⟩
      have HFV := Lib.hid (HBX.out.put (pw' := pc) h1 HR4.out.2.1)
      have hrw : r.1 = pc := HR4.out.2.2.2.2.2.2.2
      clear hrow4
      go_wp2_with (fail)
      obtain ⟨fy, hby, hfy⟩ := HFV.out
      refine bodyPost_ret_by (results_cell_row (P := Try.prog) rfl _ _ (w.heap.size + 1) 37 #[.int .i64 pc, fy] (0, 0) _ rfl hby Try.underlying37 rfl (by kernel_rfl)) rfl ?_
      rw [hrw]
      exact ⟨_, rfl, ⟨_, rfl, hfy⟩, ((H0.out.1.trans (HB.out.mono (B' := w.heap.size) (by omega))).setCell (p := ⟨w.heap.size + 1, 0, none⟩) (by simp) _).setCell (p := ⟨w.heap.size + 1, 1, none⟩) (by simp) _⟩

end Go.Proofs.Ytbcggbmjbljnfaa
