/-
  strap: 'normalProduct'.
-/
import Derived.Test.YtbcggbmjbljnfaaBj
namespace Go.Proofs.Ytbcggbmjbljnfaa
open Go.RowKit Go.Sort

set_option maxRecDepth 100000 in
set_option maxHeartbeats 4000000 in
theorem product_any (n f : Nat) (pa pb : Int) (va vb : Value) (xs ys : List (List Nat)) (r : Int × List (List Nat)) (w : World) (h1 : 2 ≤ n) (hn : n ≤ 100) (hl : xs.length + ys.length ≤ 90) (hpa : -400 ≤ pa ∧ pa ≤ 400) (hpb : -400 ≤ pb ∧ pb ≤ 400) (hFa : BrV w n va pa xs) (hFb : BrV w n vb pb ys) (hq : prodN f n (pa, xs) (pb, ys) = some r) :
    Calls Try.prog 87 #[va, vb] w (GivesB n r.1 r.2 w) := by
  obtain ⟨fa, rfl, hFa⟩ := hFa
  obtain ⟨fb, rfl, hFb⟩ := hFb
  obtain ⟨ma, hma⟩ : ∃ ma, xs.length = ma := ⟨_, rfl⟩
  obtain ⟨mb, hmb⟩ : ∃ mb, ys.length = mb := ⟨_, rfl⟩
  obtain ⟨aa, ca, rfl⟩ : ∃ aa ca, fa = .slice aa ma ca := by obtain ⟨a, c, vs, rfl, _⟩ := hFa; exact ⟨a, c, by rw [hma]⟩
  obtain ⟨ab, cb, rfl⟩ : ∃ ab cb, fb = .slice ab mb cb := by obtain ⟨a, c, vs, rfl, _⟩ := hFb; exact ⟨a, c, by rw [hmb]⟩
  obtain ⟨od, hod⟩ : ∃ od, (pb.tmod 2 != 0) = od := ⟨_, rfl⟩
  unfold prodN at hq
  simp only [hod] at hq
  obtain ⟨w0, hw0⟩ : ∃ w0, w0 = (((w.alloc (.cells #[.int .i64 pa, .slice aa ma ca] 37)).alloc (.cells #[.int .i64 pb, .slice ab mb cb] 37)).alloc (.cells #[.int .i64 0, .slice none 0 0] 37)).alloc (.cells #[.int .i64 (pa + pb), .slice none 0 0] 37) := ⟨_, rfl⟩
  have hwr : IntKind.i64.wrap (pa + pb) = pa + pb := by rw [IntKind.wrap_i64]; omega
  have H0 : Hid (Below w.heap.size w w0 ∧ w0.heap[w.heap.size + 1]? = some (.cells #[.int .i64 pb, .slice ab mb cb] 37 (0, 0)) ∧ w0.heap[w.heap.size + 1 + 1]? = some (.cells #[.int .i64 0, .slice none 0 0] 37 (0, 0)) ∧
      Pro w0 (w.heap.size + 1 + 1 + 1) n (w.heap.size + 1 + 1 + 1) (pa + pb) [] 0 none 0 [] w0) := Lib.hid (by
    refine ⟨?_, ?_, ?_, Below.refl _ _, ?_, ⟨rfl, .inl ⟨rfl, rfl⟩⟩, trivial, (fun g hg => by cases hg), rfl⟩
    · rw [hw0]; exact ((((Below.refl _ w).alloc (Nat.le_refl _) _).alloc (by simp) _).alloc (by simp; omega) _).alloc (by simp; omega) _
    · rw [hw0, Below.heap_alloc _ _ _ (by simp), Below.heap_alloc _ _ _ (by simp), show w.heap.size + 1 = (w.alloc (.cells #[.int .i64 pa, .slice aa ma ca] 37)).heap.size by simp]; exact heap_alloc_new _ _
    · rw [hw0, Below.heap_alloc _ _ _ (by simp), show w.heap.size + 1 + 1 = ((w.alloc (.cells #[.int .i64 pa, .slice aa ma ca] 37)).alloc (.cells #[.int .i64 pb, .slice ab mb cb] 37)).heap.size by simp]; exact heap_alloc_new _ _
    · rw [hw0, show w.heap.size + 1 + 1 + 1 = (((w.alloc (.cells #[.int .i64 pa, .slice aa ma ca] 37)).alloc (.cells #[.int .i64 pb, .slice ab mb cb] 37)).alloc (.cells #[.int .i64 0, .slice none 0 0] 37)).heap.size by simp]; exact heap_alloc_new _ _)
  have hs0 : w.heap.size + 1 + 1 + 1 < w0.heap.size := by rw [hw0]; simp
  have HW0 := Lib.hid hw0
  have HFA := Lib.hid hFa
  have HFB := Lib.hid hFb
  have HQ := Lib.hid hq
  have HMA := Lib.hid hma
  have HMB := Lib.hid hmb
  have HFL : Hid (∀ k, k < ma → (flips n od xs).take (k + 1) = (flips n od xs).take k ++ [if od then flipN n (xs[k]?.getD []) else xs[k]?.getD []]) := Lib.hid (fun k hk => by
    have hkl : k < xs.length := by omega
    rw [List.take_add_one]
    simp [flips, hkl])
  have HFE : Hid ((flips n od xs).take ma = flips n od xs ∧ (flips n od xs).length = ma) := Lib.hid ⟨List.take_of_length_le (by simp [flips, hma]), by simp [flips, hma]⟩
  have hmaI : ma ≤ 90 := by omega
  have hmbI : ma + mb ≤ 90 := by omega
  clear hw0 hFa hFb hq hma hmb hl
  go_enter Try.func87, Try.ntmps87
  go_wp2_with (fail)
  rw [← HW0.out]
  go_loopw [19, 7] (fun i _ wr => ∃ k : Nat, k ≤ ma ∧ i = .int .i64 k ∧ Hid (∃ a c vs, Pro w0 (w.heap.size + 1 + 1 + 1) n (w.heap.size + 1 + 1 + 1) (pa + pb) ((flips n od xs).take k) k a c vs wr)) (fun i _ _ => ma - (intOf i).toNat)
  case atStart => exact ⟨0, Nat.zero_le _, rfl, Lib.hid ⟨none, 0, [], by simpa using H0.out.2.2.2⟩⟩
  case round =>
    obtain ⟨k, hk, rfl, HP⟩ := hrel
    obtain ⟨a, c, vs, hP⟩ := HP.out
    have HP2 := Lib.hid hP
    have hrow := hP.2.1
    have hszr := hP.1.size
    have hrb := (hP.1.block (w.heap.size + 1) (by omega)).trans H0.out.2.1
    have kpb : wr.cell? ⟨w.heap.size + 1, 0, none⟩ = some (.int .i64 pb) := by simp [World.cell?, hrb]
    have kfb : wr.cell? ⟨w.heap.size + 1, 1, none⟩ = some (.slice ab mb cb) := by simp [World.cell?, hrb]
    clear hP HP hrb
    by_cases hlt : k < ma
    · have hkI : (k : Int) < (ma : Int) := by omega
      have hcell := HFA.out.at (i := k) (by rw [HMA.out]; exact hlt)
      obtain ⟨b, off, rfl, a', c', c0w, hin, hz⟩ := hcell
      have hbw := H0.out.1.trans (HP2.out.1.mono (B' := w.heap.size) (by omega))
      have c0 := (hbw.cell (p := ⟨b, off + k, none⟩) (World.block_lt_of_cell? w _ c0w)).trans c0w
      have HZW := Lib.hid hz
      have HZ := Lib.hid (hz.below hbw)
      have HIN := Lib.hid hin
      have HBW := Lib.hid hbw
      clear c0w hin hz hbw
      cases hod' : od with
      | false =>
        subst hod'
        have hev : pb.tmod 2 = 0 := by simpa using hod
        have HOFF : Hid (∀ g, (Value.slice a k c).ownBlock = some g → Off g a') := Lib.hid (fun g hg => by
          have := (HP2.out.2.2.1.lt g hg).1
          exact HZW.out.off HIN.out.1 (by omega) (by omega))
        have HN : Hid ((wr.alloc (.cells #[.slice a' n c'] 22)).ownsRow (w.heap.size + 1 + 1 + 1 + 1) 22 1 (.slice a k c) k vs) := Lib.hid (HP2.out.2.2.1.alloc _)
        have k1 : wr.cell? ⟨w.heap.size + 1 + 1 + 1, 1, none⟩ = some (.slice a k c) := by simp [World.cell?, hrow]
        clear hrow hod
        go_wp2_with (at_builtin; refine wpList_app_rows2 rfl (.tmp 30) (.tmp 32) rfl (w.heap.size + 1 + 1 + 1 + 1) (.slice a k c) k vs rfl ⟨wr.heap.size, 0, none⟩ 1 1 [.slice a' n c'] rfl rfl (cell_one_new _ _ _) (by simp [Value.oneCell']) HN.out (by omega) (k + 1) rfl (by omega) (by simp; omega) ?_; intro g c2 w2 hr2 hg2 hat; have H2 := Lib.hid (HP2.out.push h1 (Nat.le_refl _) hr2 hg2 hat HIN.out HZ.out HOFF.out); clear hr2 hg2 hat; have k0' := box_cell1 H2.out.1; have f0' := row_free H2.out.1 1)
        have h9 := H2.out.2
        rw [show (flips n false xs).take k ++ [xs[k]?.getD []] = (flips n false xs).take (k + 1) from by rw [HFL.out k hlt, if_neg (by simp)]] at h9
        exact ⟨⟨k + 1, by omega, by go_num, Lib.hid ⟨_, _, _, h9⟩⟩, by simp [intOf]; omega⟩
      | true =>
        subst hod'
        have hev : ¬ pb.tmod 2 = 0 := by simpa using hod
        have HFP := Lib.hid (flipped_any a' n c' (xs[k]?.getD []) wr HIN.out (by omega) hn HZ.out)
        have HIN2 := Lib.hid (flipN_in HIN.out)
        unfold GivesP at HFP
        rw [HIN2.out.1] at HFP
        clear hrow hod
        go_wp2_with (fail)
        refine HFP.out.mono ?_
        rintro e w5 ⟨g5, rfl, hg5, hr5, hb5⟩
        have hP5 := HP2.out.below (by omega) hb5
        have hs5 := hb5.size
        have HP5 := Lib.hid hP5
        have HZ5 := Lib.hid hr5.nats
        have HOFF : Hid (∀ g, (Value.slice a k c).ownBlock = some g → Off g (some ⟨g5, 0, none⟩)) := Lib.hid (fun g hg x hx => by
          have := (HP2.out.2.2.1.lt g hg).2
          cases hx
          simp; omega)
        have HN : Hid ((w5.alloc (.cells #[.slice (some ⟨g5, 0, none⟩) n n] 22)).ownsRow (w.heap.size + 1 + 1 + 1 + 1) 22 1 (.slice a k c) k vs) := Lib.hid (hP5.2.2.1.alloc _)
        have k1 := box_cell1 hP5.2.1
        clear hP5 hr5 hb5
        go_wp2_with (at_builtin; refine wpList_app_rows2 rfl (.tmp 30) (.tmp 32) rfl (w.heap.size + 1 + 1 + 1 + 1) (.slice a k c) k vs rfl ⟨w5.heap.size, 0, none⟩ 1 1 [.slice (some ⟨g5, 0, none⟩) n n] rfl rfl (cell_one_new _ _ _) (by simp [Value.oneCell']) HN.out (by omega) (k + 1) rfl (by omega) (by simp; omega) ?_; intro g c2 w2 hr2 hg2 hat; have H2 := Lib.hid (HP5.out.push h1 (Nat.le_refl _) hr2 hg2 hat HIN2.out HZ5.out HOFF.out); clear hr2 hg2 hat; have k0' := box_cell1 H2.out.1; have f0' := row_free H2.out.1 1)
        have h9 := H2.out.2
        rw [show (flips n true xs).take k ++ [flipN n (xs[k]?.getD [])] = (flips n true xs).take (k + 1) from by rw [HFL.out k hlt, if_pos (by trivial)]] at h9
        exact ⟨⟨k + 1, by omega, by go_num, Lib.hid ⟨_, _, _, h9⟩⟩, by simp [intOf]; omega⟩
    · have HI2 : Hid (Below (w.heap.size + 1 + 1 + 1) w0 wr ∧ ∃ cur, BrBox wr n (w.heap.size + 1 + 1 + 1) cur.1 cur.2 ∧ prodTo f n cur (ys.drop 0) = some r ∧ cur.2.length ≤ ma + 0 ∧ pa + pb ≤ cur.1 ∧ cur.1 + (cur.2.length : Int) ≤ pa + pb + ma + ((0 : Nat) : Int)) := Lib.hid (by
        obtain ⟨p1, p2, p3, p4, p5, p6⟩ := HP2.out
        have hkm : k = ma := by omega
        rw [hkm, HFE.out.1] at p4
        rw [hkm, ← HFE.out.2] at p2 p3
        refine ⟨p1, (pa + pb, flips n od xs), ⟨_, p2, owns_fac p3 p4⟩, by simpa using HQ.out, ?_, ?_, ?_⟩
        · simp only [HFE.out.2]; omega
        · exact Int.le_refl _
        · simp only [HFE.out.2]; omega)
      obtain rfl : k = ma := by omega
      clear kpb hrow HFL
      go_wp2_with (fail)
      go_loopw [39, 9] (fun i _ w4 => ∃ j : Nat, j ≤ mb ∧ i = .int .i64 j ∧ Hid (Below (w.heap.size + 1 + 1 + 1) w0 w4 ∧ ∃ cur, BrBox w4 n (w.heap.size + 1 + 1 + 1) cur.1 cur.2 ∧ prodTo f n cur (ys.drop j) = some r ∧ cur.2.length ≤ k + j ∧ pa + pb ≤ cur.1 ∧ cur.1 + (cur.2.length : Int) ≤ pa + pb + k + (j : Int))) (fun i _ _ => mb - (intOf i).toNat)
      case atStart => exact ⟨0, Nat.zero_le _, rfl, HI2⟩
      case round =>
        clear HI2 kfb
        rename World => w4
        obtain ⟨j, hj, rfl, HR⟩ := hrel
        obtain ⟨hb4, cur, ⟨fv, hrow, hfv⟩, hpr, hc1, hc2, hc3⟩ := HR.out
        obtain ⟨a3, c3, v3, rfl, hq3⟩ := id hfv
        clear hq3
        obtain ⟨m3, hm3⟩ : ∃ m3, cur.2.length = m3 := ⟨_, rfl⟩
        obtain ⟨pc, hpc⟩ : ∃ pc, cur.1 = pc := ⟨_, rfl⟩
        rw [hm3, hpc] at hrow
        have k0 := box_cell0 hrow
        have k1 := box_cell1 hrow
        have HR4 : Hid (w4.heap[w.heap.size + 1 + 1 + 1]? = some (.cells #[.int .i64 pc, .slice a3 m3 c3] 37 (0, 0)) ∧ FacV w4 n (.slice a3 m3 c3) cur.2 ∧ prodTo f n cur (ys.drop j) = some r ∧ cur.2.length ≤ k + j ∧ pa + pb ≤ cur.1 ∧ cur.1 + (cur.2.length : Int) ≤ pa + pb + k + (j : Int) ∧ cur.2.length = m3 ∧ cur.1 = pc) := Lib.hid ⟨hrow, by rw [← hm3]; exact hfv, hpr, hc1, hc2, hc3, hm3, hpc⟩
        have HB4 := Lib.hid hb4
        have hs4 := hb4.size
        clear hrow hfv hpr hc1 hc2 hc3 hm3 hpc HR
        by_cases hlt2 : j < mb
        · have hjI : (j : Int) < (mb : Int) := by omega
          have hcell := HFB.out.at (i := j) (by rw [HMB.out]; exact hlt2)
          obtain ⟨b, off, rfl, a', c', c0w, hin, hz⟩ := hcell
          have hbw := H0.out.1.trans (HB4.out.mono (B' := w.heap.size) (by omega))
          have c0 := (hbw.cell (p := ⟨b, off + j, none⟩) (World.block_lt_of_cell? w _ c0w)).trans c0w
          obtain ⟨q, hq⟩ : ∃ q, ys[j]?.getD [] = q := ⟨_, rfl⟩
          rw [hq] at hin hz
          obtain ⟨r2, hr2, hr3⟩ : ∃ r2, folN f n cur q = some r2 ∧ prodTo f n r2 (ys.drop (j + 1)) = some r := by
            have hp := HR4.out.2.2.1
            have hjl : j < ys.length := by rw [HMB.out]; exact hlt2
            rw [List.getElem?_eq_getElem hjl, Option.getD_some] at hq
            rw [List.drop_eq_getElem_cons hjl, hq] at hp
            unfold prodTo at hp
            cases hf : folN f n cur q with
            | none => rw [hf] at hp; cases hp
            | some r2 => rw [hf] at hp; exact ⟨r2, rfl, hp⟩
          have HNX := Lib.hid (And.intro (folN_len hr2) hr3)
          have hcl := HR4.out.2.2.2
          have HFO := Lib.hid (folR n f c' a' cur r2 (.agg #[.int .i64 pc, .slice a3 m3 c3]) q w4 h1 hn (by omega) (by omega) ⟨_, by rw [hcl.2.2.2.2], HR4.out.2.1⟩ hin (hz.below hbw) hr2)
          clear c0w hin hz hbw hq hr2 hr3 hcl
          go_wp2_with (fail)
          refine HFO.out.mono ?_
          rintro e w5 ⟨v, rfl, ⟨fv, rfl, hf⟩, hb5⟩
          have hbx : BrBox w5 n (w.heap.size + 1 + 1 + 1) cur.1 cur.2 := BrBox.below ⟨_, by rw [HR4.out.2.2.2.2.2.2.2]; exact HR4.out.1, HR4.out.2.1⟩ hb5
          have H5 := Lib.hid (And.intro (HB4.out.trans (hb5.mono (by omega))) (hbx.put (pw' := r2.1) h1 hf))
          have hrow5 := (hb5.block (w.heap.size + 1 + 1 + 1) (by omega)).trans HR4.out.1
          have k0' := box_cell0 hrow5
          have k1' := box_cell1 hrow5
          have f0' := row_free hrow5 0
          have f1' := row_free hrow5 1
          obtain ⟨af, cf, vf, rfl, hqf⟩ := hf
          clear hqf hbx hrow5 hb5
          go_wp2_with (fail)
          refine ⟨⟨j + 1, by omega, by go_num, Lib.hid ⟨(H5.out.1.setCell (p := ⟨w.heap.size + 1 + 1 + 1, 0, none⟩) (Nat.le_refl _) _).setCell (p := ⟨w.heap.size + 1 + 1 + 1, 1, none⟩) (Nat.le_refl _) _, r2, H5.out.2, HNX.out.2, ?_, ?_, ?_⟩⟩, by simp [intOf]; omega⟩
          · have := HNX.out.1; have := HR4.out.2.2.2; omega
          · have := HNX.out.1; have := HR4.out.2.2.2; omega
          · have := HNX.out.1; have := HR4.out.2.2.2; omega
        · obtain rfl : r = cur := by
            have hp := HR4.out.2.2.1
            rw [List.drop_of_length_le (by rw [HMB.out]; omega)] at hp
            simpa [prodTo] using hp.symm
          have hrow4 := (HB4.out.block (w.heap.size + 1 + 1) (by omega)).trans H0.out.2.2.1
          have k0' := box_cell0 hrow4
          have k1' := box_cell1 hrow4
          have f0' := row_free hrow4 0
          have f1' := row_free hrow4 1
          have HBX : Hid (BrBox w4 n (w.heap.size + 1 + 1) 0 []) := Lib.hid ⟨_, hrow4, FacV.nil _ _⟩
          have HFV := Lib.hid (HBX.out.put (pw' := pc) h1 HR4.out.2.1)
          have hrw : r.1 = pc := HR4.out.2.2.2.2.2.2.2
          clear hrow4
          go_wp2_with (fail)
          obtain ⟨fy, hby, hfy⟩ := HFV.out
          refine bodyPost_ret_by (results_cell_row (P := Try.prog) rfl _ _ (w.heap.size + 1 + 1) 37 #[.int .i64 pc, fy] (0, 0) _ rfl hby Try.underlying37 rfl (by kernel_rfl)) rfl ?_
          rw [hrw]
          exact ⟨_, rfl, ⟨_, rfl, hfy⟩, ((H0.out.1.trans (HB4.out.mono (B' := w.heap.size) (by omega))).setCell (p := ⟨w.heap.size + 1 + 1, 0, none⟩) (by simp; omega) _).setCell (p := ⟨w.heap.size + 1 + 1, 1, none⟩) (by simp; omega) _⟩

end Go.Proofs.Ytbcggbmjbljnfaa
