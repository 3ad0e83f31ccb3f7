/-
  The walk of 'FoldVertices'.
-/
import Derived.Test.YteankhgikpejhaaOc
import Derived.Test.YteankhgikpejhaaOd
import Derived.Test.YteankhgikpejhaaKb
namespace Go.Proofs.Yteankhgikpejhaa
open Go.RowKit Go.Sort Go.Shelf

theorem cutZ_le8 (zs : List Int) : (cutZ zs 8 8).length ≤ 9 := by
  rw [cutZ, List.length_take]
  split <;> omega

set_option maxRecDepth 200000 in
set_option maxHeartbeats 8000000 in
theorem FoldVertices_any (n1 cap1 n2 cap2 : Nat) (a1 a2 : Option Addr) (xs ys : List Int) (w : World) (hn1 : xs.length = n1) (hm1 : n1 ≤ 9223372036854775807) (hcap1 : n1 ≤ cap1) (hnone1 : a1 = none → cap1 = 0) (hx : Ints w a1 xs)
    (hn2 : ys.length = n2) (hm2 : n2 ≤ 9223372036854775807) (hcap2 : n2 ≤ cap2) (hnone2 : a2 = none → cap2 = 0) (hy : Ints w a2 ys) :
    Calls Try.prog 6 #[.slice a1 n1 cap1, .slice a2 n2 cap2] w fun e w' => e = .returned (.bool true) ∧ Below w.heap.size w w' := by
  have hct1 := Lib.hid (cut_any a1 n1 cap1 8 8 xs w hn1 hm1 hcap1 hnone1 (by omega) (by omega) (by omega) hx)
  have hct2 := Lib.hid (fun wx (hb : Below w.heap.size w wx) => cut_any a2 n2 cap2 8 8 ys wx hn2 hm2 hcap2 hnone2 (by omega) (by omega) (by omega) (hy.below hb))
  obtain ⟨l, hl⟩ : ∃ l, cutZ xs 8 8 = l := ⟨_, rfl⟩
  obtain ⟨o, ho⟩ : ∃ o, cutZ ys 8 8 = o := ⟨_, rfl⟩
  have hl10 : l.length ≤ 9 := by rw [← hl]; exact cutZ_le8 xs
  have ho10 : o.length ≤ 9 := by rw [← ho]; exact cutZ_le8 ys
  rw [hl] at hct1
  rw [ho] at hct2
  clear hl ho hx hy hn1 hm1 hcap1 hnone1 hn2 hm2 hcap2 hnone2
  have HV := Lib.hid lives_any
  rcases Bool.eq_false_or_eq_true (vertexB l) with hs | hs
  · rcases Bool.eq_false_or_eq_true (orderB o l.length) with hb | hb
    · obtain ⟨O, hOo, o1, o2, o3⟩ := orderB_nat hb
      have hp := Lib.hid (show permR o l.length = true by rw [permR_iff]; exact hb)
      obtain ⟨p1, p9, _⟩ := vertex_parts hs
      have hol : Hid (o.length = l.length) := Lib.hid (by rw [hOo, List.length_map]; exact o3)
      have HO := Lib.hid (And.intro hOo (And.intro o1 (And.intro o2 o3)))
      rcases Bool.eq_false_or_eq_true (closesB l) with hcl | hcl
      · have hclz : posAt l l.length = 0 := by simp [closesB] at hcl; exact hcl.2
        rcases Bool.eq_false_or_eq_true (okFrom (vtxCl l) l.length O 0) with hk | hk
        · have hf := Lib.hid (show foldsVZ l o = (true, 0) by rw [foldsVZ, if_pos hs, if_pos hb, hOo, toNat_back, hk, hcl]; rfl)
          have hc := Lib.hid (show creasesVZ l o = (crsOfV l O, 0) by rw [creasesVZ, hf.out, if_pos rfl, if_pos rfl, hOo, toNat_back])
          have HR := Lib.hid (show refBv (vtxCl l).crs l O = true by rw [refBv_ok (vtx_fair p1 hclz) o1 o2 o3]; exact hk)
          have HG := Lib.hid hs
          have HCL := Lib.hid hcl
          obtain ⟨X, hX⟩ : ∃ X, crsOfV l O = X := ⟨_, rfl⟩
          rw [hX] at hc
          have HX := Lib.hid hX
          clear hs hb hk hOo o1 o2 o3 hX hcl hclz
          go_enter Try.func6, Try.ntmps6
          go_wp2_with fail
          refine hct1.out.mono ?_
          rintro e w1 ⟨v, rfl, ⟨al, cl, rfl, hI1⟩, hb1⟩
          have H1 := Lib.hid (And.intro hI1 hb1)
          clear hI1 hb1
          go_wp2_with fail
          refine (hct2.out w1 H1.out.2).mono ?_
          rintro e w2 ⟨v, rfl, ⟨ao, co, rfl, hI2⟩, hb2⟩
          have H2 := Lib.hid (And.intro (H1.out.1.below hb2) (And.intro hI2 (H1.out.2.trans (hb2.mono H1.out.2.size))))
          clear hI2 hb2 H1
          go_wp2_with fail
          refine (FoldsVertex_any al ao l.length cl o.length co l o w2 true 0 rfl (by omega) H2.out.1 rfl (by omega) H2.out.2.1 hf.out).mono ?_
          rintro e w3 ⟨rfl, hb3⟩
          have H3 := Lib.hid (And.intro (H2.out.1.below hb3) (And.intro (H2.out.2.1.below hb3) (H2.out.2.2.trans (hb3.mono H2.out.2.2.size))))
          clear hb3 H2
          go_wp2_with fail
          refine (CreasesVertex_any al ao l.length cl o.length co l o w3 X 0 rfl (by omega) H3.out.1 rfl (by omega) H3.out.2.1 hc.out).mono ?_
          rintro e w4 ⟨rfl, hb4⟩
          have H5 := Lib.hid (And.intro (H3.out.1.below hb4) (And.intro (H3.out.2.1.below hb4) (H3.out.2.2.trans (hb4.mono H3.out.2.2.size))))
          clear hb4 H3
          go_wp2_with fail
          refine (Vertex_any al l.length cl l w4 rfl (by omega) H5.out.1).mono ?_
          rw [HG.out]
          rintro e w6 ⟨rfl, rfl⟩
          go_wp2_with fail
          refine (Perm_any' ao o.length co o l.length true w4 rfl (by omega) (by omega) (by omega) H5.out.2.1 hp.out).mono ?_
          rintro e w6 ⟨rfl, hb6⟩
          have H6 := Lib.hid (And.intro (H5.out.1.below hb6) (And.intro (H5.out.2.1.below hb6) (H5.out.2.2.trans (hb6.mono H5.out.2.2.size))))
          clear hb6 H5
          rw [hol.out]
          obtain ⟨crs, hcrs⟩ : ∃ crs, (vtxCl l).crs = crs := ⟨_, rfl⟩
          have hM : crs.length = l.length := by rw [← hcrs, vtx_length]; omega
          have HRC := Lib.hid (And.intro hcrs hM)
          clear hcrs hM
          go_wp2_with fail
          refine (refFoldsV_any _ _ l.length l.length cl co crs l O w6 rfl HG.out HCL.out HRC.out.1 HRC.out.2 (by omega) H6.out.1 HO.out.2.2.2 HO.out.2.2.1 (by rw [← HO.out.1]; exact H6.out.2.1)).mono ?_
          rw [← HRC.out.1, HR.out]
          rintro e w7 ⟨rfl, hb7⟩
          have H7 := Lib.hid (And.intro (H6.out.1.below hb7) (And.intro (H6.out.2.1.below hb7) (H6.out.2.2.trans (hb7.mono H6.out.2.2.size))))
          clear hb7 H6
          go_wp2_with fail
          refine ((callsIn_wide (n := 0)).1 (HV.out _ _)).mono ?_
          rintro e w8 ⟨rfl, hb8⟩
          have H8 := Lib.hid (And.intro (H7.out.1.below hb8) (And.intro (H7.out.2.1.below hb8) (H7.out.2.2.trans (hb8.mono H7.out.2.2.size))))
          clear hb8 H7
          go_wp2_with fail
          refine (LettersV_any _ _ l.length l.length cl co crs X l O w8 rfl HG.out HCL.out HRC.out.1 HRC.out.2 (by omega) H8.out.1 HO.out.2.1 HO.out.2.2.2 HO.out.2.2.1 (by rw [← HO.out.1]; exact H8.out.2.1) HX.out).mono ?_
          rintro e w9 ⟨rfl, hb9⟩
          have H9 := Lib.hid (H8.out.2.2.trans (hb9.mono H8.out.2.2.size))
          clear hb9
          go_wp2
          go_ret
          exact ⟨rfl, H9.out⟩
        · have hf := Lib.hid (show foldsVZ l o = (false, 0) by rw [foldsVZ, if_pos hs, if_pos hb, hOo, toNat_back, hk, Bool.and_false])
          have hc := Lib.hid (show creasesVZ l o = (⟨#[]⟩, 5) by rw [creasesVZ, hf.out]; rfl)
          have HR := Lib.hid (show refBv (vtxCl l).crs l O = false by rw [refBv_ok (vtx_fair p1 hclz) o1 o2 o3]; exact hk)
          have HG := Lib.hid hs
          have HCL := Lib.hid hcl
          clear hs hb hk hOo o1 o2 o3 hcl hclz
          go_enter Try.func6, Try.ntmps6
          go_wp2_with fail
          refine hct1.out.mono ?_
          rintro e w1 ⟨v, rfl, ⟨al, cl, rfl, hI1⟩, hb1⟩
          have H1 := Lib.hid (And.intro hI1 hb1)
          clear hI1 hb1
          go_wp2_with fail
          refine (hct2.out w1 H1.out.2).mono ?_
          rintro e w2 ⟨v, rfl, ⟨ao, co, rfl, hI2⟩, hb2⟩
          have H2 := Lib.hid (And.intro (H1.out.1.below hb2) (And.intro hI2 (H1.out.2.trans (hb2.mono H1.out.2.size))))
          clear hI2 hb2 H1
          go_wp2_with fail
          refine (FoldsVertex_any al ao l.length cl o.length co l o w2 false 0 rfl (by omega) H2.out.1 rfl (by omega) H2.out.2.1 hf.out).mono ?_
          rintro e w3 ⟨rfl, hb3⟩
          have H3 := Lib.hid (And.intro (H2.out.1.below hb3) (And.intro (H2.out.2.1.below hb3) (H2.out.2.2.trans (hb3.mono H2.out.2.2.size))))
          clear hb3 H2
          go_wp2_with fail
          refine (CreasesVertex_any al ao l.length cl o.length co l o w3 ⟨#[]⟩ 5 rfl (by omega) H3.out.1 rfl (by omega) H3.out.2.1 hc.out).mono ?_
          rintro e w4 ⟨rfl, hb4⟩
          have H5 := Lib.hid (And.intro (H3.out.1.below hb4) (And.intro (H3.out.2.1.below hb4) (H3.out.2.2.trans (hb4.mono H3.out.2.2.size))))
          clear hb4 H3
          go_wp2_with fail
          refine (Vertex_any al l.length cl l w4 rfl (by omega) H5.out.1).mono ?_
          rw [HG.out]
          rintro e w6 ⟨rfl, rfl⟩
          go_wp2_with fail
          refine (Perm_any' ao o.length co o l.length true w4 rfl (by omega) (by omega) (by omega) H5.out.2.1 hp.out).mono ?_
          rintro e w6 ⟨rfl, hb6⟩
          have H6 := Lib.hid (And.intro (H5.out.1.below hb6) (And.intro (H5.out.2.1.below hb6) (H5.out.2.2.trans (hb6.mono H5.out.2.2.size))))
          clear hb6 H5
          rw [hol.out]
          obtain ⟨crs, hcrs⟩ : ∃ crs, (vtxCl l).crs = crs := ⟨_, rfl⟩
          have hM : crs.length = l.length := by rw [← hcrs, vtx_length]; omega
          have HRC := Lib.hid (And.intro hcrs hM)
          clear hcrs hM
          go_wp2_with fail
          refine (refFoldsV_any _ _ l.length l.length cl co crs l O w6 rfl HG.out HCL.out HRC.out.1 HRC.out.2 (by omega) H6.out.1 HO.out.2.2.2 HO.out.2.2.1 (by rw [← HO.out.1]; exact H6.out.2.1)).mono ?_
          rw [← HRC.out.1, HR.out]
          rintro e w7 ⟨rfl, hb7⟩
          have H7 := Lib.hid (And.intro (H6.out.1.below hb7) (And.intro (H6.out.2.1.below hb7) (H6.out.2.2.trans (hb7.mono H6.out.2.2.size))))
          clear hb7 H6
          go_wp2_with fail
          refine ((callsIn_wide (n := 0)).1 (HV.out _ _)).mono ?_
          rintro e w8 ⟨rfl, hb8⟩
          have H8 := Lib.hid (And.intro (H7.out.1.below hb8) (And.intro (H7.out.2.1.below hb8) (H7.out.2.2.trans (hb8.mono H7.out.2.2.size))))
          clear hb8 H7
          go_wp2
          go_ret
          exact ⟨rfl, H8.out.2.2⟩
      · have hf := Lib.hid (show foldsVZ l o = (false, 0) by rw [foldsVZ, if_pos hs, if_pos hb, hcl, Bool.false_and])
        have hc := Lib.hid (show creasesVZ l o = (⟨#[]⟩, 5) by rw [creasesVZ, hf.out]; rfl)
        have HG := Lib.hid hs
        have HCL := Lib.hid hcl
        clear hs hb hOo o1 o2 o3 hcl
        go_enter Try.func6, Try.ntmps6
        go_wp2_with fail
        refine hct1.out.mono ?_
        rintro e w1 ⟨v, rfl, ⟨al, cl, rfl, hI1⟩, hb1⟩
        have H1 := Lib.hid (And.intro hI1 hb1)
        clear hI1 hb1
        go_wp2_with fail
        refine (hct2.out w1 H1.out.2).mono ?_
        rintro e w2 ⟨v, rfl, ⟨ao, co, rfl, hI2⟩, hb2⟩
        have H2 := Lib.hid (And.intro (H1.out.1.below hb2) (And.intro hI2 (H1.out.2.trans (hb2.mono H1.out.2.size))))
        clear hI2 hb2 H1
        go_wp2_with fail
        refine (FoldsVertex_any al ao l.length cl o.length co l o w2 false 0 rfl (by omega) H2.out.1 rfl (by omega) H2.out.2.1 hf.out).mono ?_
        rintro e w3 ⟨rfl, hb3⟩
        have H3 := Lib.hid (And.intro (H2.out.1.below hb3) (And.intro (H2.out.2.1.below hb3) (H2.out.2.2.trans (hb3.mono H2.out.2.2.size))))
        clear hb3 H2
        go_wp2_with fail
        refine (CreasesVertex_any al ao l.length cl o.length co l o w3 ⟨#[]⟩ 5 rfl (by omega) H3.out.1 rfl (by omega) H3.out.2.1 hc.out).mono ?_
        rintro e w4 ⟨rfl, hb4⟩
        have H5 := Lib.hid (And.intro (H3.out.1.below hb4) (And.intro (H3.out.2.1.below hb4) (H3.out.2.2.trans (hb4.mono H3.out.2.2.size))))
        clear hb4 H3
        go_wp2_with fail
        refine (Vertex_any al l.length cl l w4 rfl (by omega) H5.out.1).mono ?_
        rw [HG.out]
        rintro e w6 ⟨rfl, rfl⟩
        go_wp2_with fail
        refine (Perm_any' ao o.length co o l.length true w4 rfl (by omega) (by omega) (by omega) H5.out.2.1 hp.out).mono ?_
        rintro e w6 ⟨rfl, hb6⟩
        have H6 := Lib.hid (And.intro (H5.out.1.below hb6) (And.intro (H5.out.2.1.below hb6) (H5.out.2.2.trans (hb6.mono H5.out.2.2.size))))
        clear hb6 H5
        rw [hol.out]
        go_wp2_with fail
        refine (refFoldsV_open _ _ l.length cl co l w6 rfl HG.out HCL.out H6.out.1).mono ?_
        rintro e w7 ⟨rfl, hb7⟩
        have H7 := Lib.hid (And.intro (H6.out.1.below hb7) (And.intro (H6.out.2.1.below hb7) (H6.out.2.2.trans (hb7.mono H6.out.2.2.size))))
        clear hb7 H6
        go_wp2_with fail
        refine ((callsIn_wide (n := 0)).1 (HV.out _ _)).mono ?_
        rintro e w8 ⟨rfl, hb8⟩
        have H8 := Lib.hid (And.intro (H7.out.1.below hb8) (And.intro (H7.out.2.1.below hb8) (H7.out.2.2.trans (hb8.mono H7.out.2.2.size))))
        clear hb8 H7
        go_wp2
        go_ret
        exact ⟨rfl, H8.out.2.2⟩
    · have hf := Lib.hid (show foldsVZ l o = (false, 2) by rw [foldsVZ, if_pos hs, if_neg (by rw [hb]; exact Bool.false_ne_true)])
      have hc := Lib.hid (show creasesVZ l o = (⟨#[]⟩, 2) by rw [creasesVZ, hf.out]; rfl)
      have hp := Lib.hid (show permR o l.length = false by rw [permR_iff]; exact hb)
      have HG := Lib.hid hs
      clear hs hb
      go_enter Try.func6, Try.ntmps6
      go_wp2_with fail
      refine hct1.out.mono ?_
      rintro e w1 ⟨v, rfl, ⟨al, cl, rfl, hI1⟩, hb1⟩
      have H1 := Lib.hid (And.intro hI1 hb1)
      clear hI1 hb1
      go_wp2_with fail
      refine (hct2.out w1 H1.out.2).mono ?_
      rintro e w2 ⟨v, rfl, ⟨ao, co, rfl, hI2⟩, hb2⟩
      have H2 := Lib.hid (And.intro (H1.out.1.below hb2) (And.intro hI2 (H1.out.2.trans (hb2.mono H1.out.2.size))))
      clear hI2 hb2 H1
      go_wp2_with fail
      refine (FoldsVertex_any al ao l.length cl o.length co l o w2 false 2 rfl (by omega) H2.out.1 rfl (by omega) H2.out.2.1 hf.out).mono ?_
      rintro e w3 ⟨rfl, hb3⟩
      have H3 := Lib.hid (And.intro (H2.out.1.below hb3) (And.intro (H2.out.2.1.below hb3) (H2.out.2.2.trans (hb3.mono H2.out.2.2.size))))
      clear hb3 H2
      go_wp2_with fail
      refine (CreasesVertex_any al ao l.length cl o.length co l o w3 ⟨#[]⟩ 2 rfl (by omega) H3.out.1 rfl (by omega) H3.out.2.1 hc.out).mono ?_
      rintro e w4 ⟨rfl, hb4⟩
      have H5 := Lib.hid (And.intro (H3.out.1.below hb4) (And.intro (H3.out.2.1.below hb4) (H3.out.2.2.trans (hb4.mono H3.out.2.2.size))))
      clear hb4 H3
      go_wp2_with fail
      refine (Vertex_any al l.length cl l w4 rfl (by omega) H5.out.1).mono ?_
      rw [HG.out]
      rintro e w6 ⟨rfl, rfl⟩
      go_wp2_with fail
      refine (Perm_any' ao o.length co o l.length false w4 rfl (by omega) (by omega) (by omega) H5.out.2.1 hp.out).mono ?_
      rintro e w6 ⟨rfl, hb6⟩
      have H6 := Lib.hid (And.intro (H5.out.1.below hb6) (And.intro (H5.out.2.1.below hb6) (H5.out.2.2.trans (hb6.mono H5.out.2.2.size))))
      clear hb6 H5
      go_wp2_with fail
      refine ((callsIn_wide (n := 0)).1 (HV.out _ _)).mono ?_
      rintro e w8 ⟨rfl, hb8⟩
      have H8 := Lib.hid (And.intro (H6.out.1.below hb8) (And.intro (H6.out.2.1.below hb8) (H6.out.2.2.trans (hb8.mono H6.out.2.2.size))))
      clear hb8 H6
      go_wp2
      go_ret
      exact ⟨rfl, H8.out.2.2⟩
  · have hf := Lib.hid (show foldsVZ l o = (false, 1) by rw [foldsVZ, if_neg (by rw [hs]; exact Bool.false_ne_true)])
    have hc := Lib.hid (show creasesVZ l o = (⟨#[]⟩, 1) by rw [creasesVZ, hf.out]; rfl)
    have HG := Lib.hid hs
    clear hs
    go_enter Try.func6, Try.ntmps6
    go_wp2_with fail
    refine hct1.out.mono ?_
    rintro e w1 ⟨v, rfl, ⟨al, cl, rfl, hI1⟩, hb1⟩
    have H1 := Lib.hid (And.intro hI1 hb1)
    clear hI1 hb1
    go_wp2_with fail
    refine (hct2.out w1 H1.out.2).mono ?_
    rintro e w2 ⟨v, rfl, ⟨ao, co, rfl, hI2⟩, hb2⟩
    have H2 := Lib.hid (And.intro (H1.out.1.below hb2) (And.intro hI2 (H1.out.2.trans (hb2.mono H1.out.2.size))))
    clear hI2 hb2 H1
    go_wp2_with fail
    refine (FoldsVertex_any al ao l.length cl o.length co l o w2 false 1 rfl (by omega) H2.out.1 rfl (by omega) H2.out.2.1 hf.out).mono ?_
    rintro e w3 ⟨rfl, hb3⟩
    have H3 := Lib.hid (And.intro (H2.out.1.below hb3) (And.intro (H2.out.2.1.below hb3) (H2.out.2.2.trans (hb3.mono H2.out.2.2.size))))
    clear hb3 H2
    go_wp2_with fail
    refine (CreasesVertex_any al ao l.length cl o.length co l o w3 ⟨#[]⟩ 1 rfl (by omega) H3.out.1 rfl (by omega) H3.out.2.1 hc.out).mono ?_
    rintro e w4 ⟨rfl, hb4⟩
    have H5 := Lib.hid (And.intro (H3.out.1.below hb4) (And.intro (H3.out.2.1.below hb4) (H3.out.2.2.trans (hb4.mono H3.out.2.2.size))))
    clear hb4 H3
    go_wp2_with fail
    refine (Vertex_any al l.length cl l w4 rfl (by omega) H5.out.1).mono ?_
    rw [HG.out]
    rintro e w6 ⟨rfl, rfl⟩
    go_wp2_with fail
    refine ((callsIn_wide (n := 0)).1 (HV.out _ _)).mono ?_
    rintro e w8 ⟨rfl, hb8⟩
    have H8 := Lib.hid (And.intro (H5.out.1.below hb8) (And.intro (H5.out.2.1.below hb8) (H5.out.2.2.trans (hb8.mono H5.out.2.2.size))))
    clear hb8 H5
    go_wp2
    go_ret
    exact ⟨rfl, H8.out.2.2⟩

end Go.Proofs.Yteankhgikpejhaa
