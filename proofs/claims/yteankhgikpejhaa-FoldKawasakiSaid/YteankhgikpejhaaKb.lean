/-
  The walk of 'FoldOrders'.
-/
import Derived.Test.YteankhgikpejhaaKa
import Derived.Test.YteankhgikpejhaaJd
namespace Go.Proofs.Yteankhgikpejhaa
open Go.RowKit Go.Sort Go.Shelf

theorem cutZ_le (zs : List Int) : (cutZ zs 6 9).length ≤ 10 := by
  rw [cutZ, List.length_take]
  split <;> omega

theorem Perm_any' (a : Option Addr) (n cap : Nat) (zs : List Int) (N : Int) (r : Bool) (w : World) (hn : zs.length = n) (hm : n ≤ 1000) (hN : 0 ≤ N) (hN2 : N ≤ 1000) (hz : Ints w a zs) (h : permR zs N = r) :
    Calls Try.prog 20 #[.slice a n cap, .int .i64 N] w fun e w' => e = .returned (.bool r) ∧ Below w.heap.size w w' := by
  rw [← h]
  exact Permutation_any a n cap zs N w hn hm hN hN2 hz

theorem refFolds_r (a aO : Option Addr) (n cap cO : Nat) (zs : List Int) (O : List Nat) (r : Bool) (w : World) (hn : zs.length = n) (h1 : 1 ≤ n) (hg : stripB zs = true) (hz : Ints w a zs) (hl : O.length = n) (hv : ∀ x ∈ O, x < n) (hO : Ints w aO (O.map fun (x : Nat) => (x : Int))) (h : refB zs O = r) :
    Calls Try.prog 22 #[.slice a n cap, .slice aO n cO, .bool false] w fun e w' => e = .returned (.bool r) ∧ Below w.heap.size w w' := by
  obtain ⟨m, rfl⟩ : ∃ m, n = m + 1 := ⟨n - 1, by omega⟩
  rw [← h]
  exact refFolds_any a aO m cap cO zs O w hn hg hz hl hv hO
theorem Letters_n (a aO : Option Addr) (n cap cO : Nat) (zs : List Int) (O : List Nat) (X : ByteArray) (w : World) (hn : zs.length = n) (h1 : 1 ≤ n) (hg : stripB zs = true) (hz : Ints w a zs) (hnd : O.Nodup) (hl : O.length = n) (hv : ∀ x ∈ O, x < n) (hO : Ints w aO (O.map fun (x : Nat) => (x : Int))) (h : crsOf zs O = X) :
    Calls Try.prog 24 #[.slice a n cap, .slice aO n cO, .bool false] w fun e w' => e = .returned (.string X) ∧ Below w.heap.size w w' := by
  obtain ⟨m, rfl⟩ : ∃ m, n = m + 1 := ⟨n - 1, by omega⟩
  rw [← h]
  exact Letters_any a aO m cap cO zs O w hn hg hz hnd hl hv hO

set_option maxRecDepth 200000 in
set_option maxHeartbeats 8000000 in
theorem FoldOrders_any (n1 cap1 n2 cap2 : Nat) (a1 a2 : Option Addr) (xs ys : List Int) (w : World) (hn1 : xs.length = n1) (hm1 : n1 ≤ 9223372036854775807) (hcap1 : n1 ≤ cap1) (hnone1 : a1 = none → cap1 = 0) (hx : Ints w a1 xs)
    (hn2 : ys.length = n2) (hm2 : n2 ≤ 9223372036854775807) (hcap2 : n2 ≤ cap2) (hnone2 : a2 = none → cap2 = 0) (hy : Ints w a2 ys) :
    Calls Try.prog 3 #[.slice a1 n1 cap1, .slice a2 n2 cap2] w fun e w' => e = .returned (.bool true) ∧ Below w.heap.size w w' := by
  have hct1 := Lib.hid (cut_any a1 n1 cap1 6 9 xs w hn1 hm1 hcap1 hnone1 (by omega) (by omega) (by omega) hx)
  have hct2 := Lib.hid (fun wx (hb : Below w.heap.size w wx) => cut_any a2 n2 cap2 6 9 ys wx hn2 hm2 hcap2 hnone2 (by omega) (by omega) (by omega) (hy.below hb))
  obtain ⟨l, hl⟩ : ∃ l, cutZ xs 6 9 = l := ⟨_, rfl⟩
  obtain ⟨o, ho⟩ : ∃ o, cutZ ys 6 9 = o := ⟨_, rfl⟩
  have hl10 : l.length ≤ 10 := by rw [← hl]; exact cutZ_le xs
  have ho10 : o.length ≤ 10 := by rw [← ho]; exact cutZ_le ys
  rw [hl] at hct1
  rw [ho] at hct2
  clear hl ho hx hy hn1 hm1 hcap1 hnone1 hn2 hm2 hcap2 hnone2
  have HV := Lib.hid lives_any
  rcases Bool.eq_false_or_eq_true (stripB l) with hs | hs
  · rcases Bool.eq_false_or_eq_true (orderB o l.length) with hb | hb
    · obtain ⟨O, hOo, o1, o2, o3⟩ := orderB_nat hb
      have hp := Lib.hid (show permR o l.length = true by rw [permR_iff]; exact hb)
      obtain ⟨p1, p9, _⟩ := strip_parts hs
      have hol : Hid (o.length = l.length) := Lib.hid (by rw [hOo, List.length_map]; exact o3)
      have HO := Lib.hid (And.intro hOo (And.intro o1 (And.intro o2 o3)))

      rcases Bool.eq_false_or_eq_true (okFrom (layCl l) l.length O 0) with hk | hk
      · have hk' : okFrom (layCl l) l.length O 0 = true := hk
        have hm : O ∈ ordersOf (layCl l) l.length := mem_orders.2 ⟨o1, o2, o3, hk'⟩
        have hf := Lib.hid (show foldsZ l o = (true, 0) by rw [foldsZ, if_pos hs, if_pos hb, hOo, toNat_back, hk'])
        have hc := Lib.hid (show creasesZ l o = (crsOf l O, 0) by rw [hOo]; exact creasesZ_of hs hm)
        have HR := Lib.hid (show refB l O = true by rw [refB_ok hs o1 o2 o3]; exact hk')
        have HG := Lib.hid hs
        have HM := Lib.hid hm
        obtain ⟨X, hX⟩ : ∃ X, crsOf l O = X := ⟨_, rfl⟩
        rw [hX] at hc
        have HX := Lib.hid hX
        obtain ⟨ix, hix⟩ : ∃ ix, (ordersOf (layCl l) l.length).idxOf O = ix := ⟨_, rfl⟩
        have hixl : ix < (ordersOf (layCl l) l.length).length := by rw [← hix]; exact List.idxOf_lt_length_of_mem hm
        have hixO : (ordersOf (layCl l) l.length)[ix]? = some O := by
          rw [List.getElem?_eq_getElem hixl]
          congr 1
          subst hix
          exact List.getElem_idxOf hixl
        have HIX := Lib.hid (And.intro hix (And.intro hixl hixO))
        clear hs hb hk hk' hOo o1 o2 o3 hm hX hix hixl hixO
        go_enter Try.func3, Try.ntmps3
        go_wp2_with fail
        refine hct1.out.mono ?_
        rintro e w1 ⟨v, rfl, ⟨al, cl, rfl, hI1⟩, hb1⟩
        have H1 := Lib.hid (And.intro hI1 hb1)
        clear hI1 hb1
        go_wp2_with fail
        refine (hct2.out w1 H1.out.2).mono ?_
        rintro e w2 ⟨v, rfl, ⟨ao, co, rfl, hI2⟩, hb2⟩
        have H2 := Lib.hid (And.intro (H1.out.1.below hb2) (And.intro hI2 (H1.out.2.trans (hb2.mono H1.out.2.size))))
        clear hI2 hb2 H1
        go_wp2_with fail
        refine (Folds_any al ao l.length cl o.length co l o w2 true 0 rfl (by omega) H2.out.1 rfl (by omega) H2.out.2.1 hf.out).mono ?_
        rintro e w3 ⟨rfl, hb3⟩
        have H3 := Lib.hid (And.intro (H2.out.1.below hb3) (And.intro (H2.out.2.1.below hb3) (H2.out.2.2.trans (hb3.mono H2.out.2.2.size))))
        clear hb3 H2
        go_wp2_with fail
        refine (Creases_any al ao l.length cl o.length co l o w3 X 0 rfl (by omega) H3.out.1 rfl (by omega) H3.out.2.1 hc.out).mono ?_
        rintro e w4 ⟨rfl, hb4⟩
        have H4 := Lib.hid (And.intro (H3.out.1.below hb4) (And.intro (H3.out.2.1.below hb4) (H3.out.2.2.trans (hb4.mono H3.out.2.2.size))))
        clear hb4 H3
        go_wp2_with fail
        refine ((callsIn_wide (n := 0)).1 (Rank_good al ao l.length cl o.length co 0 l O w4 rfl H4.out.1 HG.out HM.out hol.out (by rw [← HO.out.1]; exact H4.out.2.1))).mono ?_
        rw [HIX.out.1]
        rintro e w5 ⟨rfl, hb5⟩
        have H5 := Lib.hid (And.intro (H4.out.1.below hb5) (And.intro (H4.out.2.1.below hb5) (H4.out.2.2.trans (hb5.mono H4.out.2.2.size))))
        clear hb5 H4
        go_wp2_with fail
        refine (Strip_any al l.length cl l w5 rfl (by omega) H5.out.1).mono ?_
        rw [HG.out]
        rintro e w6 ⟨rfl, rfl⟩
        go_wp2_with fail
        refine (Perm_any' ao o.length co o l.length true w5 rfl (by omega) (by omega) (by omega) H5.out.2.1 hp.out).mono ?_
        rintro e w6 ⟨rfl, hb6⟩
        have H6 := Lib.hid (And.intro (H5.out.1.below hb6) (And.intro (H5.out.2.1.below hb6) (H5.out.2.2.trans (hb6.mono H5.out.2.2.size))))
        clear hb6 H5
        rw [hol.out]
        go_wp2_with fail
        refine (refFolds_r _ _ l.length cl co l O true w6 rfl p1 HG.out H6.out.1 HO.out.2.2.2 HO.out.2.2.1 (by rw [← HO.out.1]; exact H6.out.2.1) HR.out).mono ?_
        rintro e w7 ⟨rfl, hb7⟩
        have H7 := Lib.hid (And.intro (H6.out.1.below hb7) (And.intro (H6.out.2.1.below hb7) (H6.out.2.2.trans (hb7.mono H6.out.2.2.size))))
        clear hb7 H6
        go_wp2_with fail
        refine ((callsIn_wide (n := 0)).1 (HV.out _ _)).mono ?_
        rintro e w8 ⟨rfl, hb8⟩
        have H8 := Lib.hid (And.intro (H7.out.1.below hb8) (And.intro (H7.out.2.1.below hb8) (H7.out.2.2.trans (hb8.mono H7.out.2.2.size))))
        clear hb8 H7
        obtain ⟨bL, oL, rfl⟩ : ∃ b o, al = some ⟨b, o, none⟩ := by
          rcases H8.out.1.at with h | ⟨b, o, h, _⟩
          · subst h; simp at p1
          · exact ⟨b, o, h⟩
        go_wp2_with fail
        refine (All_any bL oL l.length cl l w8 rfl HG.out H8.out.1).mono ?_
        rintro e w9 ⟨v, rfl, hL, hb9⟩
        obtain ⟨gA, cA, vsA, rfl, hrA, heA⟩ := hL
        have HE := Lib.hid (And.intro hrA heA)
        have H9 := Lib.hid (And.intro (H8.out.1.below hb9) (And.intro (H8.out.2.1.below hb9) (H8.out.2.2.trans (hb9.mono H8.out.2.2.size))))
        obtain ⟨cnt, hcnt⟩ : ∃ cnt, (ordersOf (layCl l) l.length).length = cnt := ⟨_, rfl⟩
        have hixl : ix < cnt := by rw [← hcnt]; exact HIX.out.2.1
        rw [hcnt] at HE ⊢
        clear hrA heA hb9 H8 hcnt
        go_wp2_with fail
        refine (Letters_n _ _ l.length cl co l O X w9 rfl p1 HG.out H9.out.1 HO.out.2.1 HO.out.2.2.2 HO.out.2.2.1 (by rw [← HO.out.1]; exact H9.out.2.1) HX.out).mono ?_
        rintro e w10 ⟨rfl, hb10⟩
        have hrA := ownsRow_kept HE.out.1 hb10
        have heA := (HE.out.2 ix hixl).kept hb10
        have hvl : vsA.length = cnt := by simpa using HE.out.1.1
        have cell := hrA.cellAt ix (by omega)
        rw [HIX.out.2.2, Option.getD_some, List.getElem?_eq_getElem (by omega : ix < vsA.length), Option.getD_some] at heA
        rw [List.getElem?_eq_getElem (by omega : ix < vsA.length)] at cell
        obtain ⟨eb, ec, ee, er⟩ := heA
        rw [ee] at cell er
        have hOl : O.length = l.length := HO.out.2.2.2
        rw [hOl] at cell er
        have H10 := Lib.hid (And.intro (H9.out.2.1.below hb10) (And.intro (Ints.of_nats er) (H9.out.2.2.trans (hb10.mono H9.out.2.2.size))))
        clear hb10 hrA hvl ee er hOl H9
        go_wp2_with fail
        refine (same_any _ _ l.length l.length ec co (O.map fun (x : Nat) => (x : Int)) o w10 (by rw [List.length_map]; exact HO.out.2.2.2) hol.out (by omega) (by omega) H10.out.2.1 H10.out.1).mono ?_
        rintro e w11 ⟨rfl, hb11⟩
        rw [decide_eq_true HO.out.1.symm]
        have H11 := Lib.hid (H10.out.2.2.trans (hb11.mono H10.out.2.2.size))
        clear hb11
        go_wp2
        go_ret
        exact ⟨rfl, H11.out⟩

      · have hk' : okFrom (layCl l) l.length O 0 = false := hk
        have hf := Lib.hid (show foldsZ l o = (false, 0) by rw [foldsZ, if_pos hs, if_pos hb, hOo, toNat_back, hk'])
        have hc := Lib.hid (show creasesZ l o = (⟨#[]⟩, 5) by rw [creasesZ, hf.out]; rfl)
        have HR := Lib.hid (show refB l O = false by rw [refB_ok hs o1 o2 o3]; exact hk')
        have HG := Lib.hid hs
        clear hs hb hk hk' hOo o1 o2 o3
        go_enter Try.func3, Try.ntmps3
        go_wp2_with fail
        refine hct1.out.mono ?_
        rintro e w1 ⟨v, rfl, ⟨al, cl, rfl, hI1⟩, hb1⟩
        have H1 := Lib.hid (And.intro hI1 hb1)
        clear hI1 hb1
        go_wp2_with fail
        refine (hct2.out w1 H1.out.2).mono ?_
        rintro e w2 ⟨v, rfl, ⟨ao, co, rfl, hI2⟩, hb2⟩
        have H2 := Lib.hid (And.intro (H1.out.1.below hb2) (And.intro hI2 (H1.out.2.trans (hb2.mono H1.out.2.size))))
        clear hI2 hb2 H1
        go_wp2_with fail
        refine (Folds_any al ao l.length cl o.length co l o w2 false 0 rfl (by omega) H2.out.1 rfl (by omega) H2.out.2.1 hf.out).mono ?_
        rintro e w3 ⟨rfl, hb3⟩
        have H3 := Lib.hid (And.intro (H2.out.1.below hb3) (And.intro (H2.out.2.1.below hb3) (H2.out.2.2.trans (hb3.mono H2.out.2.2.size))))
        clear hb3 H2
        go_wp2_with fail
        refine (Creases_any al ao l.length cl o.length co l o w3 ⟨#[]⟩ 5 rfl (by omega) H3.out.1 rfl (by omega) H3.out.2.1 hc.out).mono ?_
        rintro e w4 ⟨rfl, hb4⟩
        have H4 := Lib.hid (And.intro (H3.out.1.below hb4) (And.intro (H3.out.2.1.below hb4) (H3.out.2.2.trans (hb4.mono H3.out.2.2.size))))
        clear hb4 H3
        go_wp2_with fail
        refine (Rank_bad al ao l.length cl o.length co l o w4 false 0 5 rfl (by omega) H4.out.1 rfl (by omega) H4.out.2.1 hf.out (.inr ⟨rfl, rfl, rfl⟩)).mono ?_
        rintro e w5 ⟨rfl, hb5⟩
        have H5 := Lib.hid (And.intro (H4.out.1.below hb5) (And.intro (H4.out.2.1.below hb5) (H4.out.2.2.trans (hb5.mono H4.out.2.2.size))))
        clear hb5 H4
        go_wp2_with fail
        refine (Strip_any al l.length cl l w5 rfl (by omega) H5.out.1).mono ?_
        rw [HG.out]
        rintro e w6 ⟨rfl, rfl⟩
        go_wp2_with fail
        refine (Perm_any' ao o.length co o l.length true w5 rfl (by omega) (by omega) (by omega) H5.out.2.1 hp.out).mono ?_
        rintro e w6 ⟨rfl, hb6⟩
        have H6 := Lib.hid (And.intro (H5.out.1.below hb6) (And.intro (H5.out.2.1.below hb6) (H5.out.2.2.trans (hb6.mono H5.out.2.2.size))))
        clear hb6 H5
        rw [hol.out]
        go_wp2_with fail
        refine (refFolds_r _ _ l.length cl co l O false w6 rfl p1 HG.out H6.out.1 HO.out.2.2.2 HO.out.2.2.1 (by rw [← HO.out.1]; exact H6.out.2.1) HR.out).mono ?_
        rintro e w7 ⟨rfl, hb7⟩
        have H7 := Lib.hid (And.intro (H6.out.1.below hb7) (And.intro (H6.out.2.1.below hb7) (H6.out.2.2.trans (hb7.mono H6.out.2.2.size))))
        clear hb7 H6
        go_wp2_with fail
        refine ((callsIn_wide (n := 0)).1 (HV.out _ _)).mono ?_
        rintro e w8 ⟨rfl, hb8⟩
        have H8 := Lib.hid (And.intro (H7.out.1.below hb8) (And.intro (H7.out.2.1.below hb8) (H7.out.2.2.trans (hb8.mono H7.out.2.2.size))))
        clear hb8 H7
        go_wp2
        go_ret
        exact ⟨rfl, H8.out.2.2⟩

    · have hf := Lib.hid (show foldsZ l o = (false, 2) by rw [foldsZ, if_pos hs, if_neg (by rw [hb]; exact Bool.false_ne_true)])
      have hc := Lib.hid (show creasesZ l o = (⟨#[]⟩, 2) by rw [creasesZ, hf.out]; rfl)
      have hp := Lib.hid (show permR o l.length = false by rw [permR_iff]; exact hb)
      have HG := Lib.hid hs
      clear hs hb
      go_enter Try.func3, Try.ntmps3
      go_wp2_with fail
      refine hct1.out.mono ?_
      rintro e w1 ⟨v, rfl, ⟨al, cl, rfl, hI1⟩, hb1⟩
      have H1 := Lib.hid (And.intro hI1 hb1)
      clear hI1 hb1
      go_wp2_with fail
      refine (hct2.out w1 H1.out.2).mono ?_
      rintro e w2 ⟨v, rfl, ⟨ao, co, rfl, hI2⟩, hb2⟩
      have H2 := Lib.hid (And.intro (H1.out.1.below hb2) (And.intro hI2 (H1.out.2.trans (hb2.mono H1.out.2.size))))
      clear hI2 hb2 H1
      go_wp2_with fail
      refine (Folds_any al ao l.length cl o.length co l o w2 false 2 rfl (by omega) H2.out.1 rfl (by omega) H2.out.2.1 hf.out).mono ?_
      rintro e w3 ⟨rfl, hb3⟩
      have H3 := Lib.hid (And.intro (H2.out.1.below hb3) (And.intro (H2.out.2.1.below hb3) (H2.out.2.2.trans (hb3.mono H2.out.2.2.size))))
      clear hb3 H2
      go_wp2_with fail
      refine (Creases_any al ao l.length cl o.length co l o w3 ⟨#[]⟩ 2 rfl (by omega) H3.out.1 rfl (by omega) H3.out.2.1 hc.out).mono ?_
      rintro e w4 ⟨rfl, hb4⟩
      have H4 := Lib.hid (And.intro (H3.out.1.below hb4) (And.intro (H3.out.2.1.below hb4) (H3.out.2.2.trans (hb4.mono H3.out.2.2.size))))
      clear hb4 H3
      go_wp2_with fail
      refine (Rank_bad al ao l.length cl o.length co l o w4 false 2 2 rfl (by omega) H4.out.1 rfl (by omega) H4.out.2.1 hf.out (.inl ⟨by omega, rfl⟩)).mono ?_
      rintro e w5 ⟨rfl, hb5⟩
      have H5 := Lib.hid (And.intro (H4.out.1.below hb5) (And.intro (H4.out.2.1.below hb5) (H4.out.2.2.trans (hb5.mono H4.out.2.2.size))))
      clear hb5 H4
      go_wp2_with fail
      refine (Strip_any al l.length cl l w5 rfl (by omega) H5.out.1).mono ?_
      rw [HG.out]
      rintro e w6 ⟨rfl, rfl⟩
      go_wp2_with fail
      refine (Perm_any' ao o.length co o l.length false w5 rfl (by omega) (by omega) (by omega) H5.out.2.1 hp.out).mono ?_
      rintro e w6 ⟨rfl, hb6⟩
      have H6 := Lib.hid (H5.out.2.2.trans (hb6.mono H5.out.2.2.size))
      clear hb6
      go_wp2_with fail
      refine ((callsIn_wide (n := 0)).1 (HV.out _ _)).mono ?_
      rintro e w7 ⟨rfl, hb7⟩
      have H7 := Lib.hid (H6.out.trans (hb7.mono H6.out.size))
      clear hb7
      go_wp2
      go_ret
      exact ⟨rfl, H7.out⟩

  · have hf := Lib.hid (show foldsZ l o = (false, 1) by rw [foldsZ, if_neg (by rw [hs]; exact Bool.false_ne_true)])
    have hc := Lib.hid (show creasesZ l o = (⟨#[]⟩, 1) by rw [creasesZ, hf.out]; rfl)
    have HG := Lib.hid hs
    clear hs
    go_enter Try.func3, Try.ntmps3
    go_wp2_with fail
    refine hct1.out.mono ?_
    rintro e w1 ⟨v, rfl, ⟨al, cl, rfl, hI1⟩, hb1⟩
    have H1 := Lib.hid (And.intro hI1 hb1)
    clear hI1 hb1
    go_wp2_with fail
    refine (hct2.out w1 H1.out.2).mono ?_
    rintro e w2 ⟨v, rfl, ⟨ao, co, rfl, hI2⟩, hb2⟩
    have H2 := Lib.hid (And.intro (H1.out.1.below hb2) (And.intro hI2 (H1.out.2.trans (hb2.mono H1.out.2.size))))
    clear hI2 hb2 H1
    go_wp2_with fail
    refine (Folds_any al ao l.length cl o.length co l o w2 false 1 rfl (by omega) H2.out.1 rfl (by omega) H2.out.2.1 hf.out).mono ?_
    rintro e w3 ⟨rfl, hb3⟩
    have H3 := Lib.hid (And.intro (H2.out.1.below hb3) (And.intro (H2.out.2.1.below hb3) (H2.out.2.2.trans (hb3.mono H2.out.2.2.size))))
    clear hb3 H2
    go_wp2_with fail
    refine (Creases_any al ao l.length cl o.length co l o w3 ⟨#[]⟩ 1 rfl (by omega) H3.out.1 rfl (by omega) H3.out.2.1 hc.out).mono ?_
    rintro e w4 ⟨rfl, hb4⟩
    have H4 := Lib.hid (And.intro (H3.out.1.below hb4) (And.intro (H3.out.2.1.below hb4) (H3.out.2.2.trans (hb4.mono H3.out.2.2.size))))
    clear hb4 H3
    go_wp2_with fail
    refine (Rank_bad al ao l.length cl o.length co l o w4 false 1 1 rfl (by omega) H4.out.1 rfl (by omega) H4.out.2.1 hf.out (.inl ⟨by omega, rfl⟩)).mono ?_
    rintro e w5 ⟨rfl, hb5⟩
    have H5 := Lib.hid (And.intro (H4.out.1.below hb5) (And.intro (H4.out.2.1.below hb5) (H4.out.2.2.trans (hb5.mono H4.out.2.2.size))))
    clear hb5 H4
    go_wp2_with fail
    refine (Strip_any al l.length cl l w5 rfl (by omega) H5.out.1).mono ?_
    rw [HG.out]
    rintro e w6 ⟨rfl, rfl⟩
    have H6 := Lib.hid H5.out.2.2
    go_wp2_with fail
    refine ((callsIn_wide (n := 0)).1 (HV.out _ _)).mono ?_
    rintro e w7 ⟨rfl, hb7⟩
    have H7 := Lib.hid (H6.out.trans (hb7.mono H6.out.size))
    clear hb7
    go_wp2
    go_ret
    exact ⟨rfl, H7.out⟩

end Go.Proofs.Yteankhgikpejhaa
