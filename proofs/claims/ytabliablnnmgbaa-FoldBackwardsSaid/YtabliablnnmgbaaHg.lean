/-
  The walks of 'backwards' and 'FoldBackwards'.
-/
import Derived.Test.YtabliablnnmgbaaHf
namespace Go.Proofs.Ytabliablnnmgbaa
open Go.RowKit Go.Sort Go.Shelf

/-- Three results of 'backwards'. -/
def BackV (w : World) (zs os : List Int) (s : List UInt8) (e : Ending) (w' : World) : Prop := ∃ v1 v2 t, e = .returned (.tuple #[v1, v2, .string t]) ∧ (∃ g cap, v1 = .slice (some ⟨g, 0, none⟩) zs.length cap ∧ Ints w' (some ⟨g, 0, none⟩) zs.reverse) ∧
  (∃ g cap, v2 = .slice (some ⟨g, 0, none⟩) os.length cap ∧ Ints w' (some ⟨g, 0, none⟩) (os.map fun z => (zs.length : Int) - 1 - z)) ∧ t.data.toList = s.reverse ∧ Below w.heap.size w w'

theorem ext_one (s : ByteArray) (i : Nat) (h : i < s.data.toList.length) : (s.extract i (i + 1)).data.toList = [s.data.toList[i]] := by
  rw [ByteArray.data_extract, Array.toList_extract]
  simp only [List.extract, Nat.add_sub_cancel_left]
  rw [List.drop_eq_getElem_cons h]
  rfl
theorem back_next (s q : ByteArray) (i : Nat) (hi : i < s.size) (h1 : q.size = s.size - (i + 1)) (h2 : q.data.toList = (s.data.toList.drop (i + 1)).reverse) : (q ++ s.extract i (i + 1)).size = s.size - i ∧ (q ++ s.extract i (i + 1)).data.toList = (s.data.toList.drop i).reverse := by
  have hl : i < s.data.toList.length := by simpa using hi
  have he := ext_one s i hl
  have hs : (s.extract i (i + 1)).size = 1 := by
    show (s.extract i (i + 1)).data.size = 1
    rw [← Array.length_toList, he]; rfl
  constructor
  · rw [ByteArray.size_append, hs, h1]; omega
  · rw [ByteArray.data_append, Array.toList_append, he, h2, List.drop_eq_getElem_cons hl, List.reverse_cons]

set_option maxRecDepth 100000 in
set_option maxHeartbeats 4000000 in
theorem backwards_any (a aO : Option Addr) (n cap cO : Nat) (zs os : List Int) (s : ByteArray) (w : World) (hn : zs.length = n) (h9 : n ≤ 9) (hz : Ints w a zs) (hno : os.length = n) (hO : Ints w aO os) (hob : ∀ z ∈ os, 0 ≤ z ∧ z < n) (hs : s.size ≤ 1000) :
    Calls Try.prog 46 #[.slice a n cap, .slice aO n cO, .string s] w (BackV w zs os s.data.toList) := by
  have HX := Lib.hid hO.at
  have HZ := Lib.hid hz
  have HN := Lib.hid (And.intro hn hno)
  have HOB := Lib.hid hob
  clear hO hz hn hno hob
  go_enter Try.func46, Try.ntmps46
  go_wp2
  go_loopw [9, 11] (fun v i wr => ∃ k : Nat, k ≤ n ∧ i = .int .i64 k ∧ CollI w ((os.take k).map fun z => (n : Int) - 1 - z) k v wr) (fun _ i _ => n - (intOf i).toNat)
  case atStart => exact ⟨0, Nat.zero_le _, rfl, CollI.start w⟩
  case round =>
    obtain ⟨k, hk, rfl, hC⟩ := hrel
    by_cases hlt : k < n
    · rcases HX.out with h | ⟨b, off, rfl, hc⟩
      · have := HN.out.2; subst h; simp at this; omega
      have hj : k < os.length := by rw [HN.out.2]; omega
      have c0 := (hC.1.cell (p := ⟨b, off + k, none⟩) (World.block_lt_of_cell? w _ (hc k hj))).trans (hc k hj)
      have hzb := HOB.out (os[k]?.getD 0) (by simp [hj])
      have HD : Hid ((os.take (k + 1)).map (fun z => (n : Int) - 1 - z) = (os.take k).map (fun z => (n : Int) - 1 - z) ++ [(n : Int) - 1 - os[k]?.getD 0]) := Lib.hid (by rw [List.take_succ_eq_append_getElem hj, List.map_append, List.getElem?_eq_getElem hj]; rfl)
      generalize os[k]?.getD 0 = z at *
      have hsz := hC.1.size
      have HC := Lib.hid hC
      clear hc hC
      obtain ⟨_, _, g0, cp0, rfl, _⟩ := HC.out
      go_wp2_with (at_builtin; refine wpList_app_int rfl (.tmp 20) (.tmp 29) rfl w.heap.size _ _ _ rfl ((n : Int) - 1 - z) _ rfl rfl HC.out.owns (by omega) hsz ?_; intro g cp w2 hr2 hg2 hat2 _; have H2 := Lib.hid (HC.out.next hr2 hg2); clear hr2 hg2 hat2)
      go_roundw
      case rel => exact ⟨k + 1, by omega, by go_num, by rw [HD.out]; exact H2.out⟩
      case measure => simp [intOf]; omega
    · obtain rfl : k = n := by omega
      have HC := Lib.hid hC
      clear hC
      obtain ⟨_, _, g0, cp0, rfl, _⟩ := HC.out
      go_wp2
      go_loop [10, 12] (fun t i => ∃ j : Nat, j ≤ s.size ∧ i = .int .i64 ((j : Int) - 1) ∧ ∃ q : ByteArray, t = .string q ∧ Hid (q.size = s.size - j) ∧ Hid (q.data.toList = (s.data.toList.drop j).reverse)) (fun _ i => (intOf i + 1).toNat)
      case atStart => exact ⟨s.size, Nat.le_refl _, rfl, ⟨#[]⟩, rfl, Lib.hid (by rw [Nat.sub_self]; rfl), Lib.hid (by rw [List.drop_of_length_le (by simp)]; rfl)⟩
      case round =>
        obtain ⟨j, hj, rfl, q, rfl, hq1, hq2⟩ := hrel
        have hq3 : q.size ≤ 1000 := by rw [hq1.out]; omega
        by_cases hlt : 0 < j
        · obtain ⟨i, rfl⟩ : ∃ i, j = i + 1 := ⟨j - 1, by omega⟩
          have e : (((i + 1 : Nat) : Int) - 1) = i := by omega
          simp only [e]
          have hi : i < s.size := by omega
          clear e
          go_wp2
          go_round
          case rel =>
            obtain ⟨p1, p2⟩ := back_next s q i hi hq1.out hq2.out
            exact ⟨i, by omega, rfl, _, rfl, Lib.hid p1, Lib.hid p2⟩
          case measure => simp [intOf]
        · obtain rfl : j = 0 := by omega
          have hqe := hq2.out
          rw [List.drop_zero] at hqe
          have HQ := Lib.hid hqe
          clear hqe hq1 hq2
          go_wp2_with (fail)
          refine (reversed_any a k cap zs wr HN.out.1 (by omega) (HZ.out.below HC.out.1)).mono ?_
          rintro e w5 ⟨v, rfl, hv, hb5⟩
          have H5 := Lib.hid (And.intro hv (And.intro ((Ints.of_owns HC.out.owns).below hb5) (HC.out.1.trans (hb5.mono HC.out.1.size))))
          clear hv hb5
          go_wp2
          go_ret3
          obtain ⟨g5, c5, hv5, hI5⟩ := H5.out.1.ints
          refine ⟨v, _, q, rfl, ⟨g5, c5, by rw [hv5, List.length_reverse], hI5⟩, ⟨g0, cp0, by rw [HN.out.2]; rfl, ?_⟩, HQ.out, H5.out.2.2⟩
          have := H5.out.2.1
          rw [List.take_of_length_le (by rw [HN.out.2]; exact Nat.le_refl _)] at this
          rw [HN.out.1]
          exact this


attribute [local go_sem] Oper.semAt_some
theorem stripB_reverse {zs : List Int} (h : stripB zs = true) : stripB zs.reverse = true := by
  rw [stripB, sizesB, List.length_reverse, List.all_reverse]
  exact h
theorem map_flip_cast {n : Nat} {O : List Nat} (hv : ∀ x ∈ O, x < n) : (O.map fun (x : Nat) => (x : Int)).map (fun z => (n : Int) - 1 - z) = (O.map (flipN n)).map fun (x : Nat) => (x : Int) := by
  rw [List.map_map, List.map_map]
  refine List.map_congr_left fun x hx => ?_
  have := hv x hx
  simp only [Function.comp, flipN]
  omega

set_option maxRecDepth 200000 in
set_option maxHeartbeats 8000000 in
theorem FoldBackwards_any (m n cap : Nat) (a : Option Addr) (zs : List Int) (at_ : Int) (w : World) (hn : zs.length = n) (hm : n ≤ 9223372036854775807) (hz : Ints w a zs) (hi : ∀ z ∈ zs, -9223372036854775808 ≤ z ∧ z ≤ 9223372036854775807)
    (ha0 : 0 ≤ at_) (ha1 : at_ ≤ 65535) :
    CallsIn Fence.wide m Try.prog 14 #[.slice a n cap, .int .u16 at_] w fun e w' => e = .returned (.bool true) ∧ Below w.heap.size w w' := by
  have hst := Lib.hid (strip_any' a n cap 7 6 zs w hn hm hz hi (by omega) (by omega) (by omega) (by omega))
  obtain ⟨l, hl⟩ : ∃ l, stripOf zs 7 6 = l := ⟨_, rfl⟩
  have hg := stripOf_good zs 7 6 (by omega) (by omega) (by omega) (by omega)
  rw [hl] at hst hg
  obtain ⟨hgood, hl7⟩ := hg
  have HG := Lib.hid hgood
  clear hl hz hi hn hm hgood
  have HV := Lib.hid lives_any
  refine callsIn_of_wp Try.func14 rfl trivial ?_ rfl
  simp only [Try.ntmps14, List.size_toArray, List.length_cons, List.length_nil, Nat.reduceAdd, Nat.reduceSub, Array.replicate_succ, Array.replicate_zero, List.push_toArray, List.append_toArray, List.nil_append, List.cons_append]
  gi_wp2_with (fail)
  refine ⟨trivial, wide_depth, ?_⟩
  refine (callsIn_wide.2 hst.out).mono ?_
  rintro e w1 ⟨v, rfl, hv, hb1⟩
  obtain ⟨g1, c1, rfl, hI1⟩ := hv.ints
  have H1 := Lib.hid (And.intro hI1 hb1)
  clear hv hI1 hb1 hst
  gi_wp2_with (fail)
  refine ⟨trivial, wide_depth, ?_⟩
  refine (Count_good _ l.length c1 _ l w1 rfl H1.out.1 HG.out).mono ?_
  obtain ⟨cnt, hcnt⟩ : ∃ cnt : Nat, countOf l = cnt := ⟨_, rfl⟩
  have hc1 : 1 ≤ (cnt : Int) := by have := count_pos l; omega
  have HCN := Lib.hid hcnt
  rw [hcnt]
  clear hcnt
  rintro e w2 ⟨rfl, hb2⟩
  have H2 := Lib.hid (And.intro (H1.out.1.below hb2) (H1.out.2.trans (hb2.mono H1.out.2.size)))
  clear hb2 H1
  gi_wp2_with (fail)
  refine ⟨trivial, wide_depth, ?_⟩
  refine (HV.out _ _).mono ?_
  rintro e w3 ⟨rfl, hb3⟩
  have H3 := Lib.hid (And.intro (H2.out.1.below hb3) (H2.out.2.trans (hb3.mono H2.out.2.size)))
  clear hb3 H2
  gi_wp2_with (fail)
  refine ⟨trivial, wide_depth, ?_⟩
  have hr0 := Int.emod_nonneg at_ (show (cnt : Int) ≠ 0 by omega)
  have hr1 := Int.emod_lt_of_pos at_ (show (0 : Int) < cnt by omega)
  refine (At_in _ l.length c1 _ l _ w3 rfl H3.out.1 HG.out hr0 (by rw [HCN.out]; exact hr1)).mono ?_
  clear hr0 hr1
  rintro e w4 ⟨O, g4, c4, hO, rfl, hI4, hb4⟩
  have HO := Lib.hid (mem_orders.1 hO)
  have HCr := Lib.hid (creasesZ_of HG.out hO)
  have HBk := Lib.hid (orders_back hO)
  have H4 := Lib.hid (And.intro (H3.out.1.below hb4) (And.intro hI4 (H3.out.2.trans (hb4.mono H3.out.2.size))))
  clear hb4 hI4 H3 hO
  obtain ⟨ol, hol⟩ : ∃ ol, O.map (fun (x : Nat) => (x : Int)) = ol := ⟨_, rfl⟩
  have HOL := Lib.hid hol
  have holn : Hid (ol.length = l.length) := Lib.hid (by rw [← hol, List.length_map]; exact HO.out.2.2.1)
  have hob : Hid (∀ z ∈ ol, 0 ≤ z ∧ z < l.length) := Lib.hid (by
    rw [← hol]
    intro z hz
    obtain ⟨x, hx, rfl⟩ := List.mem_map.1 hz
    have := HO.out.2.1 x hx
    omega)
  rw [hol] at H4 HCr
  obtain ⟨X, hX⟩ : ∃ X, crsOf l O = X := ⟨_, rfl⟩
  have HX := Lib.hid (And.intro hX (show X.size ≤ 1000 by rw [← hX]; exact crsOf_size (by omega) O))
  rw [hX] at HCr
  clear hol hX
  gi_wp2_with (fail)
  refine ⟨trivial, wide_depth, ?_⟩
  refine (callsIn_wide.2 (Creases_any _ _ l.length c1 l.length c4 l ol w4 X 0 rfl (by omega) H4.out.1 holn.out (by omega) H4.out.2.1 HCr.out)).mono ?_
  rintro e w5 ⟨rfl, hb5⟩
  have H5 := Lib.hid (And.intro (H4.out.1.below hb5) (And.intro (H4.out.2.1.below hb5) (H4.out.2.2.trans (hb5.mono H4.out.2.2.size))))
  clear hb5 H4
  gi_wp2_with (fail)
  refine ⟨trivial, wide_depth, ?_⟩
  refine (callsIn_wide.2 (backwards_any _ _ l.length c1 c4 l ol X w5 rfl (by omega) H5.out.1 holn.out H5.out.2.1 hob.out HX.out.2)).mono ?_
  rintro e w6 ⟨v1, v2, t, rfl, ⟨g6, c6, rfl, hI6⟩, ⟨g7, c7, rfl, hI7⟩, ht, hb6⟩
  have H6 := Lib.hid (And.intro hI6 (And.intro hI7 (And.intro ht (H5.out.2.2.trans (hb6.mono H5.out.2.2.size)))))
  have ht2 : t.size ≤ 1000 := by
    have : t.data.toList.length = X.data.toList.length := by rw [ht, List.length_reverse]
    rw [Array.length_toList, Array.length_toList] at this
    have h2 := HX.out.2
    exact Nat.le_trans (Nat.le_of_eq this) h2
  clear hI6 hI7 ht hb6 H5
  rw [holn.out]
  have hgr := Lib.hid (stripB_reverse HG.out)
  have hcl : countOf l.reverse = cnt := by rw [count_back, HCN.out]
  have hcr : creasesZ l.reverse (ol.map fun z => (l.length : Int) - 1 - z) = (crsOf l.reverse (O.map (flipN l.length)), 0) := by
    rw [← HOL.out, map_flip_cast HO.out.2.1]
    exact creasesZ_of hgr.out HBk.out
  have HCL := Lib.hid hcl
  have hcb := crs_back HO.out.1 HO.out.2.1 HO.out.2.2.1
  rw [HX.out.1, backL] at hcb
  rcases Nat.mod_two_eq_zero_or_one l.length with hp | hp
  · have hpb : ((l.length : Int) % 2 == 0) = true := by rw [beq_iff_eq]; omega
    rw [if_pos hp] at hcb
    have hT : crsOf l.reverse (O.map (flipN l.length)) = exchS t := by rw [exchS, H6.out.2.2.1]; exact bytes_eq hcb
    rw [hT] at hcr
    have HCR := Lib.hid hcr
    clear hcr hT hcb hcl hp
    gi_wp2_with (fail)
    refine ⟨trivial, wide_depth, ?_⟩
    refine (callsIn_wide.2 (exchanged_any t _ ht2)).mono ?_
    rintro e w7 ⟨rfl, rfl⟩
    obtain ⟨Y, hY⟩ : ∃ Y, exchS t = Y := ⟨_, rfl⟩
    rw [hY] at HCR ⊢
    clear hY
    gi_wp2_with (fail)
    refine ⟨trivial, wide_depth, ?_⟩
    refine (callsIn_wide.2 (Creases_any _ _ l.length c6 l.length c7 l.reverse _ w6 Y 0 (by simp) (by omega) H6.out.1 (by simp [holn.out]) (by omega) H6.out.2.1 HCR.out)).mono ?_
    rintro e w8 ⟨rfl, hb8⟩
    have H8 := Lib.hid (And.intro (H6.out.1.below hb8) (H6.out.2.2.2.trans (hb8.mono H6.out.2.2.2.size)))
    clear hb8
    gi_wp2_with (fail)
    refine ⟨trivial, wide_depth, ?_⟩
    refine (Count_good _ l.length c6 _ l.reverse w8 (by simp) H8.out.1 hgr.out).mono ?_
    rw [HCL.out]
    rintro e w9 ⟨rfl, hb9⟩
    have H9 := Lib.hid (H8.out.2.trans (hb9.mono H8.out.2.size))
    clear hb9
    gi_wp2_with (fail)
    go_ret
    exact ⟨rfl, H9.out⟩
  · have hpb : ((l.length : Int) % 2 == 0) = false := by rw [beq_eq_false_iff_ne]; omega
    rw [if_neg (by omega)] at hcb
    have hT : crsOf l.reverse (O.map (flipN l.length)) = t := by rw [bytes_eq hcb, ← H6.out.2.2.1]
    rw [hT] at hcr
    have HCR := Lib.hid hcr
    clear hcr hT hcb hcl hp
    gi_wp2_with (fail)
    refine ⟨trivial, wide_depth, ?_⟩
    refine (callsIn_wide.2 (Creases_any _ _ l.length c6 l.length c7 l.reverse _ w6 t 0 (by simp) (by omega) H6.out.1 (by simp [holn.out]) (by omega) H6.out.2.1 HCR.out)).mono ?_
    rintro e w8 ⟨rfl, hb8⟩
    have H8 := Lib.hid (And.intro (H6.out.1.below hb8) (H6.out.2.2.2.trans (hb8.mono H6.out.2.2.2.size)))
    clear hb8
    gi_wp2_with (fail)
    refine ⟨trivial, wide_depth, ?_⟩
    refine (Count_good _ l.length c6 _ l.reverse w8 (by simp) H8.out.1 hgr.out).mono ?_
    rw [HCL.out]
    rintro e w9 ⟨rfl, hb9⟩
    have H9 := Lib.hid (H8.out.2.trans (hb9.mono H8.out.2.size))
    clear hb9
    gi_wp2_with (fail)
    go_ret
    exact ⟨rfl, H9.out⟩

end Go.Proofs.Ytabliablnnmgbaa
