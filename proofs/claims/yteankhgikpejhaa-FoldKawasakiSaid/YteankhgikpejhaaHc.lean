/-
  FoldTurned: the creases of the reversed order; the walk of the law.
-/
import Derived.Test.YteankhgikpejhaaHa
import Derived.Test.YteankhgikpejhaaHb
import Derived.Test.YteankhgikpejhaaGd
namespace Go.Proofs.Yteankhgikpejhaa
open Go.RowKit Go.Sort Go.Shelf

theorem strOf_list (ns : List Int) : (strOf ns).data.toList = ns.map fun n => UInt8.ofNat n.toNat := by
  have key : ∀ (l : List Int) (b : ByteArray), (l.foldl (fun r n => r.push (UInt8.ofNat n.toNat)) b).data.toList = b.data.toList ++ l.map fun n => UInt8.ofNat n.toNat := by
    intro l
    induction l with
    | nil => intro b; simp
    | cons a l ih => intro b; rw [List.foldl_cons, ih]; simp [ByteArray.push]
  have := key ns ByteArray.empty
  rw [strOf, this]; rfl
theorem layersOf_at {n : Nat} {P : List Nat} (hn : P.Nodup) (hv : ∀ x ∈ P, x < n) (hl : P.length = n) {s : Nat} (hs : s < n) : (layersOf P n)[s]?.getD 0 = (layerN P s : Int) := by
  rw [layersOf, hl, layersTo_layer hn hv hl hs n (Nat.le_refl _), if_pos (layerN_lt hn hv hl hs)]
theorem letter_flip {n : Nat} {P : List Nat} (hn : P.Nodup) (hv : ∀ x ∈ P, x < n) (hl : P.length = n) {f : Cr} (h1 : f.first < n) (h2 : f.second < n) (h3 : f.first ≠ f.second) :
    letterZ (layersOf P.reverse n) f = if letterZ (layersOf P n) f = 86 then 77 else 86 := by
  have hn' := nodup_rev hn
  have hv' : ∀ x ∈ P.reverse, x < n := fun x hx => hv x (List.mem_reverse.1 hx)
  have hl' : P.reverse.length = n := by simpa using hl
  have hne : layerN P f.first ≠ layerN P f.second := fun e => h3 (layerN_inj hn hv hl h1 h2 e)
  have a := layerN_lt hn hv hl h1
  have b := layerN_lt hn hv hl h2
  have e : decide (((n - 1 - layerN P f.first : Nat) : Int) < ((n - 1 - layerN P f.second : Nat) : Int)) = !decide ((layerN P f.first : Int) < (layerN P f.second : Int)) := by
    rw [Bool.eq_iff_iff, Bool.not_eq_true', decide_eq_true_eq, decide_eq_false_iff_not]
    omega
  rw [letterZ, letterZ, layersOf_at hn' hv' hl' h1, layersOf_at hn' hv' hl' h2, layersOf_at hn hv hl h1, layersOf_at hn hv hl h2, layerN_reverse hn hv hl h1, layerN_reverse hn hv hl h2, e]
  cases decide ((layerN P f.first : Int) < (layerN P f.second : Int)) <;> cases (f.first % 2 == 0) <;> rfl
theorem crs_reverse {zs : List Int} {P : List Nat} (hn : P.Nodup) (hv : ∀ x ∈ P, x < zs.length) (hl : P.length = zs.length) : crsOf zs P.reverse = exchS (crsOf zs P) := by
  refine bytes_eq ?_
  rw [crsOf, crsOf, exchZ, strOf_list, strOf_list, lettersZ, lettersZ, List.map_map, List.map_map, List.map_map]
  refine List.map_congr_left fun f hf => ?_
  obtain ⟨a, b, c⟩ := (strip_fair zs).ends f hf
  simp only [Function.comp]
  rw [letter_flip hn hv hl a b c]
  unfold letterZ
  split <;> rfl

/-- 'At' within the count. -/
def AtIn (zs : List Int) (w : World) (e : Ending) (w' : World) : Prop := ∃ O g cap, O ∈ ordersOf (layCl zs) zs.length ∧ e = .returned (.tuple #[.slice (some ⟨g, 0, none⟩) zs.length cap, .int .i64 0]) ∧ Ints w' (some ⟨g, 0, none⟩) (O.map fun (x : Nat) => (x : Int)) ∧ Below w.heap.size w w'
theorem At_in (a : Option Addr) (n cap m : Nat) (zs : List Int) (r : Int) (w : World) (hn : zs.length = n) (hz : Ints w a zs) (hs : stripB zs = true) (h0 : 0 ≤ r) (h1 : r < countOf zs) :
    CallsIn Fence.wide m Try.prog 32 #[.slice a n cap, .int .i64 r] w (AtIn zs w) := by
  refine (At_good a n cap m zs r w hn hz hs).mono ?_
  rintro e w' ⟨v, err, rfl, hb, hm⟩
  have hr : r.toNat < (ordersOf (layCl zs) zs.length).length := by unfold countOf at h1; omega
  rw [atZ, if_pos h0, List.getElem?_eq_getElem hr] at hm
  obtain ⟨rfl, g, cp, rfl, _, hr2⟩ := hm
  exact ⟨_, g, cp, List.getElem_mem hr, rfl, Ints.of_nats hr2, hb⟩

theorem crsOf_size {zs : List Int} (h9 : zs.length ≤ 9) (O : List Nat) : (crsOf zs O).size ≤ 1000 := by
  have : (crsOf zs O).data.toList.length ≤ 9 := by
    rw [crsOf, strOf_list, List.length_map, lettersZ, List.length_map, layCl_crs]; omega
  rw [Array.length_toList] at this
  exact Nat.le_trans this (by omega)

theorem scaled_good {zs : List Int} {t : Int} (h : stripB zs = true) (h6 : ∀ z ∈ zs, 1 ≤ z ∧ z ≤ 6) (h1 : 1 ≤ t) (h2 : t ≤ 100) : stripB (zs.map (· * t)) = true := by
  obtain ⟨p1, p9, _⟩ := strip_parts h
  rw [stripB, sizesB, List.length_map]
  simp only [Bool.and_eq_true, decide_eq_true_eq, List.all_eq_true, List.mem_map, forall_exists_index, and_imp, forall_apply_eq_imp_iff₂]
  refine ⟨⟨p1, p9⟩, fun z hz => ?_⟩
  obtain ⟨a, b⟩ := h6 z hz
  have e1 : 1 * 1 ≤ z * t := Int.mul_le_mul a h1 (by omega) (by omega)
  have e2 : z * t ≤ 6 * 100 := Int.mul_le_mul b h2 (by omega) (by omega)
  simp [sizeB]; omega
theorem stripOf_in (zs : List Int) (most : Nat) (size : Int) (hs : 1 ≤ size) : ∀ z ∈ stripOf zs most size, 1 ≤ z ∧ z ≤ size := by
  unfold stripOf
  split
  · intro z hz; simp at hz; omega
  · intro z hz
    obtain ⟨y, _, rfl⟩ := List.mem_map.1 hz
    exact f1Z_bd y size hs

attribute [local go_sem] Oper.semAt_some
set_option maxRecDepth 200000 in
set_option maxHeartbeats 8000000 in
theorem FoldTurned_any (m n cap : Nat) (a : Option Addr) (zs : List Int) (at_ tm : Int) (w : World) (hn : zs.length = n) (hm : n ≤ 9223372036854775807) (hz : Ints w a zs) (hi : ∀ z ∈ zs, -9223372036854775808 ≤ z ∧ z ≤ 9223372036854775807)
    (ha0 : 0 ≤ at_) (ha1 : at_ ≤ 65535) (ht0 : 0 ≤ tm) (ht1 : tm ≤ 255) :
    CallsIn Fence.wide m Try.prog 13 #[.slice a n cap, .int .u16 at_, .int .u8 tm] w fun e w' => e = .returned (.bool true) ∧ Below w.heap.size w w' := by
  have hst := Lib.hid (strip_any' a n cap 7 6 zs w hn hm hz hi (by omega) (by omega) (by omega) (by omega))
  obtain ⟨l, hl⟩ : ∃ l, stripOf zs 7 6 = l := ⟨_, rfl⟩
  have hg := stripOf_good zs 7 6 (by omega) (by omega) (by omega) (by omega)
  have h6 := stripOf_in zs 7 6 (by omega)
  rw [hl] at hst hg h6
  obtain ⟨hgood, hl7⟩ := hg
  have HG := Lib.hid (And.intro hgood h6)
  clear hl hz hi hn hm hgood h6
  have HV := Lib.hid lives_any
  refine callsIn_of_wp Try.func13 rfl trivial ?_ rfl
  simp only [Try.ntmps13, List.size_toArray, List.length_cons, List.length_nil, Nat.reduceAdd, Nat.reduceSub, Array.replicate_succ, Array.replicate_zero, List.push_toArray, List.append_toArray, List.nil_append, List.cons_append]
  gi_wp2_with (fail)
  refine ⟨trivial, wide_depth, ?_⟩
  refine (callsIn_wide.2 hst.out).mono ?_
  rintro e w1 ⟨v, rfl, hv, hb1⟩
  obtain ⟨g1, c1, rfl, hI1⟩ := hv.ints
  have H1 := Lib.hid (And.intro hI1 hb1)
  clear hv hI1 hb1 hst
  gi_wp2_with (fail)
  refine ⟨trivial, wide_depth, ?_⟩
  refine (Count_good _ l.length c1 _ l w1 rfl H1.out.1 HG.out.1).mono ?_
  obtain ⟨cnt, hcnt⟩ : ∃ cnt : Nat, countOf l = cnt := ⟨_, rfl⟩
  have hc1 : 1 ≤ (cnt : Int) := by have := count_pos l; omega
  have HCN := Lib.hid hcnt
  rw [hcnt]
  clear hcnt
  rintro e w2 ⟨rfl, hb2⟩
  have H2 := Lib.hid (And.intro (H1.out.1.below hb2) (H1.out.2.trans (hb2.mono H1.out.2.size)))
  clear hb2 H1
  gi_wp2_with (fail)
  refine ⟨trivial, wide_depth, ?_⟩
  refine (HV.out _ _).mono ?_
  rintro e w3 ⟨rfl, hb3⟩
  have H3 := Lib.hid (And.intro (H2.out.1.below hb3) (H2.out.2.trans (hb3.mono H2.out.2.size)))
  clear hb3 H2
  gi_wp2_with (fail)
  refine ⟨trivial, wide_depth, ?_⟩
  have hr0 := Int.emod_nonneg at_ (show (cnt : Int) ≠ 0 by omega)
  have hr1 := Int.emod_lt_of_pos at_ (show (0 : Int) < cnt by omega)
  refine (At_in _ l.length c1 _ l _ w3 rfl H3.out.1 HG.out.1 hr0 (by rw [HCN.out]; exact hr1)).mono ?_
  clear hr0 hr1
  rintro e w4 ⟨O, g4, c4, hO, rfl, hI4, hb4⟩
  have HO := Lib.hid (mem_orders.1 hO)
  have HCr := Lib.hid (creasesZ_of HG.out.1 hO)
  have HRv := Lib.hid (creasesZ_of HG.out.1 (O := O.reverse) (mem_orders.2 ⟨nodup_rev HO.out.1, fun x hx => HO.out.2.1 x (List.mem_reverse.1 hx), by simpa using HO.out.2.2.1, ok_reverse HO.out.1 HO.out.2.1 HO.out.2.2.1 HO.out.2.2.2⟩))
  have HRc := Lib.hid (crs_reverse HO.out.1 HO.out.2.1 HO.out.2.2.1)
  have H4 := Lib.hid (And.intro (H3.out.1.below hb4) (And.intro hI4 (H3.out.2.trans (hb4.mono H3.out.2.size))))
  clear hb4 hI4 H3 hO
  obtain ⟨ol, hol⟩ : ∃ ol, O.map (fun (x : Nat) => (x : Int)) = ol := ⟨_, rfl⟩
  have HOL := Lib.hid hol
  have holn : Hid (ol.length = l.length) := Lib.hid (by rw [← hol, List.length_map]; exact HO.out.2.2.1)
  rw [hol] at H4 HCr
  obtain ⟨X, hX⟩ : ∃ X, crsOf l O = X := ⟨_, rfl⟩
  have HX := Lib.hid (And.intro hX (show X.size ≤ 1000 by rw [← hX]; exact crsOf_size (by omega) O))
  rw [hX] at HCr HRc
  clear hol hX
  gi_wp2_with (fail)
  refine ⟨trivial, wide_depth, ?_⟩
  refine (callsIn_wide.2 (Creases_any _ _ l.length c1 l.length c4 l ol w4 X 0 rfl (by omega) H4.out.1 holn.out (by omega) H4.out.2.1 HCr.out)).mono ?_
  rintro e w5 ⟨rfl, hb5⟩
  have H5 := Lib.hid (And.intro (H4.out.1.below hb5) (And.intro (H4.out.2.1.below hb5) (H4.out.2.2.trans (hb5.mono H4.out.2.2.size))))
  clear hb5 H4
  gi_wp2_with (fail)
  refine ⟨trivial, wide_depth, ?_⟩
  refine (callsIn_wide.2 (reversed_any _ l.length c4 ol w5 holn.out (by omega) H5.out.2.1)).mono ?_
  rintro e w6 ⟨v, rfl, hv, hb6⟩
  obtain ⟨g6, c6, rfl, hI6⟩ := hv.ints
  have H6 := Lib.hid (And.intro (H5.out.1.below hb6) (And.intro (H5.out.2.1.below hb6) (And.intro hI6 (H5.out.2.2.trans (hb6.mono H5.out.2.2.size)))))
  have hrl : Hid (ol.reverse.length = l.length) := Lib.hid (by rw [List.length_reverse]; exact holn.out)
  have HRv2 : Hid (creasesZ l ol.reverse = (exchS X, 0)) := Lib.hid (by rw [← HOL.out, ← List.map_reverse, HRv.out, HRc.out])
  clear hv hb6 hI6 H5
  rw [hrl.out]
  gi_wp2_with (fail)
  refine ⟨trivial, wide_depth, ?_⟩
  refine (callsIn_wide.2 (Creases_any _ _ l.length c1 l.length c6 l ol.reverse w6 (exchS X) 0 rfl (by omega) H6.out.1 hrl.out (by omega) H6.out.2.2.1 HRv2.out)).mono ?_
  rintro e w7 ⟨rfl, hb7⟩
  have H7 := Lib.hid (And.intro (H6.out.1.below hb7) (And.intro (H6.out.2.1.below hb7) (H6.out.2.2.2.trans (hb7.mono H6.out.2.2.2.size))))
  clear hb7 H6 HRv HRc HRv2 hrl
  gi_wp2_with (fail)
  refine ⟨trivial, wide_depth, ?_⟩
  refine (callsIn_wide.2 (exchanged_any X _ HX.out.2)).mono ?_
  rintro e w8 ⟨rfl, rfl⟩
  obtain ⟨Y, hY⟩ : ∃ Y, exchS X = Y := ⟨_, rfl⟩
  rw [hY]
  clear hY
  gi_wp2_with (fail)
  have ht1 : 1 ≤ tm % 100 + 1 := by omega
  have ht2 : tm % 100 + 1 ≤ 100 := by omega
  have HB7 := Lib.hid H7.out.2.2.size
  gi_loopw [16, 17] (fun v i wr => ∃ k : Nat, k ≤ l.length ∧ i = .int .i64 k ∧ CollI w7 ((l.take k).map (· * (tm % 100 + 1))) k v wr) (fun _ i _ => l.length - (intOf i).toNat)
  case atStart => exact ⟨0, Nat.zero_le _, rfl, CollI.start w7⟩
  case round =>
    obtain ⟨k, hk, rfl, hC⟩ := hrel
    by_cases hlt : k < l.length
    · obtain ⟨b, off, e, hcell⟩ := (H7.out.1.below hC.1) k hlt
      cases e
      rw [Nat.zero_add] at hcell
      have hz := HG.out.2 (l[k]?.getD 0) (by simp [hlt])
      have HD : Hid ((l.take (k + 1)).map (· * (tm % 100 + 1)) = (l.take k).map (· * (tm % 100 + 1)) ++ [l[k]?.getD 0 * (tm % 100 + 1)]) := Lib.hid (by rw [List.take_succ_eq_append_getElem hlt, List.map_append, List.getElem?_eq_getElem hlt]; rfl)
      generalize l[k]?.getD 0 = z at *
      have hp1 : 0 ≤ z * (tm % 100 + 1) := Int.mul_nonneg (by omega) (by omega)
      have hp2 : z * (tm % 100 + 1) ≤ 600 := by
        have : z * (tm % 100 + 1) ≤ 6 * 100 := Int.mul_le_mul hz.2 ht2 (by omega) (by omega)
        omega
      have hsz := hC.1.size
      have HC := Lib.hid hC
      clear hC
      obtain ⟨_, _, g0, cp0, rfl, _⟩ := HC.out
      gi_wp2_with (gi_at_builtin; refine wpListIn_app_int rfl (.tmp 84) (.tmp 94) rfl w7.heap.size _ _ _ rfl (z * (tm % 100 + 1)) _ rfl rfl HC.out.owns (by omega) hsz ?_; intro g cp w9 hr2 hg2 hat2 _; have H9 := Lib.hid (HC.out.next hr2 hg2); clear hr2 hg2 hat2)
      go_roundw
      case rel => exact ⟨k + 1, by omega, by go_num, by rw [HD.out]; exact H9.out⟩
      case measure => simp [intOf]; omega
    · obtain rfl : k = l.length := by omega
      rw [List.take_length] at hC
      have HC := Lib.hid hC
      clear hC
      obtain ⟨_, _, g0, cp0, rfl, _⟩ := HC.out
      have hlong := Lib.hid (scaled_good HG.out.1 HG.out.2 ht1 ht2)
      have hIL : Ints wr (some ⟨g0, 0, none⟩) (l.map (· * (tm % 100 + 1))) := Ints.of_owns HC.out.owns
      have hcl : countOf (l.map (· * (tm % 100 + 1))) = cnt := by rw [count_scale l (by omega), HCN.out]
      have hcr : creasesZ (l.map (· * (tm % 100 + 1))) ol = (X, 0) := by
        rw [← HOL.out, creasesZ_of hlong.out, letters_scale, HX.out.1]
        rw [List.length_map, orders_scale l (by omega)]
        exact mem_orders.2 HO.out
      have HH := Lib.hid (And.intro hIL (And.intro hcl hcr))
      clear hIL hcl hcr
      gi_wp2_with (fail)
      refine ⟨trivial, wide_depth, ?_⟩
      refine (Count_good _ l.length cp0 _ (l.map (· * (tm % 100 + 1))) wr (by simp) HH.out.1 hlong.out).mono ?_
      rw [HH.out.2.1]
      rintro e w10 ⟨rfl, hb10⟩
      have hb7r := HC.out.1
      have H10 := Lib.hid (And.intro (HH.out.1.below hb10) (And.intro ((H7.out.2.1.below hb7r).below hb10) ((H7.out.2.2.trans (hb7r.mono HB7.out)).trans (hb10.mono (Nat.le_trans HB7.out hb7r.size)))))
      clear hb10 hb7r
      gi_wp2_with (fail)
      refine ⟨trivial, wide_depth, ?_⟩
      refine (callsIn_wide.2 (Creases_any _ _ l.length cp0 l.length c4 (l.map (· * (tm % 100 + 1))) ol w10 X 0 (by simp) (by omega) H10.out.1 holn.out (by omega) H10.out.2.1 HH.out.2.2)).mono ?_
      rintro e w11 ⟨rfl, hb11⟩
      have H11 := Lib.hid (H10.out.2.2.trans (hb11.mono H10.out.2.2.size))
      clear hb11
      gi_wp2_with (fail)
      go_ret
      exact ⟨rfl, H11.out⟩

end Go.Proofs.Yteankhgikpejhaa
