/-
  Proved: FoldLayers returns true for every list and every string: Layers returns the least order with a pattern, and Reduce what its steps leave, as the reference says by trying all orders, or the errors of the document. No condition.
-/
import Derived.Test.YtfgenpailmgkiaaLg
import Derived.Test.YtfgenpailmgkiaaKb
import Derived.Test.YtfgenpailmgkiaaMi
import Derived.Test.YtfgenpailmgkiaaHd
import Derived.Test.YtfgenpailmgkiaaJe
import Derived.ChangeMaps5
namespace Go.Proofs.Ytfgenpailmgkiaa
open Go.RowKit Go.Sort Go.Shelf

theorem redAll_fuel {m : Int} : ∀ (k j : Nat) (zs : List Int) (cs : List UInt8), Good m zs cs → zs.length ≤ k + 1 → zs.length ≤ j + 1 → redAll k zs cs = redAll j zs cs
  | 0, j, zs, cs, h, h1, _ => by
    have e : redZ zs cs = none := by rw [redZ, if_pos (by omega)]
    rw [redAll_none e, redAll_none e]
  | k + 1, 0, zs, cs, h, _, h2 => by
    have e : redZ zs cs = none := by rw [redZ, if_pos (by omega)]
    rw [redAll_none e, redAll_none e]
  | k + 1, j + 1, zs, cs, h, h1, h2 => by
    rw [redAll, redAll]
    cases e : redZ zs cs with
    | none => rfl
    | some p =>
      obtain ⟨g1, g2⟩ := redZ_good h e
      exact redAll_fuel k j p.1 p.2 g1 (by omega) (by omega)

theorem lw_3 (w : World) (pat : ByteArray) : (lw w pat).heap[w.heap.size]? = some (.cells #[.string pat] 9 (0, 0)) := by
  rw [lw, Below.heap_alloc _ _ _ (by simp; omega), Below.heap_alloc _ _ _ (by simp)]
  exact heap_alloc_new w _
theorem lw_4 (w : World) (pat : ByteArray) : (lw w pat).heap[w.heap.size + 1]? = some (.cells #[.slice none 0 0] 22 (0, 0)) := by
  rw [lw, Below.heap_alloc _ _ _ (by simp)]
  have := heap_alloc_new (w.alloc (.cells #[.string pat] 9)) (.cells #[.slice none 0 0] 22)
  rwa [World.size_alloc] at this
theorem lw_5 (w : World) (pat : ByteArray) : (lw w pat).heap[w.heap.size + 1 + 1]? = some (.cells #[.int .i64 0] 24 (0, 0)) := by
  have := heap_alloc_new ((w.alloc (.cells #[.string pat] 9)).alloc (.cells #[.slice none 0 0] 22)) (.cells #[.int .i64 0] 24)
  rw [World.size_alloc, World.size_alloc] at this
  exact this

theorem layers_fin {w w1 : World} {x : Int} (a4 : w1.heap[w.heap.size + 1]? = some (.cells #[.slice none 0 0] 22 (0, 0))) (a5 : w1.heap[w.heap.size + 1 + 1]? = some (.cells #[.int .i64 0] 24 (0, 0))) (ab : Below w.heap.size w w1) :
    ∃ X, (w1.setCell ⟨w.heap.size + 1, 0, none⟩ (.slice none 0 0)).setCell ⟨w.heap.size + 1 + 1, 0, none⟩ (.int .i64 x) = X ∧ X.cell? ⟨w.heap.size + 1, 0, none⟩ = some (.slice none 0 0) ∧ X.cell? ⟨w.heap.size + 1 + 1, 0, none⟩ = some (.int .i64 x) ∧ Below w.heap.size w X := by
  refine ⟨_, rfl, ?_, ?_, ?_⟩
  · refine cell_of_one (t := 22) ?_
    rw [Below.heap_setCell _ _ _ _ (by simp)]
    exact one_setCell a4
  · exact cell_of_one (one_setCell ((Below.heap_setCell _ _ _ _ (by simp)).trans a5))
  · exact (ab.setCell (by simp) _).setCell (by simp; omega) _

set_option maxRecDepth 100000 in
set_option maxHeartbeats 2000000 in
theorem Layers_bad (a : Option Addr) (n cap : Nat) (zs : List Int) (s : ByteArray) (x : Int) (w : World) (hn : zs.length = n) (hn2 : n ≤ 1000) (hs : s.size ≤ 1000000) (hz : Ints w a zs) (h : (stripB zs = false ∧ x = 1) ∨ (stripB zs = true ∧ patB s (n - 1) = false ∧ x = 2)) :
    Calls Try.prog 26 #[.slice a n cap, .string s] w (Gives2 (.slice none 0 0) (.int .i64 x) w) := by
  have his := isStrip_any a n cap zs (lw w s) hn (by omega) (hz.below (lw_below w s))
  rcases h with ⟨h1, rfl⟩ | ⟨h1, h2, rfl⟩
  · rw [h1] at his
    have His := Lib.hid his
    clear his h1 hz hn
    go_enter Try.func26, Try.ntmps26
    go_wp2_with (go_at_call 47; refine His.out.mono ?_; rintro e w1 ⟨rfl, hw1⟩; have a4 := lw_4 w s; have a5 := lw_5 w s; have ab := lw_below w s; rw [hw1] at a4 a5 ab; clear hw1; have q4 := cell_of_one a4; have q4f := free_of_one a4; have q5 := cell_of_one a5; have q5f := free_of_one a5; have HA := Lib.hid (And.intro a4 (And.intro a5 ab)); clear a4 a5 ab)
    obtain ⟨X, hX, z4, z5, xb⟩ := layers_fin (x := 1) HA.out.1 HA.out.2.1 HA.out.2.2
    rw [hX]
    exact bodyPost_ret (v := .tuple #[.slice none 0 0, .int .i64 1]) (by simp [results, Try.results26, go_sem, z4, z5]) rfl ⟨rfl, xb⟩
  · rw [h1] at his
    have His := Lib.hid his
    obtain ⟨p1, p9, ps⟩ := strip_parts h1
    have hsum : ((n : Int) - 1) = ((n - 1 : Nat) : Int) := by omega
    have hpat := isPattern_any s (n - 1) (lw w s) (by omega) (by omega)
    rw [h2] at hpat
    have Hpat := Lib.hid hpat
    have Hsum := Lib.hid hsum
    have hn1 : 1 ≤ n := by omega
    have hn9 : n ≤ 9 := by omega
    clear his h1 h2 hz hn hpat hsum ps
    go_enter Try.func26, Try.ntmps26
    go_wp2_with (first
      | (go_at_call 47; refine His.out.mono ?_; rintro e w1 ⟨rfl, hw1⟩; have a3 := lw_3 w s; have a4 := lw_4 w s; have a5 := lw_5 w s; have ab := lw_below w s; rw [hw1] at a3 a4 a5 ab Hpat; clear hw1; have q3 := cell_of_one a3; have q4 := cell_of_one a4; have q4f := free_of_one a4; have q5 := cell_of_one a5; have q5f := free_of_one a5; have HA := Lib.hid (And.intro a4 (And.intro a5 ab)); clear a3 a4 a5 ab)
      | (go_at_call 62; rw [Hsum.out]; refine Hpat.out.mono ?_; rintro e w2 ⟨rfl, rfl⟩))
    obtain ⟨X, hX, z4, z5, xb⟩ := layers_fin (x := 2) HA.out.1 HA.out.2.1 HA.out.2.2
    rw [hX]
    exact bodyPost_ret (v := .tuple #[.slice none 0 0, .int .i64 2]) (by simp [results, Try.results26, go_sem, z4, z5]) rfl ⟨rfl, xb⟩

theorem patR_pat (s : ByteArray) (n : Nat) (h : 1 ≤ n) : patR s ((n : Int) - 1) = patB s (n - 1) := by
  rw [patR, patB, Bool.and_comm]
  congr 1
  rw [Bool.eq_iff_iff, decide_eq_true_eq, beq_iff_eq]
  omega

set_option maxRecDepth 200000 in
set_option maxHeartbeats 8000000 in
theorem FoldLayers_any (href : RefRedAt 8) (n1 cap1 : Nat) (a1 : Option Addr) (xs : List Int) (pat : ByteArray) (w : World) (hn1 : xs.length = n1) (hm1 : n1 ≤ 9223372036854775807) (hcap1 : n1 ≤ cap1) (hnone1 : a1 = none → cap1 = 0) (hx : Ints w a1 xs) (hps : pat.size ≤ 9223372036854775807) :
    Calls Try.prog 4 #[.slice a1 n1 cap1, .string pat] w fun e w' => e = .returned (.bool true) ∧ Below w.heap.size w w' := by
  have hct1 := Lib.hid (cut_any2 a1 n1 cap1 6 9 xs w hn1 hm1 hcap1 hnone1 (by omega) (by omega) (by omega) hx)
  obtain ⟨l, hl⟩ : ∃ l, cutZ xs 6 9 = l := ⟨_, rfl⟩
  have hl10 : l.length ≤ 10 := by rw [← hl]; exact cutZ_le xs
  rw [hl] at hct1
  clear hl hx hn1 hm1 hcap1 hnone1
  have HV := Lib.hid lives_any
  obtain ⟨r, hr, hr12, hrm⟩ : ∃ r : Nat, r ≤ pat.size ∧ r ≤ 12 ∧ min (pat.size : Int) 12 = (r : Int) := ⟨min pat.size 12, by omega, by omega, by omega⟩
  obtain ⟨q, hq⟩ : ∃ q, pat.extract 0 r = q := ⟨_, rfl⟩
  have hqs : q.size ≤ 1000000 := by rw [← hq, ByteArray.size_extract]; omega
  have HQ := Lib.hid hq
  clear hq
  go_enter Try.func4, Try.ntmps4
  go_wp2_with fail
  refine hct1.out.mono ?_
  rintro e w1 ⟨v, rfl, ⟨al, cl, rfl, hle, hI1⟩, hb1⟩
  have H1 := Lib.hid (And.intro hI1 hb1)
  clear hI1 hb1
  go_wp2_with fail
  rw [HQ.out]
  clear hr hr12 hrm HQ
  rcases Bool.eq_false_or_eq_true (stripB l) with hs | hs
  · obtain ⟨p1, p9, _⟩ := strip_parts hs
    have HG := Lib.hid hs
    clear hs
    rcases Bool.eq_false_or_eq_true (patB q (l.length - 1)) with hp | hp
    · have HP := Lib.hid hp
      have hpr : patR q ((l.length : Int) - 1) = true := by rw [patR_pat q l.length p1, hp]
      have HPR := Lib.hid hpr
      clear hp hpr
      obtain ⟨b, off, rfl⟩ : ∃ b off, al = some ⟨b, off, none⟩ := by
        rcases H1.out.1.at with h | ⟨b, off, h, _⟩
        · subst h; simp at p1
        · exact ⟨b, off, h⟩
      obtain ⟨R, hR⟩ : ∃ R, redAll l.length l q.data.toList = R := ⟨_, rfl⟩
      have hR8 : redAll 8 l q.data.toList = R := by rw [← hR]; exact redAll_fuel 8 l.length l q.data.toList (good_of HG.out HP.out) (by omega) (by omega)
      have HRR := Lib.hid (And.intro hR hR8)
      have hRl := redAll_len l.length l q.data.toList (good_of HG.out HP.out)
      rw [hR] at hRl
      obtain ⟨rl, hrl⟩ : ∃ rl, R.1.length = rl := ⟨_, rfl⟩
      have HRL := Lib.hid hrl
      rw [hrl] at hRl
      clear hR hR8 hrl
      obtain ⟨fo, hfo⟩ : ∃ fo, (ordersOf (layCl l) l.length).find? (fun o => (crsOf l o).toList == q.toList) = fo := ⟨_, rfl⟩
      have HFO := Lib.hid hfo
      clear hfo
      refine ((callsIn_wide (n := 0)).1 (Layers_good _ l.length cl 0 l q w1 rfl H1.out.1 HG.out HP.out)).mono ?_
      rintro e w2 ⟨v, err, rfl, hb2, hf⟩
      rw [HFO.out] at hf
      have HF := Lib.hid hf
      have H2 := Lib.hid (And.intro (H1.out.1.below hb2) (H1.out.2.trans (hb2.mono H1.out.2.size)))
      clear hb2 hf
      go_wp2_with fail
      refine (Reduce_good b off l.length cl l q w2 rfl H2.out.1 HG.out HP.out).mono ?_
      rintro e w3 ⟨g3, o3, c3, s3, rfl, hs3, hI3, hb3⟩
      rw [HRR.out.1] at hs3 hI3
      rw [HRR.out.1, HRL.out]
      have H3 := Lib.hid (And.intro (H2.out.1.below hb3) (And.intro hI3 (And.intro hb3 (H2.out.2.trans (hb3.mono H2.out.2.size)))))
      have HS3 := Lib.hid hs3
      clear hs3 hI3 hb3
      go_wp2_with fail
      refine (Strip_any _ l.length cl l w3 rfl (by omega) H3.out.1).mono ?_
      rw [HG.out]
      rintro e w6 ⟨rfl, rfl⟩
      go_wp2_with fail
      refine (Pattern_any q ((l.length : Int) - 1) w3 hqs).mono ?_
      rw [HPR.out]
      rintro e w6 ⟨rfl, rfl⟩
      go_wp2_with fail
      refine (href l q b off l.length cl w3 rfl (by omega) (by omega) hle H3.out.1 (good_of HG.out HP.out)).mono ?_
      rintro e w4 ⟨a4, c4, s4, rfl, hs4, hI4, hb4⟩
      rw [HRR.out.2] at hs4 hI4
      rw [HRR.out.2, HRL.out]
      obtain rfl : s4 = s3 := bytes_same (by rw [hs4, HS3.out])
      have H4 := Lib.hid (And.intro (H3.out.1.below hb4) (And.intro (H3.out.2.1.below hb4) (And.intro hI4 (H3.out.2.2.2.trans (hb4.mono H3.out.2.2.2.size)))))
      have HB4 := Lib.hid (H3.out.2.2.1.trans (hb4.mono H3.out.2.2.1.size))
      clear hs4 hI4 hb4
      go_wp2_with fail
      refine (same_any _ _ rl rl c3 c4 R.1 R.1 w4 HRL.out HRL.out (by omega) (by omega) H4.out.2.1 H4.out.2.2.1).mono ?_
      rw [decide_eq_true rfl]
      rintro e w5 ⟨rfl, hb5⟩
      have H5 := Lib.hid (And.intro (H4.out.1.below hb5) (H4.out.2.2.2.trans (hb5.mono H4.out.2.2.2.size)))
      have HB5 := Lib.hid (HB4.out.trans (hb5.mono HB4.out.size))
      clear hb5
      go_wp2_with fail
      refine ((callsIn_wide (n := 0)).1 (HV.out _ _)).mono ?_
      rintro e w6 ⟨rfl, hb6⟩
      have H6 := Lib.hid (And.intro (H5.out.1.below hb6) (H5.out.2.trans (hb6.mono H5.out.2.size)))
      have HB6 := Lib.hid (HB5.out.trans (hb6.mono HB5.out.size))
      clear hb6
      go_wp2_with fail
      refine (refLayers_any b off l.length cl l q w6 rfl HG.out H6.out.1).mono ?_
      rintro e w7 ⟨hb7, hf7⟩
      rw [HFO.out] at hf7
      have hb27 := HB6.out.trans (hb7.mono HB6.out.size)
      have H7 := Lib.hid (H6.out.2.trans (hb7.mono H6.out.2.size))
      clear hb7
      cases fo with
      | none =>
        obtain rfl := hf7
        obtain ⟨rfl, rfl⟩ := HF.out
        clear hb27
        go_wp2
        go_ret
        exact ⟨rfl, H7.out⟩
      | some O =>
        obtain ⟨g7, c7, rfl, hI7⟩ := hf7
        obtain ⟨rfl, g2, c2, rfl, _, hrow⟩ := HF.out
        have hI2 : Ints w7 (some ⟨g2, 0, none⟩) (O.map fun (x : Nat) => (x : Int)) := (Ints.of_nats hrow).below hb27
        have hol : (O.map fun (x : Nat) => (x : Int)).length = l.length := by
          rw [List.length_map]
          exact (mem_orders.1 (List.mem_of_find?_eq_some HFO.out)).2.2.1
        have H8 := Lib.hid (And.intro hI2 hI7)
        clear hb27 hI2 hI7 hrow
        go_wp2_with fail
        refine (same_any _ _ l.length l.length c2 c7 _ _ w7 hol hol (by omega) (by omega) H8.out.1 H8.out.2).mono ?_
        rw [decide_eq_true rfl]
        rintro e w8 ⟨rfl, hb8⟩
        have H9 := Lib.hid (H7.out.trans (hb8.mono H7.out.size))
        clear hb8
        go_wp2
        go_ret
        exact ⟨rfl, H9.out⟩
    · have hpr : patR q ((l.length : Int) - 1) = false := by rw [patR_pat q l.length p1, hp]
      have HPR := Lib.hid hpr
      refine (Layers_bad al l.length cl l q 2 w1 rfl (by omega) hqs H1.out.1 (.inr ⟨HG.out, hp, rfl⟩)).mono ?_
      rintro e w2 ⟨rfl, hb2⟩
      have H2 := Lib.hid (And.intro (H1.out.1.below hb2) (H1.out.2.trans (hb2.mono H1.out.2.size)))
      have HP := Lib.hid hp
      clear hb2 hp hpr
      go_wp2_with fail
      refine (Reduce_bad al l.length cl l q 2 w2 rfl (by omega) hqs H2.out.1 (.inr ⟨HG.out, HP.out, rfl⟩)).mono ?_
      rintro e w3 ⟨rfl, rfl⟩
      go_wp2_with fail
      refine (Strip_any al l.length cl l w2 rfl (by omega) H2.out.1).mono ?_
      rw [HG.out]
      rintro e w6 ⟨rfl, rfl⟩
      go_wp2_with fail
      refine (Pattern_any q ((l.length : Int) - 1) w2 hqs).mono ?_
      rw [HPR.out]
      rintro e w6 ⟨rfl, rfl⟩
      go_wp2_with fail
      refine ((callsIn_wide (n := 0)).1 (HV.out _ _)).mono ?_
      rintro e w7 ⟨rfl, hb7⟩
      have H7 := Lib.hid (H2.out.2.trans (hb7.mono H2.out.2.size))
      clear hb7
      go_wp2
      go_ret
      exact ⟨rfl, H7.out⟩
  · have HG := Lib.hid hs
    refine (Layers_bad al l.length cl l q 1 w1 rfl (by omega) hqs H1.out.1 (.inl ⟨hs, rfl⟩)).mono ?_
    rintro e w2 ⟨rfl, hb2⟩
    have H2 := Lib.hid (And.intro (H1.out.1.below hb2) (H1.out.2.trans (hb2.mono H1.out.2.size)))
    clear hb2 hs
    go_wp2_with fail
    refine (Reduce_bad al l.length cl l q 1 w2 rfl (by omega) hqs H2.out.1 (.inl ⟨HG.out, rfl⟩)).mono ?_
    rintro e w3 ⟨rfl, rfl⟩
    go_wp2_with fail
    refine (Strip_any al l.length cl l w2 rfl (by omega) H2.out.1).mono ?_
    rw [HG.out]
    rintro e w6 ⟨rfl, rfl⟩
    go_wp2_with fail
    refine ((callsIn_wide (n := 0)).1 (HV.out _ _)).mono ?_
    rintro e w7 ⟨rfl, hb7⟩
    have H7 := Lib.hid (H2.out.2.trans (hb7.mono H2.out.2.size))
    clear hb7
    go_wp2
    go_ret
    exact ⟨rfl, H7.out⟩

end Go.Proofs.Ytfgenpailmgkiaa

namespace Go.Proofs.Ytfgenpailmgkiaa
open Go.ChangeShapes Go.WideShapes Go.ChangeAt Go.RowKit Go.ChangeMaps

theorem refReduce_any : ∀ k, RefRedAt k
  | 0 => fun zs s b off n cap w hn hk h9 hcap hz hg => by
    have := hg.one
    obtain rfl : n = 1 := by omega
    exact refReduce_one 0 zs s b off cap w hn hz
  | k + 1 => fun zs s b off n cap w hn hk h9 hcap hz hg => by
    have h1 := hg.one
    by_cases hn1 : n = 1
    · subst hn1
      exact refReduce_one (k + 1) zs s b off cap w hn hz
    · obtain ⟨m, rfl⟩ : ∃ m, n = m + 2 := ⟨n - 2, by omega⟩
      by_cases c1 : zs[0]?.getD 0 ≤ zs[1]?.getD 0
      · exact refReduce_first k m zs s b off cap w (refReduce_any k) hn (by omega) h9 hcap hz hg c1
      · by_cases c2 : zs[m + 1]?.getD 0 ≤ zs[m]?.getD 0
        · exact refReduce_last k m zs s b off cap w (refReduce_any k) hn (by omega) h9 hcap hz hg c1 c2
        · exact refReduce_loop k m zs s b off cap w (refReduce_any k) hn (by omega) h9 hcap hz hg c1 c2

namespace foldLayers
set_option maxRecDepth 100000 in
theorem lifted (os : Os) (started : os.Started) (H : Type) (enc : TypeId × Value → H) :
    ReturnsInHanded {} Try.checked os 4 .any (Rows.foldLayersSpec.pre6 enc Try.prog Try.f4 Rows.foldLayersRow.domain false) (Rows.foldLayersSpec.post enc Try.prog Try.f4 false true false false) := by
  refine returnsInHanded_of_change (C := Try.checked) own_knob started (by kernel_rfl) Try.func4
    (ChangeSpec.witness6 (enc := enc) (C := Try.checked) false ⟨#[], #[.slice none 0 0, .string ⟨#[]⟩], []⟩ 8 (by kernel_rfl) (by kernel_rfl) (by kernel_rfl) (by kernel_rfl)) ?_
  intro W base args ds gs before hval0 hW hcnd _
  have hval : ∀ (j : Nat) t v, Try.f4.params[j]? = some t → args[j]? = some v → Value.okWide Try.prog W .any base t v := hval0
  have hW' := hW
  obtain ⟨p, q, hA0, hV, rfl, hfz, hnd⟩ := hW
  have hA : DataW.TrodAll enc Try.prog W 0 (fun _ => true) true Try.f4.params.toList args.toList ds p := hA0
  rw [Try.params4] at hA hval
  obtain ⟨v0, vs0, d0, ds0, p0, q0, hargs, rfl, rfl, h0, r0⟩ := trodAll_cons hA
  obtain ⟨v1, vs1, d1, ds1, p1, q1, rfl, rfl, rfl, h1, r1⟩ := trodAll_cons r0
  obtain ⟨rfl, rfl, rfl⟩ := trodAll_nil r1
  obtain rfl : args = #[v0, v1] := by cases args; simp_all
  obtain ⟨rfl, rfl⟩ := trodVars_none hV
  obtain ⟨a, n, cap, zs, rfl, hn, hm, hz, hi, hkeep⟩ := arg_ints (hval 0 22 v0 rfl rfl) h0
  obtain ⟨s, rfl, rfl, rfl, hsm⟩ := open_string Try.underlying9 (hval 1 9 v1 rfl rfl) h1
  obtain ⟨k0, k1⟩ := arg_cap (hval 0 22 _ rfl rfl) h0
  clear hA0 hval0
  refine (FoldLayers_any (refReduce_any 8) n cap a zs s W hn hm k0 k1 hz (by unfold maxLen at hsm; omega)).mono fun e W' ⟨he, hg⟩ => ?_
  subst he
  exact ⟨_, rfl, law_post (pv := []) hW' (fun _ _ _ => trodAll_cons_mk (shut_bool Try.underlying4 _) trodAll_mk0) (trodAll_cons_mk (hkeep W' hg) (trodAll_cons_mk (shut_string Try.underlying9 hsm) trodAll_mk0)) rfl rfl hg⟩

theorem proved : Rows.FoldLayersSaid :=
  OpenClaim.holds_of_wide 4 Try.f4 rfl rfl rfl rfl rfl rfl rfl ⟨rfl, rfl, rfl, rfl, rfl⟩ rfl rfl rfl rfl rfl (by kernel_rfl) Try.func4 (by kernel_rfl)
    (of_decide_eq_true (by kernel_rfl)) (by unfold Func.isWrapper; first | (rw [if_pos (by decide +kernel)]; kernel_rfl) | (rw [if_neg (by decide +kernel)]; exact ⟨rfl, rfl⟩))
    (fun os started H enc _ => lifted os started H enc)
#print axioms proved
end foldLayers
end Go.Proofs.Ytfgenpailmgkiaa

