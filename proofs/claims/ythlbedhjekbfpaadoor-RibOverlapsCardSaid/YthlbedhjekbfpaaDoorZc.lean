/-
  The walk of 'RibOverlaps'.
-/
import Derived.Test.YthlbedhjekbfpaaDoorZb
import Derived.Test.YthlbedhjekbfpaaDoorWg
import Derived.Test.YthlbedhjekbfpaaDoorTe
namespace Go.Proofs.YthlbedhjekbfpaaDoor
open Go.RowKit Go.Sort

/-- The graph and the spans, held through the calls. -/
def StO (w : World) (B n : Nat) (aE : Option Addr) (m cE : Nat) (es : List (Int × Int)) (g : Nat) (sp : List (Int × Int)) (wc : World) : Prop := StC w B n aE m cE es wc ∧ Edges wc (some ⟨g, 0, none⟩) sp ∧ TabW wc
theorem StO.next {w : World} {B n : Nat} {aE : Option Addr} {m cE : Nat} {es : List (Int × Int)} {g : Nat} {sp : List (Int × Int)} {wc w' : World} (h : StO w B n aE m cE es g sp wc) (hb : Below wc.heap.size wc w') : StO w B n aE m cE es g sp w' := ⟨h.1.next hb, h.2.1.below hb, h.2.2.next hb⟩
/-- Of an interval graph. -/
theorem overlap_facts {n : Nat} {gs : List Nat} {es sp : List (Int × Int)} (h : Adj n gs es) (h1 : 1 ≤ n) (h2 : n ≤ 12) (hl : sp.length = n) (hs : sp.all spanB = true) (hm : matchR es sp n = true) :
    (¬ (ordI n gs).length < n ∧ ∃ r, searchN (srtN (cliquesN gs)) (srtN (cliquesN gs)).length 0 = some r ∧ (spansTo r n n).all spanB = true ∧ matchR es (spansTo r n n) n = true) ∧
    chdB gs (2 ^ n - 1) = true ∧ errT es n = 5 ∧ (ordI n gs).length = n ∧ permR (ordI n gs) n = true ∧ elimR es (ordI n gs) = true := by
  have hr := match_rep hl hs hm
  have hc := (chdB_iff h h2 (full_lt n)).2 (interval_chd hr)
  have ho := hc
  rw [← chord_chdB h h2, chord_same h h2, decide_eq_true_iff] at ho
  obtain ⟨p1, p2⟩ := order_good h h2 ho
  have hln : (ordI n gs).length = n := by rw [ordI, List.length_map]; exact ho
  have hf := clique_few h h2 h1 ho
  have hk : (srtN (cliquesN gs)).length ≤ 16 := by rw [srt_len]; omega
  have hne := interval_row h h2 h1 hr hk
  obtain ⟨r, hr'⟩ : ∃ r, searchN (srtN (cliquesN gs)) (srtN (cliquesN gs)).length 0 = some r := by
    cases hso : searchN (srtN (cliquesN gs)) (srtN (cliquesN gs)).length 0 with
    | none => exact absurd hso hne
    | some r => exact ⟨r, rfl⟩
  obtain ⟨s1, s2⟩ := row_spans h h2 hk hr'
  exact ⟨⟨by omega, r, hr', s1, s2⟩, hc, hr.noTrip, hln, p1, p2⟩

set_option maxRecDepth 100000 in
set_option maxHeartbeats 8000000 in
theorem RibOverlaps_any (a : Option Addr) (m0 cap : Nat) (xs : List (Int × Int)) (w : World) (hl : xs.length = m0) (hm : m0 ≤ 9223372036854775807) (he : Edges w a xs) (hT : TabW w) :
    Calls Tryd.prog 5 #[.slice a m0 cap] w fun e w' => e = .returned (.bool true) ∧ Below w.heap.size w w' := by
  have HF := Lib.hid (overlaps_any a m0 cap xs w hl hm he)
  have HT := Lib.hid hT
  have HLV := Lib.hid (fun wx => lives_any wx)
  clear hl hm he hT
  go_enter Tryd.func5, Tryd.ntmps5
  go_wp2_with (go_at_call 22; refine HF.out.mono ?_; rintro e w1 ⟨n, cE, g, cS, aE, es, sp, hn, hsl, hsb, hov, rfl, he1, hs1, hb1⟩; have H1 := Lib.hid (And.intro he1 (And.intro hs1 hb1)); clear he1 hs1 hb1)
  obtain ⟨m, hm'⟩ : ∃ m, es.length = m := ⟨_, rfl⟩
  have hel : m ≤ 1000 := by have := hov.few; omega
  try simp only [hm']
  have HLm := Lib.hid hm'
  have HLS := Lib.hid hsl
  have h1w := H1.out.2.2.size
  have hb4 := (Below.refl _ w1).alloc (Nat.le_refl _) (.cells #[.int .i64 n, .slice aE m cE] 24)
  have HS4 : Hid (StO w w1.heap.size n aE m cE es g sp (w1.alloc (.cells #[.int .i64 n, .slice aE m cE] 24))) := Lib.hid ⟨⟨H1.out.2.2.alloc h1w _, H1.out.1.below hb4, by simp, by simp⟩, H1.out.2.1.below hb4, (HT.out.next H1.out.2.2).next hb4⟩
  have hmt := hov.match
  obtain ⟨n', gs, hnn, h1, h2, hadj, hgood⟩ := graphOf_good hov.ok
  obtain rfl : n = n' := by omega
  obtain ⟨⟨q1, r, q2, q3, q4⟩, q5, q6, q7, q8, q9⟩ := overlap_facts hadj h1 h2 hsl hsb hmt
  have hgc : ∀ (wx : World), StO w w1.heap.size n aE m cE es g sp wx → Calls Tryd.prog 33 #[.int .i64 n, .slice aE m cE] wx (GoodG n gs wx) := fun wx hx => hgood _ _ _ _ HLm.out (by omega) hx.1.2.1
  have HSP := Lib.hid (fun (wx : World) (hx : StO w w1.heap.size n aE m cE es g sp wx) => Spans_any n aE m cE es n gs wx rfl h1 h2 hadj (hgc wx hx) (cliques_some hadj h2))
  have HMT := Lib.hid (fun (wx : World) (hx : StO w w1.heap.size n aE m cE es g sp wx) => Matches_any n aE (some ⟨g, 0, none⟩) m cE n cS n gs sp wx rfl h2 hadj.len (fun i _ => hadj.lt16 h2 i) HLS.out (by omega) hx.2.1 (hgc wx hx))
  have HRG := Lib.hid (fun (wx : World) (hx : StO w w1.heap.size n aE m cE es g sp wx) => Ring_any n aE m cE es n gs wx rfl h2 hadj hx.2.2 (hgc wx hx))
  have HTP := Lib.hid (fun (wx : World) (hx : StO w w1.heap.size n aE m cE es g sp wx) => (Triple_any n aE m cE es n gs wx rfl h2 hadj (hgc wx hx)).mono fun e w' hv => TripleV.err hadj h2 hv)
  have HOR := Lib.hid (fun (wx : World) (hx : StO w w1.heap.size n aE m cE es g sp wx) => Order_any n aE m cE es n gs wx rfl h2 hadj (hgc wx hx))
  unfold SpansV at HSP
  simp only [if_neg q1, q2] at HSP
  simp only [match_same hadj hsl hsb, hmt, hsb, decide_true, Bool.and_self, if_true] at HMT
  unfold RingV at HRG
  simp only [if_pos q5] at HRG
  simp only [q6] at HTP
  unfold OrderV at HOR
  have hnn2 : ¬ n < n := Nat.lt_irrefl n
  simp only [q7, if_neg hnn2] at HOR
  clear hnn2
  have hSL := spansTo_len r n n
  obtain ⟨L, hL⟩ : ∃ L, spansTo r n n = L := ⟨_, rfl⟩
  rw [hL] at q3 q4 hSL
  simp only [hL] at HSP
  obtain ⟨O, hO⟩ : ∃ O, ordI n gs = O := ⟨_, rfl⟩
  rw [hO] at q7 q8 q9
  simp only [hO] at HOR
  have HQ3 := Lib.hid q3
  have HQ4 := Lib.hid q4
  have HQ8 := Lib.hid q8
  have HQ9 := Lib.hid q9
  have HOL := Lib.hid q7
  have HLL := Lib.hid hSL
  clear H1 HF hb4 hmt hov hgood hadj q1 q2 q3 q4 q5 q6 q7 q8 q9 hgc hSL hL hO hsl hsb hnn hm'
  have d0 := HS4.out.1.2.2.1
  have d1 := HS4.out.1.2.2.2
  go_wp2_with (fail)
  refine (HSP.out _ HS4.out).mono ?_
  rintro e w5 ⟨hb5, G, rfl, _, hrow⟩
  have HS5 := Lib.hid (HS4.out.next hb5)
  have HE5 := Lib.hid hrow.edges
  replace d0 := HS5.out.1.2.2.1
  replace d1 := HS5.out.1.2.2.2
  clear hb5 hrow HS4 HSP
  go_wp2_with (fail)
  refine (HMT.out _ HS5.out).mono ?_
  rintro e w6 ⟨rfl, hb6⟩
  have HS6 := Lib.hid (HS5.out.next hb6)
  have HE6 := Lib.hid (HE5.out.below hb6)
  replace d0 := HS6.out.1.2.2.1
  replace d1 := HS6.out.1.2.2.2
  clear hb6 HS5 HE5 HMT
  go_wp2_with (fail)
  refine (HRG.out _ HS6.out).mono ?_
  rintro e w7 ⟨hb7, rfl⟩
  have HS7 := Lib.hid (HS6.out.next hb7)
  have HE7 := Lib.hid (HE6.out.below hb7)
  replace d0 := HS7.out.1.2.2.1
  replace d1 := HS7.out.1.2.2.2
  clear hb7 HS6 HE6 HRG
  go_wp2_with (fail)
  refine (HTP.out _ HS7.out).mono ?_
  rintro e w8 ⟨v8, rfl, hb8⟩
  have HS8 := Lib.hid (HS7.out.next hb8)
  have HE8 := Lib.hid (HE7.out.below hb8)
  replace d0 := HS8.out.1.2.2.1
  replace d1 := HS8.out.1.2.2.2
  clear hb8 HS7 HE7 HTP
  go_wp2_with (fail)
  refine (HOR.out _ HS8.out).mono ?_
  rintro e w9 ⟨hb9, a9, c9, rfl, hown⟩
  have HS9 := Lib.hid (HS8.out.next hb9)
  have HE9 := Lib.hid (HE8.out.below hb9)
  have HI9 := Lib.hid (Ints.of_owns hown)
  replace d0 := HS9.out.1.2.2.1
  replace d1 := HS9.out.1.2.2.2
  clear hb9 hown HS8 HE8 HOR
  go_wp2_with (fail)
  refine (RefSpans_any n (some ⟨G, 0, none⟩) n n L w9 HLL.out (by omega) HE9.out).mono ?_
  rintro e w10 ⟨rfl, hb10⟩
  rw [HQ3.out, decide_eq_true (rfl : (n : Int) = (n : Int))]
  have HS10 := Lib.hid (HS9.out.next hb10)
  have HE10 := Lib.hid (HE9.out.below hb10)
  have HI10 := Lib.hid (HI9.out.below hb10)
  replace d0 := HS10.out.1.2.2.1
  replace d1 := HS10.out.1.2.2.2
  clear hb10 HS9 HE9 HI9
  go_wp2_with (fail)
  refine (RefMatches_any aE (some ⟨G, 0, none⟩) n m cE n es L w10 h2 HLm.out (by omega) HS10.out.1.2.1 HLL.out HE10.out).mono ?_
  rintro e w11 ⟨rfl, hb11⟩
  rw [HQ4.out]
  have HS11 := Lib.hid (HS10.out.next hb11)
  have HI11 := Lib.hid (HI10.out.below hb11)
  replace d0 := HS11.out.1.2.2.1
  replace d1 := HS11.out.1.2.2.2
  clear hb11 HS10 HE10 HI10
  go_wp2_with (fail)
  refine (Permutation_any a9 n c9 O n w11 HOL.out (by omega) (by omega) (by omega) HI11.out).mono ?_
  rintro e w12 ⟨rfl, hb12⟩
  rw [HQ8.out]
  have HS12 := Lib.hid (HS11.out.next hb12)
  have HI12 := Lib.hid (HI11.out.below hb12)
  replace d0 := HS12.out.1.2.2.1
  replace d1 := HS12.out.1.2.2.2
  clear hb12 HS11 HI11
  go_wp2_with (fail)
  refine (RefElim_any aE a9 m cE n c9 es O w12 HLm.out (by omega) HS12.out.1.2.1 HOL.out (by omega) HI12.out).mono ?_
  rintro e w13 ⟨rfl, hb13⟩
  rw [HQ9.out]
  have HB13 := Lib.hid (HS12.out.next hb13).1.1
  clear hb13 HS12 HI12 d0 d1
  go_wp2_with (fail)
  refine (HLV.out _).mono ?_
  rintro e w14 ⟨rfl, hb14⟩
  have HB14 := Lib.hid (HB13.out.trans (hb14.mono HB13.out.size))
  clear hb14 HB13
  go_wp2_with (fail)
  go_ret
  exact ⟨rfl, HB14.out⟩

end Go.Proofs.YthlbedhjekbfpaaDoor
