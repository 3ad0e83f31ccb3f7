/-
  The walk of 'RibMatches'.
-/
import Derived.Test.YticafbfijpjbnaaXg
import Derived.Test.YticafbfijpjbnaaTe
import Derived.Test.YticafbfijpjbnaaSc
namespace Go.Proofs.Yticafbfijpjbnaa
open Go.RowKit Go.Sort

theorem Edges.of_spans {w : World} {base n cap : Nat} {a : Option Addr} {es : List (Int × Int)} (h : w.ownsRow base 91 2 (.slice a n cap) n (prCells es)) : Edges w a es := by
  have hn : es.length = n := by have := h.1; rw [prCells_length] at this; omega
  rcases h.2 with ⟨_, h0⟩ | ⟨g, cap', cur, e, _⟩
  · exact .inl (List.eq_nil_of_length_eq_zero (by omega))
  · cases e
    refine .inr ⟨g, 0, rfl, fun i hi => ?_⟩
    have hp := prCells_get es i hi
    have e0 := h.cellAt (i * 2) (by omega)
    have e1 := h.cellAt (i * 2 + 1) (by omega)
    rw [hp.1] at e0
    rw [hp.2] at e1
    rw [Nat.zero_add]
    exact ⟨e0, e1⟩

/-- 'append([]api.Span{}, x...)' in a region that draws. -/
theorem step_app_spans {W : World} {ops : Array Oper} {o : Oper} {a : Act} {K : Act → World → Prop} {Q : Exit → Act → World → Prop} {E : Prop} (hgd : o.guard = none) (s x : Operand)
    (ho : o.op = .call { callee := .builtin .append, args := #[s, x], argTypes := #[48, 48] }) (B : Nat) (hs : a.eval s = .slice (some ⟨B, 0, none⟩) 0 0) (hB : W.heap[B]? = some (.cells #[] 91 (0, 0)))
    (ad : Option Addr) (r c : Nat) (L : List (Int × Int)) (hx : a.eval x = .slice ad r c) (hsrc : SrcE W ad r c L) (hn : r ≤ 1000)
    (h : ∀ (a' : Option Addr) (c' : Nat) (w' : World), w'.ownsRow B 91 2 (.slice a' r c') r (prCells L) → W.grownBy w' (some B) → K (a.put o.dst (.slice a' r c')) w') :
    if Region.wanted o (yielded ops a.tmps) = true then Oper.wp Try.prog o a W K Q else E := by
  have hw : Region.wanted o (yielded ops a.tmps) = true := by simp [Region.wanted, hgd]
  rw [if_pos hw]
  obtain ⟨i0, hi, hz0, hz1, hz2⟩ := info_parts Try.infoSpan
  have hBlt : B < W.heap.size := (Array.getElem?_eq_some_iff.1 hB).1
  have hown : W.ownsRow B 91 2 (.slice (some ⟨B, 0, none⟩) 0 0) 0 [] := ⟨rfl, .inr ⟨B, 0, #[], rfl, Nat.le_refl _, hB, Nat.le_refl _, by unfold maxLen; omega, rfl, rfl⟩⟩
  obtain ⟨hl, hsrc⟩ := hsrc
  rcases hsrc with ⟨rfl, rfl, rfl⟩ | ⟨q, rfl, hc⟩
  · obtain rfl := List.eq_nil_of_length_eq_zero hl
    have hrun := run_append_owned_none (P := Try.prog) (w := W) B 48 o.type 91 i0 2 Try.underlying48 hi (.slice (some ⟨B, 0, none⟩) 0 0) 0 [] hown
    unfold Oper.wp
    simp [execOp, ho, resolve, invoke, builtin, hs, hx, hrun, Result.andThen]
    exact h _ _ W hown ⟨rfl, rfl, rfl, Nat.le_refl _, fun _ _ _ => rfl⟩
  · obtain ⟨v', w', hrun, hown', hg, _, _⟩ := run_append_own_at (P := Try.prog) W B 48 o.type 91 i0 (.agg #[.int .i64 0, .int .i64 0]) 2 16 Try.underlying48 hi hz0 hz1 hz2 rfl (by decide) (.slice (some ⟨B, 0, none⟩) 0 0) 0 [] hown q r c (prCells L) (by rw [prCells_length, hl]) hc (prCells_one L) (by unfold maxLen; omega) (by omega) (by omega)
    obtain ⟨a', c', rfl⟩ := ownsRow_slice hown'
    unfold Oper.wp
    simp only [Nat.zero_add, List.nil_append] at hown' hrun
    simp [execOp, ho, resolve, invoke, builtin, hs, hx, hrun, Result.andThen]
    exact h a' c' w' hown' hg

theorem wpList_app_spans {W : World} {ops : Array Oper} {rest : List Oper} {o : Oper} {a : Act} {Q : Exit → Act → World → Prop} (hgd : o.guard = none) (s x : Operand)
    (ho : o.op = .call { callee := .builtin .append, args := #[s, x], argTypes := #[48, 48] }) (B : Nat) (hs : a.eval s = .slice (some ⟨B, 0, none⟩) 0 0) (hB : W.heap[B]? = some (.cells #[] 91 (0, 0)))
    (ad : Option Addr) (r c : Nat) (L : List (Int × Int)) (hx : a.eval x = .slice ad r c) (hsrc : SrcE W ad r c L) (hn : r ≤ 1000)
    (h : ∀ (a' : Option Addr) (c' : Nat) (w' : World), w'.ownsRow B 91 2 (.slice a' r c') r (prCells L) → W.grownBy w' (some B) → wpList Try.prog ops Q rest (a.put o.dst (.slice a' r c')) w') :
    wpList Try.prog ops Q (o :: rest) a W := by
  have hw : Region.wanted o (yielded ops a.tmps) = true := by simp [Region.wanted, hgd]
  refine wpList_wanted hw fun K hK => ?_
  have := step_app_spans (ops := ops) (K := K) (Q := Q) (E := True) hgd s x ho B hs hB ad r c L hx hsrc hn fun a' c' w' h1 h2 => hK _ _ (h a' c' w' h1 h2)
  rw [if_pos hw] at this
  exact this


def StM (w : World) (B : Nat) (N : Int) (aE : Option Addr) (m cE : Nat) (es : List (Int × Int)) (aT : Option Addr) (t : List (Int × Int)) (wc : World) : Prop := StC w B N aE m cE es wc ∧ Edges wc aT t
theorem StM.next {w : World} {B : Nat} {N : Int} {aE : Option Addr} {m cE : Nat} {es : List (Int × Int)} {aT : Option Addr} {t : List (Int × Int)} {wc w' : World} (h : StM w B N aE m cE es aT t wc) (hb : Below wc.heap.size wc w') : StM w B N aE m cE es aT t w' := ⟨h.1.next hb, h.2.below hb⟩
/-- An interval graph's Spans returns no error. -/
theorem SpansV.weak {n : Nat} {gs : List Nat} {es sp : List (Int × Int)} (h : Adj n gs es) (h1 : 1 ≤ n) (h2 : n ≤ 12) (hl : sp.length = n) (hs : sp.all spanB = true) {w w' : World} {e : Ending} (hv : SpansV n gs w e w') : ∃ v f, e = .returned (.tuple #[v, .int .i64 f]) ∧ (matchR es sp n = true → f = 0) ∧ Below w.heap.size w w' := by
  obtain ⟨hb, hv⟩ := hv
  have key : matchR es sp n = true → ¬ (ordI n gs).length < n ∧ searchN (srtN (cliquesN gs)) (srtN (cliquesN gs)).length 0 ≠ none := fun hm => by
    have hr := match_rep hl hs hm
    have hc := (chdB_iff h h2 (full_lt n)).2 (interval_chd hr)
    rw [← chord_chdB h h2, chord_same h h2, decide_eq_true_iff] at hc
    have hf := clique_few h h2 h1 hc
    exact ⟨by rw [ordI, List.length_map]; omega, interval_row h h2 h1 hr (by rw [srt_len]; omega)⟩
  by_cases hlt : (ordI n gs).length < n
  · rw [if_pos hlt] at hv
    exact ⟨_, _, hv, fun hm => absurd hlt (key hm).1, hb⟩
  · rw [if_neg hlt] at hv
    cases hso : searchN (srtN (cliquesN gs)) (srtN (cliquesN gs)).length 0 with
    | none =>
      rw [hso] at hv
      exact ⟨_, _, hv, fun hm => absurd hso (key hm).2, hb⟩
    | some r =>
      rw [hso] at hv
      obtain ⟨g, he, _⟩ := hv
      exact ⟨_, _, he, fun _ => rfl, hb⟩

set_option maxRecDepth 100000 in
set_option maxHeartbeats 8000000 in
theorem RibMatches_any (N0 : Int) (a aY : Option Addr) (m0 cap nY cY : Nat) (es0 ys : List (Int × Int)) (w : World) (hl : es0.length = m0) (hm : m0 ≤ 9223372036854775807) (hcap : m0 ≤ cap) (hnone : a = none → cap = 0) (he : Edges w a es0)
    (hlY : ys.length = nY) (hmY : nY ≤ 9223372036854775807) (hcY : nY ≤ cY) (hnY : aY = none → cY = 0) (hY : Edges w aY ys) :
    Calls Try.prog 8 #[.agg #[.int .i64 N0, .slice a m0 cap], .slice aY nY cY] w fun e w' => e = .returned (.bool true) ∧ Below w.heap.size w w' := by
  have hb0 : Below w.heap.size w (w.alloc (.cells #[.int .i64 N0, .slice a m0 cap] 24)) := (Below.refl _ w).alloc (Nat.le_refl _) _
  have HF := Lib.hid (few_any N0 a m0 cap es0 (w.alloc (.cells #[.int .i64 N0, .slice a m0 cap] 24)) hl hm hcap hnone (he.below hb0))
  have HB0 := Lib.hid hb0
  obtain ⟨r, hr1, hr2, hr3, hmin⟩ : ∃ r : Nat, r ≤ nY ∧ r ≤ 14 ∧ (ys.take 14).length = r ∧ min (nY : Int) 14 = (r : Int) := by
    refine ⟨min nY 14, by omega, by omega, by rw [List.length_take, hlY]; omega, by omega⟩
  have HSRC : Hid (SrcE w aY r cY (ys.take 14)) := Lib.hid (by
    rcases hY with rfl | ⟨b, off, rfl, hc⟩
    · have hr0 : r = 0 := by simp at hlY; omega
      cases aY with
      | none => exact ⟨hr3, .inl ⟨rfl, hr0, hnY rfl⟩⟩
      | some ad => exact ⟨hr3, .inr ⟨ad, rfl, fun j u hj => by simp [prCells] at hj⟩⟩
    · refine SrcE.of_edges hr3 fun i hi => ?_
      have e : (ys.take 14)[i]?.getD (0, 0) = ys[i]?.getD (0, 0) := by rw [List.getElem?_take, if_pos (by omega)]
      rw [e]
      exact hc i (by omega))
  have hrc : (r : Int) ≤ (cY : Int) := by omega
  have hr0 : (0 : Int) ≤ (r : Int) := by omega
  obtain ⟨t, ht⟩ : ∃ t, ys.take 14 = t := ⟨_, rfl⟩
  rw [ht] at HSRC hr3
  have HTL := Lib.hid hr3
  obtain ⟨N, hN⟩ : ∃ N, fewN N0 = N := ⟨_, rfl⟩
  obtain ⟨es, hes⟩ : ∃ es, fewE es0 = es := ⟨_, rfl⟩
  have hel : es.length ≤ 70 := by rw [← hes, fewE, List.length_take]; omega
  unfold FewV at HF
  rw [hN, hes] at HF
  obtain ⟨m, hm'⟩ : ∃ m, es.length = m := ⟨_, rfl⟩
  rw [hm'] at hel HF
  have HLm := Lib.hid hm'
  clear hb0 hl hm hcap hnone he hN hes hm' ht hr3 hlY hnY hY
  have HLV := Lib.hid (fun wx => lives_any wx)
  go_enter Try.func8, Try.ntmps8
  go_wp2_with (first
    | (go_at_call 11
       refine HF.out.mono ?_
       rintro e w1 ⟨aE, cE, rfl, he1, hb1⟩
       have H1 := Lib.hid (And.intro he1 (HB0.out.trans (hb1.mono HB0.out.size)))
       have h1w := H1.out.2.size
       have hb4 := (Below.refl _ w1).alloc (Nat.le_refl _) (.cells #[.int .i64 N, .slice aE m cE] 24)
       have HS2 : Hid (StC w w1.heap.size N aE m cE es (w1.alloc (.cells #[.int .i64 N, .slice aE m cE] 24))) := Lib.hid ⟨H1.out.2.alloc h1w _, H1.out.1.below hb4, by simp, by simp⟩
       have HSR3 : Hid (SrcE ((w1.alloc (.cells #[.int .i64 N, .slice aE m cE] 24)).alloc (.cells #[] 91)) aY r cY t) := Lib.hid (HSRC.out.below ((HS2.out.1).alloc (by simp; omega) _))
       clear he1 hb1 hb4)
    | (at_builtin; refine wpList_app_spans rfl (.tmp 14) (.tmp 19) rfl (w1.heap.size + 1) rfl (by have := heap_alloc_new (w1.alloc (.cells #[.int .i64 N, .slice aE m cE] 24)) (.cells #[] 91); rwa [sz_alloc] at this) aY r cY t rfl HSR3.out (by omega) ?_; intro aT cT w4 hr4 hg4; have HS4 : Hid (StM w w1.heap.size N aE m cE es aT t w4) := Lib.hid ⟨HS2.out.next (((Below.refl _ _).alloc (Nat.le_refl _) _).grown hg4 (by simp) (fun x hx => by simp at hx; simp; omega)), Edges.of_spans hr4⟩; clear hr4 hg4; have d0 := HS4.out.1.2.2.1; have d1 := HS4.out.1.2.2.2))
  have HGR := Lib.hid (fun (wx : World) (hx : StM w w1.heap.size N aE m cE es aT t wx) => Graph_any aE m cE es N wx HLm.out (by omega) hx.1.2.1)
  clear HF HSRC HSR3 HS2 H1
  rcases Bool.eq_false_or_eq_true (graphR N es) with hg | hg
  · rw [hg] at HGR
    obtain ⟨n, gs, rfl, h1, h2, hadj, hgood⟩ := graphOf_good hg
    have HMT := Lib.hid (fun (wx : World) (hx : StM w w1.heap.size n aE m cE es aT t wx) => Matches_any n aE aT m cE r cT n gs t wx rfl h2 hadj.len (fun i _ => hadj.lt16 h2 i) HTL.out (by omega) hx.2 (hgood _ _ _ _ HLm.out (by omega) hx.1.2.1))
    have HRS := Lib.hid (fun (wx : World) (hx : StM w w1.heap.size n aE m cE es aT t wx) => RefSpans_any n aT r cT t wx HTL.out (by omega) hx.2)
    have hcc : (t.all spanB && decide ((r : Int) = (n : Int))) = (decide (r = n) && t.all spanB) := by
      rw [Bool.and_comm]; congr 1; rw [Bool.eq_iff_iff, decide_eq_true_iff, decide_eq_true_iff]; omega
    rw [hcc] at HRS
    rcases Bool.eq_false_or_eq_true (decide (r = n) && t.all spanB) with hok | hok
    · -- spans of the nodes
      rw [hok] at HRS
      simp only [hok, if_true] at HMT
      rw [Bool.and_eq_true, decide_eq_true_iff] at hok
      obtain ⟨hrn, hall⟩ := hok
      subst hrn
      have HRM := Lib.hid (fun (wx : World) (hx : StM w w1.heap.size r aE m cE es aT t wx) => RefMatches_any aE aT r m cE cT es t wx h2 HLm.out (by omega) hx.1.2.1 HTL.out hx.2)
      have HSP := Lib.hid (fun (wx : World) (hx : StM w w1.heap.size r aE m cE es aT t wx) => (Spans_any r aE m cE es r gs wx rfl h1 h2 hadj (hgood _ _ _ _ HLm.out (by omega) hx.1.2.1) (cliques_some hadj h2)).mono fun e w' hv => SpansV.weak hadj h1 h2 HTL.out hall hv)
      rw [match_same hadj HTL.out hall] at HMT
      obtain ⟨is, his⟩ : ∃ is, matchR es t r = is := ⟨_, rfl⟩
      rw [his] at HMT HRM HSP
      clear hg hgood hadj hall his hcc
      cases is with
      | true =>
        refine (HMT.out _ HS4.out).mono ?_
        rintro e w5 ⟨rfl, hb5⟩
        have HS5 := Lib.hid (HS4.out.next hb5)
        replace d0 := HS5.out.1.2.2.1
        replace d1 := HS5.out.1.2.2.2
        clear hb5 HS4 HMT
        go_wp2_with (fail)
        refine (HGR.out _ HS5.out).mono ?_
        rintro e w6 ⟨rfl, hb6⟩
        have HS6 := Lib.hid (HS5.out.next hb6)
        replace d0 := HS6.out.1.2.2.1
        replace d1 := HS6.out.1.2.2.2
        clear hb6 HS5 HGR
        go_wp2_with (fail)
        refine (HRS.out _ HS6.out).mono ?_
        rintro e w7 ⟨rfl, hb7⟩
        have HS7 := Lib.hid (HS6.out.next hb7)
        replace d0 := HS7.out.1.2.2.1
        replace d1 := HS7.out.1.2.2.2
        clear hb7 HS6 HRS
        go_wp2_with (fail)
        refine (HRM.out _ HS7.out).mono ?_
        rintro e w8 ⟨rfl, hb8⟩
        have HS8 := Lib.hid (HS7.out.next hb8)
        replace d0 := HS8.out.1.2.2.1
        replace d1 := HS8.out.1.2.2.2
        clear hb8 HS7 HRM
        go_wp2_with (fail)
        refine (HLV.out _).mono ?_
        rintro e w9 ⟨rfl, hb9⟩
        have HS9 := Lib.hid (HS8.out.next hb9)
        replace d0 := HS9.out.1.2.2.1
        replace d1 := HS9.out.1.2.2.2
        clear hb9 HS8 HLV
        go_wp2_with (fail)
        refine (HSP.out _ HS9.out).mono ?_
        rintro e w10 ⟨v, f, rfl, hf, hb10⟩
        obtain rfl := hf (by trivial)
        have HB10 := Lib.hid (HS9.out.next hb10).1.1
        clear hb10 HS9 hf d0 d1
        go_wp2_with (fail)
        go_ret
        exact ⟨rfl, HB10.out⟩
      | false =>
        refine (HMT.out _ HS4.out).mono ?_
        rintro e w5 ⟨rfl, hb5⟩
        have HS5 := Lib.hid (HS4.out.next hb5)
        replace d0 := HS5.out.1.2.2.1
        replace d1 := HS5.out.1.2.2.2
        clear hb5 HS4 HMT
        go_wp2_with (fail)
        refine (HGR.out _ HS5.out).mono ?_
        rintro e w6 ⟨rfl, hb6⟩
        have HS6 := Lib.hid (HS5.out.next hb6)
        replace d0 := HS6.out.1.2.2.1
        replace d1 := HS6.out.1.2.2.2
        clear hb6 HS5 HGR
        go_wp2_with (fail)
        refine (HRS.out _ HS6.out).mono ?_
        rintro e w7 ⟨rfl, hb7⟩
        have HS7 := Lib.hid (HS6.out.next hb7)
        replace d0 := HS7.out.1.2.2.1
        replace d1 := HS7.out.1.2.2.2
        clear hb7 HS6 HRS
        go_wp2_with (fail)
        refine (HRM.out _ HS7.out).mono ?_
        rintro e w8 ⟨rfl, hb8⟩
        have HS8 := Lib.hid (HS7.out.next hb8)
        replace d0 := HS8.out.1.2.2.1
        replace d1 := HS8.out.1.2.2.2
        clear hb8 HS7 HRM
        go_wp2_with (fail)
        refine (HLV.out _).mono ?_
        rintro e w9 ⟨rfl, hb9⟩
        have HS9 := Lib.hid (HS8.out.next hb9)
        replace d0 := HS9.out.1.2.2.1
        replace d1 := HS9.out.1.2.2.2
        clear hb9 HS8 HLV
        go_wp2_with (fail)
        refine (HSP.out _ HS9.out).mono ?_
        rintro e w10 ⟨v, f, rfl, _, hb10⟩
        have HB10 := Lib.hid (HS9.out.next hb10).1.1
        clear hb10 HS9 d0 d1
        go_wp2_with (fail)
        go_ret
        exact ⟨rfl, HB10.out⟩
    · -- no spans of the nodes
      rw [hok] at HRS
      simp only [hok, if_neg (show ¬ (false = true) by simp)] at HMT
      clear hg hgood hadj hok hcc
      refine (HMT.out _ HS4.out).mono ?_
      rintro e w5 ⟨rfl, hb5⟩
      have HS5 := Lib.hid (HS4.out.next hb5)
      replace d0 := HS5.out.1.2.2.1
      replace d1 := HS5.out.1.2.2.2
      clear hb5 HS4 HMT
      go_wp2_with (fail)
      refine (HGR.out _ HS5.out).mono ?_
      rintro e w6 ⟨rfl, hb6⟩
      have HS6 := Lib.hid (HS5.out.next hb6)
      replace d0 := HS6.out.1.2.2.1
      replace d1 := HS6.out.1.2.2.2
      clear hb6 HS5 HGR
      go_wp2_with (fail)
      refine (HRS.out _ HS6.out).mono ?_
      rintro e w7 ⟨rfl, hb7⟩
      have HS7 := Lib.hid (HS6.out.next hb7)
      clear hb7 HS6 HRS d0 d1
      go_wp2_with (fail)
      refine (HLV.out _).mono ?_
      rintro e w9 ⟨rfl, hb9⟩
      have HB9 := Lib.hid (HS7.out.next hb9).1.1
      clear hb9 HS7
      go_wp2_with (fail)
      go_ret
      exact ⟨rfl, HB9.out⟩
  · have HMT := Lib.hid (fun (wx : World) (hx : StM w w1.heap.size N aE m cE es aT t wx) => Matches_bad hg aE m cE (.slice aT r cT) wx HLm.out (by omega) hx.1.2.1)
    rw [hg] at HGR
    clear hg
    refine (HMT.out _ HS4.out).mono ?_
    rintro e w5 ⟨rfl, hb5⟩
    have HS5 := Lib.hid (HS4.out.next hb5)
    replace d0 := HS5.out.1.2.2.1
    replace d1 := HS5.out.1.2.2.2
    clear hb5 HS4 HMT
    go_wp2_with (fail)
    refine (HGR.out _ HS5.out).mono ?_
    rintro e w6 ⟨rfl, hb6⟩
    have HS6 := Lib.hid (HS5.out.next hb6)
    clear hb6 HS5 HGR d0 d1
    go_wp2_with (fail)
    refine (HLV.out _).mono ?_
    rintro e w9 ⟨rfl, hb9⟩
    have HB9 := Lib.hid (HS6.out.next hb9).1.1
    clear hb9 HS6
    go_wp2_with (fail)
    go_ret
    exact ⟨rfl, HB9.out⟩

end Go.Proofs.Yticafbfijpjbnaa
