/-
  The walk of 'RibIsTrees'.
-/
import Derived.Test.YtdlfoompfaipnaaVc
import Derived.Test.YtdlfoompfaipnaaUb
namespace Go.Proofs.Ytdlfoompfaipnaa
open Go.RowKit Go.Sort

/-- 'append([]api.Pair{}, y...)'. -/
theorem wpList_app_pairs {W : World} {ops : Array Oper} {rest : List Oper} {o : Oper} {a : Act} {Q : Exit → Act → World → Prop} (hgd : o.guard = none) (s x : Operand)
    (ho : o.op = .call { callee := .builtin .append, args := #[s, x], argTypes := #[22, 22] }) (B : Nat) (hs : a.eval s = .slice (some ⟨B, 0, none⟩) 0 0) (hB : W.heap[B]? = some (.cells #[] 65 (0, 0)))
    (ad : Option Addr) (r c : Nat) (L : List (Int × Int)) (hx : a.eval x = .slice ad r c) (hsrc : SrcE W ad r c L) (hn : r ≤ 1000)
    (h : ∀ (a' : Option Addr) (c' : Nat) (w' : World), w'.ownsRow B 65 2 (.slice a' r c') r (prCells L) → W.grownBy w' (some B) → wpList Try.prog ops Q rest (a.put o.dst (.slice a' r c')) w') :
    wpList Try.prog ops Q (o :: rest) a W := by
  have hw : Region.wanted o (yielded ops a.tmps) = true := by simp [Region.wanted, hgd]
  refine wpList_wanted hw fun K hK => ?_
  have := step_app_pairs (ops := ops) (K := K) (Q := Q) (E := True) hgd s x ho B hs hB ad r c L hx hsrc hn fun a' c' w' h1 h2 => hK _ _ (h a' c' w' h1 h2)
  rw [if_pos hw] at this
  exact this

def StT (w : World) (B : Nat) (N : Int) (aE : Option Addr) (m cE : Nat) (es : List (Int × Int)) (aT : Option Addr) (t : List (Int × Int)) (wc : World) : Prop := StC w B N aE m cE es wc ∧ Edges wc aT t
theorem StT.next {w : World} {B : Nat} {N : Int} {aE : Option Addr} {m cE : Nat} {es : List (Int × Int)} {aT : Option Addr} {t : List (Int × Int)} {wc w' : World} (h : StT w B N aE m cE es aT t wc) (hb : Below wc.heap.size wc w') : StT w B N aE m cE es aT t w' := ⟨h.1.next hb, h.2.below hb⟩

set_option maxRecDepth 100000 in
set_option maxHeartbeats 8000000 in
theorem RibIsTrees_any (N0 : Int) (a aY : Option Addr) (m0 cap nY cY : Nat) (es0 ys : List (Int × Int)) (w : World) (hl : es0.length = m0) (hm : m0 ≤ 9223372036854775807) (hcap : m0 ≤ cap) (hnone : a = none → cap = 0) (he : Edges w a es0)
    (hlY : ys.length = nY) (hmY : nY ≤ 9223372036854775807) (hcY : nY ≤ cY) (hnY : aY = none → cY = 0) (hY : Edges w aY ys) :
    Calls Try.prog 6 #[.agg #[.int .i64 N0, .slice a m0 cap], .slice aY nY cY] w fun e w' => e = .returned (.bool true) ∧ Below w.heap.size w w' := by
  have hb0 : Below w.heap.size w (w.alloc (.cells #[.int .i64 N0, .slice a m0 cap] 24)) := (Below.refl _ w).alloc (Nat.le_refl _) _
  have HF := Lib.hid (few_any N0 a m0 cap es0 (w.alloc (.cells #[.int .i64 N0, .slice a m0 cap] 24)) hl hm hcap hnone (he.below hb0))
  have HB0 := Lib.hid hb0
  obtain ⟨r, hr1, hr2, hr3, hmin⟩ : ∃ r : Nat, r ≤ nY ∧ r ≤ 14 ∧ (ys.take 14).length = r ∧ min (nY : Int) 14 = (r : Int) := by
    refine ⟨min nY 14, by omega, by omega, by rw [List.length_take, hlY]; omega, by omega⟩
  have HSRC : Hid (SrcE w aY r cY (ys.take 14)) := Lib.hid (by
    rcases hY with rfl | ⟨b, off, rfl, hc⟩
    · have hr0 : r = 0 := by simp at hlY; omega
      cases aY with
      | none => exact ⟨hr3, .inl ⟨rfl, hr0, hnY rfl⟩⟩
      | some ad => exact ⟨hr3, .inr ⟨ad, rfl, fun j u hj => by simp [prCells] at hj⟩⟩
    · refine SrcE.of_edges hr3 fun i hi => ?_
      have e : (ys.take 14)[i]?.getD (0, 0) = ys[i]?.getD (0, 0) := by rw [List.getElem?_take, if_pos (by omega)]
      rw [e]
      exact hc i (by omega))
  have hrc : (r : Int) ≤ (cY : Int) := by omega
  have hr0 : (0 : Int) ≤ (r : Int) := by omega
  obtain ⟨t, ht⟩ : ∃ t, ys.take 14 = t := ⟨_, rfl⟩
  rw [ht] at HSRC hr3
  have HTL := Lib.hid hr3
  obtain ⟨N, hN⟩ : ∃ N, fewN N0 = N := ⟨_, rfl⟩
  obtain ⟨es, hes⟩ : ∃ es, fewE es0 = es := ⟨_, rfl⟩
  have hel : es.length ≤ 70 := by rw [← hes, fewE, List.length_take]; omega
  unfold FewV at HF
  rw [hN, hes] at HF
  obtain ⟨m, hm'⟩ : ∃ m, es.length = m := ⟨_, rfl⟩
  rw [hm'] at hel HF
  have HLm := Lib.hid hm'
  clear hb0 hl hm hcap hnone he hN hes hm' ht hr3 hlY hnY hY
  have HLV := Lib.hid (fun wx => lives_any wx)
  go_enter Try.func6, Try.ntmps6
  go_wp2_with (first
    | (go_at_call 11
       refine HF.out.mono ?_
       rintro e w1 ⟨aE, cE, rfl, he1, hb1⟩
       have H1 := Lib.hid (And.intro he1 (HB0.out.trans (hb1.mono HB0.out.size)))
       have h1w := H1.out.2.size
       have hb4 := (Below.refl _ w1).alloc (Nat.le_refl _) (.cells #[.int .i64 N, .slice aE m cE] 24)
       have HS2 : Hid (StC w w1.heap.size N aE m cE es (w1.alloc (.cells #[.int .i64 N, .slice aE m cE] 24))) := Lib.hid ⟨H1.out.2.alloc h1w _, H1.out.1.below hb4, by simp, by simp⟩
       have HSR3 : Hid (SrcE ((w1.alloc (.cells #[.int .i64 N, .slice aE m cE] 24)).alloc (.cells #[] 65)) aY r cY t) := Lib.hid (HSRC.out.below ((HS2.out.1).alloc (by simp; omega) _))
       clear he1 hb1 hb4)
    | (at_builtin; refine wpList_app_pairs rfl (.tmp 11) (.tmp 16) rfl (w1.heap.size + 1) rfl (by have := heap_alloc_new (w1.alloc (.cells #[.int .i64 N, .slice aE m cE] 24)) (.cells #[] 65); rwa [sz_alloc] at this) aY r cY t rfl HSR3.out (by omega) ?_; intro aT cT w4 hr4 hg4; have HS4 : Hid (StT w w1.heap.size N aE m cE es aT t w4) := Lib.hid ⟨HS2.out.next (((Below.refl _ _).alloc (Nat.le_refl _) _).grown hg4 (by simp) (fun x hx => by simp at hx; simp; omega)), Edges.of_owns hr4⟩; clear hr4 hg4; have d0 := HS4.out.1.2.2.1; have d1 := HS4.out.1.2.2.2))
  have HGR := Lib.hid (fun (wx : World) (hx : StT w w1.heap.size N aE m cE es aT t wx) => Graph_any aE m cE es N wx HLm.out (by omega) hx.1.2.1)
  clear HF HSRC HSR3 HS2 H1
  rcases Bool.eq_false_or_eq_true (graphR N es) with hg | hg
  · rw [hg] at HGR
    obtain ⟨n, gs, rfl, h1, h2, hadj, hgood⟩ := graphOf_good hg
    have HIT := Lib.hid (fun (wx : World) (hx : StT w w1.heap.size n aE m cE es aT t wx) => IsTree_good n aE aT m cE r cT es t n gs wx HTL.out (by omega) hx.2 rfl h2 hadj (cliques_some hadj h2) (hgood _ _ _ _ HLm.out (by omega) hx.1.2.1))
    have hc1 : 1 ≤ (refCl es n (2 ^ n)).length := by
      rw [← cliques_same hadj h2, cliqueLists, List.length_map, srt_len]
      cases hc : cliquesN gs with
      | nil => exact absurd hc (cliques_some hadj h2)
      | cons => simp
    have HRT := Lib.hid (fun (wx : World) (hx : StT w w1.heap.size n aE m cE es aT t wx) => RefTree_any aE aT m cE n r cT es t wx h1 h2 HLm.out (by omega) hx.1.2.1 HTL.out (by omega) hx.2 hc1)
    have HRC := Lib.hid (fun (wx : World) (hx : StT w w1.heap.size n aE m cE es aT t wx) => RefChordal_any aE m cE n es wx h2 HLm.out (by omega) hx.1.2.1)
    rw [tree_same hadj h2] at HRT
    have HCH := Lib.hid (fun h => tree_chordal hadj h2 (t := t) h)
    obtain ⟨b, hb⟩ : ∃ b, (isTreeB (srtN (cliquesN gs)).length t && stayB (srtN (cliquesN gs)) t n) = b := ⟨_, rfl⟩
    rw [hb] at HIT HRT HCH
    clear hg hgood hadj hb hc1
    refine (HIT.out _ HS4.out).mono ?_
    rintro e w5 ⟨rfl, hb5⟩
    have HS5 := Lib.hid (HS4.out.next hb5)
    replace d0 := HS5.out.1.2.2.1
    replace d1 := HS5.out.1.2.2.2
    clear hb5 HS4 HIT
    go_wp2_with (fail)
    refine (HGR.out _ HS5.out).mono ?_
    rintro e w6 ⟨rfl, hb6⟩
    have HS6 := Lib.hid (HS5.out.next hb6)
    replace d0 := HS6.out.1.2.2.1
    replace d1 := HS6.out.1.2.2.2
    clear hb6 HS5 HGR
    go_wp2_with (fail)
    refine (HRT.out _ HS6.out).mono ?_
    rintro e w7 ⟨rfl, hb7⟩
    have HS7 := Lib.hid (HS6.out.next hb7)
    replace d0 := HS7.out.1.2.2.1
    replace d1 := HS7.out.1.2.2.2
    clear hb7 HS6 HRT
    cases b with
    | false =>
      go_wp2_with (fail)
      refine (HLV.out _).mono ?_
      rintro e w8 ⟨rfl, hb8⟩
      have HB8 := Lib.hid (HS7.out.1.1.trans (hb8.mono HS7.out.1.1.size))
      clear hb8
      go_wp2_with (fail)
      go_ret
      exact ⟨rfl, HB8.out⟩
    | true =>
      rw [HCH.out rfl] at HRC
      go_wp2_with (fail)
      refine (HRC.out _ HS7.out).mono ?_
      rintro e w8 ⟨rfl, hb8⟩
      have HB8 := Lib.hid (HS7.out.1.1.trans (hb8.mono HS7.out.1.1.size))
      clear hb8
      go_wp2_with (fail)
      refine (HLV.out _).mono ?_
      rintro e w9 ⟨rfl, hb9⟩
      have HB9 := Lib.hid (HB8.out.trans (hb9.mono HB8.out.size))
      clear hb9
      go_wp2_with (fail)
      go_ret
      exact ⟨rfl, HB9.out⟩
  · have HIT := Lib.hid (fun (wx : World) (hx : StT w w1.heap.size N aE m cE es aT t wx) => IsTree_bad hg aE (.slice aT r cT) m cE wx HLm.out (by omega) hx.1.2.1)
    rw [hg] at HGR
    clear hg
    refine (HIT.out _ HS4.out).mono ?_
    rintro e w5 ⟨rfl, hb5⟩
    have HS5 := Lib.hid (HS4.out.next hb5)
    replace d0 := HS5.out.1.2.2.1
    replace d1 := HS5.out.1.2.2.2
    clear hb5 HS4 HIT
    go_wp2_with (fail)
    refine (HGR.out _ HS5.out).mono ?_
    rintro e w6 ⟨rfl, hb6⟩
    have HB6 := Lib.hid (HS5.out.next hb6).1.1
    clear hb6 HS5 HGR d0 d1
    go_wp2_with (fail)
    refine (HLV.out _).mono ?_
    rintro e w8 ⟨rfl, hb8⟩
    have HB8 := Lib.hid (HB6.out.trans (hb8.mono HB6.out.size))
    clear hb8 HB6
    go_wp2_with (fail)
    go_ret
    exact ⟨rfl, HB8.out⟩

end Go.Proofs.Ytdlfoompfaipnaa
