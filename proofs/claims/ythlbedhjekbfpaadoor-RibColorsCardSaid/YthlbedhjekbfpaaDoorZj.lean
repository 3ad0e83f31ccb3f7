/-
  The walk of 'RibColors'.
-/
import Derived.Test.YthlbedhjekbfpaaDoorZi
namespace Go.Proofs.YthlbedhjekbfpaaDoor
open Go.RowKit Go.Sort

/-- The graph, the colours, the independent set and the cover, held through the calls. -/
def StK (w : World) (B n : Nat) (aE : Option Addr) (m cE : Nat) (es : List (Int × Int)) (aC : Option Addr) (cs : List Int) (aI : Option Addr) (is : List Int) (aL : Option Addr) (ls : List (List Int)) (wc : World) : Prop :=
  StC w B n aE m cE es wc ∧ Ints wc aC cs ∧ Ints wc aI is ∧ ListsA wc aL ls
theorem Ints.below' {w w' : World} {a : Option Addr} {l : List Int} (h : Ints w a l) (hb : Below w.heap.size w w') : Ints w' a l := fun i hi => by
  obtain ⟨b, off, e, hc⟩ := h i hi
  exact ⟨b, off, e, (hb.cell (p := ⟨b, off + i, none⟩) (World.block_lt_of_cell? w _ hc)).trans hc⟩
theorem StK.next {w : World} {B n : Nat} {aE : Option Addr} {m cE : Nat} {es : List (Int × Int)} {aC : Option Addr} {cs : List Int} {aI : Option Addr} {is : List Int} {aL : Option Addr} {ls : List (List Int)} {wc w' : World}
    (h : StK w B n aE m cE es aC cs aI is aL ls wc) (hb : Below wc.heap.size wc w') : StK w B n aE m cE es aC cs aI is aL ls w' := ⟨h.1.next hb, h.2.1.below' hb, h.2.2.1.below' hb, h.2.2.2.below hb⟩
def anyHas (ls : List (List Int)) (i : Int) : Bool := ls.any fun l => hasB l i
theorem anyHas_next {ls : List (List Int)} {t : Nat} (i : Int) (ht : t < ls.length) : anyHas (ls.take (t + 1)) i = (anyHas (ls.take t) i || hasB ls[t] i) := by
  unfold anyHas
  rw [List.take_succ_eq_append_getElem ht, List.any_append, List.any_cons, List.any_nil, Bool.or_false]
theorem anyHas_true {ls : List (List Int)} {i : Int} (h : ∃ l ∈ ls, i ∈ l) : anyHas ls i = true := by
  obtain ⟨l, hl, hi⟩ := h
  exact List.any_eq_true.2 ⟨l, hl, hasB_mem.2 hi⟩

set_option maxRecDepth 100000 in
set_option maxHeartbeats 8000000 in
theorem RibColors_any (N0 : Int) (a : Option Addr) (m0 cap : Nat) (es0 : List (Int × Int)) (w : World) (hl : es0.length = m0) (hm : m0 ≤ 9223372036854775807) (hcap : m0 ≤ cap) (hnone : a = none → cap = 0) (he : Edges w a es0) (hT : TabW w) :
    Calls Tryd.prog 4 #[.agg #[.int .i64 N0, .slice a m0 cap]] w fun e w' => e = .returned (.bool true) ∧ Below w.heap.size w w' := by
  have hb0 : Below w.heap.size w (w.alloc (.cells #[.int .i64 N0, .slice a m0 cap] 24)) := (Below.refl _ w).alloc (Nat.le_refl _) _
  have HF := Lib.hid (few_any N0 a m0 cap es0 (w.alloc (.cells #[.int .i64 N0, .slice a m0 cap] 24)) hl hm hcap hnone (he.below hb0))
  have HB0 := Lib.hid hb0
  have HT := Lib.hid hT
  obtain ⟨N, hN⟩ : ∃ N, fewN N0 = N := ⟨_, rfl⟩
  obtain ⟨es, hes⟩ : ∃ es, fewE es0 = es := ⟨_, rfl⟩
  have hel : es.length ≤ 70 := by rw [← hes, fewE, List.length_take]; omega
  unfold FewV at HF
  rw [hN, hes] at HF
  obtain ⟨m, hm'⟩ : ∃ m, es.length = m := ⟨_, rfl⟩
  rw [hm'] at hel HF
  have HLm := Lib.hid hm'
  clear hb0 hl hm hcap hnone he hN hes hm' hT
  have HLV := Lib.hid (fun wx => lives_any wx)
  go_enter Tryd.func4, Tryd.ntmps4
  go_wp2_with (go_at_call 7; refine HF.out.mono ?_; rintro e w1 ⟨aE, cE, rfl, he1, hb1⟩; have H1 := Lib.hid (And.intro he1 (HB0.out.trans (hb1.mono HB0.out.size))); clear he1 hb1)
  have h1w := H1.out.2.size
  have hb4 := (Below.refl _ w1).alloc (Nat.le_refl _) (.cells #[.int .i64 N, .slice aE m cE] 24)
  have HS4 : Hid (StC w w1.heap.size N aE m cE es (w1.alloc (.cells #[.int .i64 N, .slice aE m cE] 24))) := Lib.hid ⟨H1.out.2.alloc h1w _, H1.out.1.below hb4, by simp, by simp⟩
  have HCH := Lib.hid (fun (wx : World) (hx : StC w w1.heap.size N aE m cE es wx) => lawChordal_any N aE m cE es wx HLm.out (by omega) hx.2.1)
  clear hb4 HF H1
  rcases Bool.eq_false_or_eq_true (graphR N es) with hg | hg
  · obtain ⟨n, gs, rfl, h1, h2, hadj, hgood⟩ := graphOf_good hg
    have HO := Lib.hid (fun (wx : World) (hx : StC w w1.heap.size n aE m cE es wx) => Colors_any n aE m cE es n gs wx rfl h1 h2 hadj (HT.out.next hx.1) (hgood _ _ _ _ HLm.out (by omega) hx.2.1))
    have hol : (ordN n gs).length ≤ 1000 := by
      obtain ⟨o1, o2, _⟩ := elimAll_order hadj h2 (2 ^ n - 1 + 1) (2 ^ n - 1) (full_lt n)
      have := List.Nodup.length_le_of_subset o1 (l₂ := List.range n) fun x hx => List.mem_range.2 (bit_lt (full_lt n) (o2 x hx))
      rw [List.length_range] at this
      have h5 : (ordN n gs).length ≤ n := this
      omega
    have HA := Lib.hid (fun (wx : World) (hx : StC w w1.heap.size n aE m cE es wx) => Apart_any n aE m cE es n gs wx rfl h2 hadj (hgood _ _ _ _ HLm.out (by omega) hx.2.1) (ordN_lt hadj h2) hol)
    unfold ColsV at HO
    unfold ApV at HA
    have hle : (ordN n gs).length ≤ n := by
      obtain ⟨o1, o2, _⟩ := elimAll_order hadj h2 (2 ^ n - 1 + 1) (2 ^ n - 1) (full_lt n)
      have := List.Nodup.length_le_of_subset o1 (l₂ := List.range n) fun x hx => List.mem_range.2 (bit_lt (full_lt n) (o2 x hx))
      rwa [List.length_range] at this
    have hoi : (ordI n gs).length = (ordN n gs).length := by rw [ordI, List.length_map]
    have hch0 : chordR es n = decide ((ordN n gs).length = n) := chord_same hadj h2
    by_cases hc : (ordN n gs).length = n
    · -- chordal
      have hch : chordE n es = 0 := by rw [chordE, if_pos hg, Int.toNat_natCast, if_pos (by rw [hch0, decide_eq_true hc])]
      rw [hch] at HCH
      have hnn : ¬ (ordI n gs).length < n := by omega
      simp only [if_neg hnn] at HO HA
      obtain ⟨f1, f2, f3, f4, f5, f6⟩ := cover_facts hadj h2 hc
      obtain ⟨g1, g2, g3⟩ := cols_facts hadj h2 hc
      have hfew : ∀ l ∈ refCl es n (2 ^ n), l.length ≤ 12 := fun l hl => by
        rw [← cliques_same hadj h2, cliqueLists] at hl
        obtain ⟨C, _, rfl⟩ := List.mem_map.1 hl
        exact listI_len C
      have HMO := Lib.hid (fun (wx : World) (hx : StC w w1.heap.size n aE m cE es wx) => Most_any aE m cE n es wx h1 h2 HLm.out (by omega) hx.2.1 hfew)
      have hgv := (graphR_iff.1 hg).2.1
      have HED : Hid (∀ (j : Nat) (hj : j < es.length), ∃ x y : Nat, es[j] = ((x : Int), (y : Int)) ∧ x < n ∧ y < n ∧ ¬ (colsI n gs)[x]?.getD 0 = (colsI n gs)[y]?.getD 0) := Lib.hid (fun j hj => by
        obtain ⟨k1, k2, k3⟩ := hgv _ (List.getElem_mem hj)
        obtain ⟨x, hx⟩ : ∃ x : Nat, es[j].1 = x := ⟨es[j].1.toNat, by omega⟩
        obtain ⟨y, hy⟩ : ∃ y : Nat, es[j].2 = y := ⟨es[j].2.toNat, by omega⟩
        refine ⟨x, y, Prod.ext hx hy, by omega, by omega, g3 x y (by omega) (by omega) ?_⟩
        unfold nearE
        rw [nearB_iff]
        refine ⟨?_, by omega⟩
        rw [show min (x : Int) y = x by omega, show max (x : Int) y = y by omega]
        have : ((x : Int), (y : Int)) = es[j] := (Prod.ext hx hy).symm
        rw [this]; exact List.getElem_mem hj)
      unfold MostV at HMO
      obtain ⟨LS, hLS⟩ : ∃ LS, (apTo gs (ordN n gs)).2.2.map listI = LS := ⟨_, rfl⟩
      obtain ⟨IS, hIS⟩ : ∃ IS, listI (apTo gs (ordN n gs)).1 = IS := ⟨_, rfl⟩
      obtain ⟨CS, hCS⟩ : ∃ CS, colsI n gs = CS := ⟨_, rfl⟩
      obtain ⟨RL, hRL⟩ : ∃ RL, refCl es n (2 ^ n) = RL := ⟨_, rfl⟩
      simp only [hLS, hIS] at HA f1 f2 f3 f4 f5 f6
      simp only [hCS] at HO g1 HED
      simp only [hCS, hRL] at g2
      simp only [hRL] at HMO
      obtain ⟨q, hq⟩ : ∃ q, LS.length = q := ⟨_, rfl⟩
      rw [hq] at f1 f6
      simp only [f1] at HA
      have HQ := Lib.hid hq
      have HIL := Lib.hid f1
      have HRI := Lib.hid f2
      have HFR := Lib.hid f3
      have HCV := Lib.hid f4
      have HLL := Lib.hid f5
      have HG1 := Lib.hid g1
      have HG2 := Lib.hid g2
      clear hg hgood hadj hol hle hoi hch0 hc hch hnn f1 f2 f3 f4 f5 g1 g2 g3 hfew hgv hLS hIS hCS hRL hq
      go_wp2_with (fail)
      refine (HO.out _ HS4.out).mono ?_
      rintro e w5 ⟨hb5, g5, rfl, hi5⟩
      have HS5 := Lib.hid (HS4.out.next hb5)
      have HI5 := Lib.hid hi5
      have d0 := HS5.out.2.2.1
      have d1 := HS5.out.2.2.2
      clear hb5 HS4 HO hi5
      go_wp2_with (fail)
      refine (HA.out _ HS5.out).mono ?_
      rintro e w6 ⟨hb6, u6, c6, v6, rfl, hown6, hgl6⟩
      obtain ⟨aL, cL, rfl, hls6, _⟩ := hgl6.lists
      have HS6 : Hid (StK w w1.heap.size n aE m cE es (some ⟨g5, 0, none⟩) CS u6 IS aL LS w6) := Lib.hid ⟨HS5.out.next hb6, HI5.out.below' hb6, Ints.of_owns hown6, hls6⟩
      replace d0 := HS6.out.1.2.2.1
      replace d1 := HS6.out.1.2.2.2
      clear hb6 HS5 HA HI5 hown6 hgl6 hls6
      simp only [HQ.out]
      go_wp2_with (fail)
      refine (HCH.out _ HS6.out.1).mono ?_
      rintro e w7 ⟨rfl, hb7⟩
      have HS7 := Lib.hid (HS6.out.next hb7)
      replace d0 := HS7.out.1.2.2.1
      replace d1 := HS7.out.1.2.2.2
      clear hb7 HS6 HCH
      go_wp2_with (fail)
      refine (rising_yes u6 q c6 IS n w7 HIL.out (by omega) HS7.out.2.2.1 HRI.out).mono ?_
      rintro e w8 ⟨rfl, md8, hw8⟩
      have HS8 : Hid (StK w w1.heap.size n aE m cE es (some ⟨g5, 0, none⟩) CS u6 IS aL LS w8) := Lib.hid (HS7.out.next (by rw [hw8]; exact below_drewN (Below.refl _ _) _))
      replace d0 := HS8.out.1.2.2.1
      replace d1 := HS8.out.1.2.2.2
      clear hw8 HS7
      go_wp2_with (fail)
      refine (Free_yes aE u6 m cE q c6 es IS w8 HLm.out (by omega) HS8.out.1.2.1 HIL.out (by omega) HS8.out.2.2.1 HFR.out).mono ?_
      rintro e w9 ⟨rfl, hb9⟩
      have HS9 := Lib.hid (HS8.out.next hb9)
      replace d0 := HS9.out.1.2.2.1
      replace d1 := HS9.out.1.2.2.2
      clear hb9 HS8
      go_wp2_with (fail)
      refine (HLV.out _).mono ?_
      rintro e w10 ⟨rfl, hb10⟩
      have HS10 := Lib.hid (HS9.out.next hb10)
      replace d0 := HS10.out.1.2.2.1
      replace d1 := HS10.out.1.2.2.2
      clear hb10 HS9
      go_wp2_with (fail)
      refine (HMO.out _ HS10.out.1).mono ?_
      rintro e w11 ⟨M, rfl, hM, hML, hb11⟩
      have HS11 := Lib.hid (HS10.out.next hb11)
      have HCB := Lib.hid (HG2.out M hML)
      clear hb11 HS10 HMO HG2 hML d0 d1
      go_wp2_with (fail)
      go_loopw [11, 12, 13] (fun i _ _ wr => ∃ j : Nat, j ≤ n ∧ i = .int .i64 j ∧ Hid (StK w w1.heap.size n aE m cE es (some ⟨g5, 0, none⟩) CS u6 IS aL LS wr)) (fun i _ _ _ => n - (intOf i).toNat)
      case atStart => exact ⟨0, Nat.zero_le _, rfl, HS11⟩
      case round =>
        obtain ⟨j, hj, rfl, HSR⟩ := hrel
        have d0 := HSR.out.1.2.2.1
        by_cases hlt : j < n
        · have hjn : (j : Int) < (n : Int) := by omega
          obtain ⟨b5, o5, e5, c5⟩ := HSR.out.2.1 j (by rw [HG1.out]; exact hlt)
          cases e5
          obtain ⟨z1, z2⟩ := HCB.out j hlt
          obtain ⟨z, hz⟩ : ∃ z, CS[j]?.getD 0 = z := ⟨_, rfl⟩
          rw [hz] at c5 z1 z2
          rw [Nat.zero_add] at c5
          have HAN := Lib.hid (anyHas_true (HCV.out j hlt))
          have z3 : ¬ z < 0 := by omega
          have z4 : ¬ M ≤ z := by omega
          clear hz
          go_wp2
          clear c5
          go_loopw [13, 12] (fun k b wi => ∃ (t : Nat) (bo : Bool), t ≤ q ∧ k = .int .i64 t ∧ b = .bool bo ∧ Hid (bo = anyHas (LS.take t) j) ∧ Hid (StK w w1.heap.size n aE m cE es (some ⟨g5, 0, none⟩) CS u6 IS aL LS wi)) (fun k _ _ => q - (intOf k).toNat)
          case atStart => exact ⟨0, false, Nat.zero_le _, rfl, rfl, Lib.hid rfl, HSR⟩
          case round =>
            rename World => wi
            obtain ⟨t, bo, ht, rfl, rfl, HBO, HSI⟩ := hrel
            by_cases hltt : t < q
            · have htq : (t : Int) < (q : Int) := by omega
              have htL : t < LS.length := by rw [HQ.out]; exact hltt
              have HNX := Lib.hid (anyHas_next (j : Int) htL)
              rcases HSI.out.2.2.2 with h0 | ⟨bl, rfl, hlist⟩
              · rw [h0] at htL; simp at htL
              obtain ⟨a7, c7, e7, i7⟩ := hlist.at htL
              have hle7 := (HLL.out _ (List.getElem_mem htL)).2.2
              have eg : LS[t]?.getD [] = LS[t] := by rw [List.getElem?_eq_getElem htL]; rfl
              rw [eg] at e7 i7
              obtain ⟨l7, hl7⟩ : ∃ l7, LS[t] = l7 := ⟨_, rfl⟩
              rw [hl7] at e7 i7 hle7 HNX
              have HHA := Lib.hid (fun (wx : World) (hx : Ints wx a7 l7) => Has_any a7 l7.length c7 l7 (j : Int) wx rfl (by omega) hx)
              have HI7 := Lib.hid i7
              obtain ⟨r7, hr7⟩ : ∃ r7, l7.length = r7 := ⟨_, rfl⟩
              rw [hr7] at e7 HHA hle7
              clear hlist i7 eg hl7 hr7
              cases bo with
              | true =>
                go_wp2
                go_roundw
                case rel => exact ⟨t + 1, true, by omega, by go_num, rfl, Lib.hid (by rw [HNX.out, ← HBO.out]; rfl), HSI⟩
                case measure => simp [intOf]; omega
              | false =>
                go_wp2_with (go_at_call 20; refine (HHA.out _ HI7.out).mono ?_; rintro e w' ⟨rfl, rfl⟩)
                go_roundw
                case rel => exact ⟨t + 1, hasB l7 j, by omega, by go_num, rfl, Lib.hid (by rw [HNX.out, ← HBO.out]; rfl), HSI⟩
                case measure => simp [intOf]; omega
            · obtain rfl : t = q := by omega
              have hbt : bo = true := by
                rw [HBO.out, List.take_of_length_le (by rw [HQ.out]; exact Nat.le_refl _)]
                exact HAN.out
              subst hbt
              go_wp2
              go_roundw
              case rel => exact ⟨j + 1, by omega, by go_num, HSI⟩
              case measure => simp [intOf]; omega
        · obtain rfl : j = n := by omega
          go_wp2
          clear d0
          go_loopw [14] (fun i wi => ∃ t : Nat, t ≤ m ∧ i = .int .i64 t ∧ Hid (StK w w1.heap.size j aE m cE es (some ⟨g5, 0, none⟩) CS u6 IS aL LS wi)) (fun i _ => m - (intOf i).toNat)
          case atStart => exact ⟨0, Nat.zero_le _, rfl, HSR⟩
          case round =>
            rename World => wi
            obtain ⟨t, ht, rfl, HSI⟩ := hrel
            have d1 := HSI.out.1.2.2.2
            by_cases hltt : t < m
            · have htm : (t : Int) < (m : Int) := by omega
              have htL : t < es.length := by rw [HLm.out]; exact hltt
              rcases HSI.out.1.2.1 with h0 | ⟨be, oe, rfl, hce⟩
              · rw [h0] at htL; simp at htL
              obtain ⟨e0, e1⟩ := hce t htL
              obtain ⟨x, y, hxy, hxn, hyn, hne⟩ := HED.out t htL
              have eg : es[t]?.getD (0, 0) = ((x : Int), (y : Int)) := by rw [List.getElem?_eq_getElem htL, hxy]; rfl
              rw [eg] at e0 e1
              simp only [] at e0 e1
              obtain ⟨b5, o5, q5, c5⟩ := HSI.out.2.1 x (by rw [HG1.out]; exact hxn)
              cases q5
              obtain ⟨b6, o6, q6, c6'⟩ := HSI.out.2.1 y (by rw [HG1.out]; exact hyn)
              cases q6
              rw [Nat.zero_add] at c5 c6'
              obtain ⟨z, hz⟩ : ∃ z, CS[x]?.getD 0 = z := ⟨_, rfl⟩
              obtain ⟨z', hz'⟩ : ∃ z', CS[y]?.getD 0 = z' := ⟨_, rfl⟩
              rw [hz] at c5 hne
              rw [hz'] at c6' hne
              have hxi : (x : Int) < (j : Int) := by omega
              have hyi : (y : Int) < (j : Int) := by omega
              clear hce hxy eg hz hz'
              go_wp2
              go_quiet (fail)
              go_wp2
              go_roundw
              case rel => exact ⟨t + 1, by omega, by go_num, Lib.hid (HSI.out.next (below_drewN (Below.refl _ _) _))⟩
              case measure => simp [intOf]; omega
            · obtain rfl : t = m := by omega
              go_wp2
              clear d1
              go_loopw [15] (fun i wk => ∃ s : Nat, s ≤ q ∧ i = .int .i64 s ∧ Hid (StK w w1.heap.size j aE t cE es (some ⟨g5, 0, none⟩) CS u6 IS aL LS wk)) (fun i _ => q - (intOf i).toNat)
              case atStart => exact ⟨0, Nat.zero_le _, rfl, HSI⟩
              case round =>
                rename World => wk
                obtain ⟨s, hs, rfl, HSK⟩ := hrel
                by_cases hlts : s < q
                · have hsq : (s : Int) < (q : Int) := by omega
                  have d0 := HSK.out.1.2.2.1
                  have d1 := HSK.out.1.2.2.2
                  have hsL : s < LS.length := by rw [HQ.out]; exact hlts
                  rcases HSK.out.2.2.2 with h0 | ⟨bl, rfl, hlist⟩
                  · rw [h0] at hsL; simp at hsL
                  obtain ⟨a7, c7, e7, i7⟩ := hlist.at hsL
                  obtain ⟨r1, r2, r3⟩ := HLL.out _ (List.getElem_mem hsL)
                  have eg : LS[s]?.getD [] = LS[s] := by rw [List.getElem?_eq_getElem hsL]; rfl
                  rw [eg] at e7 i7
                  obtain ⟨l7, hl7⟩ : ∃ l7, LS[s] = l7 := ⟨_, rfl⟩
                  rw [hl7] at e7 i7 r1 r2 r3
                  have HRS := Lib.hid (fun (k : Nat) => rising_yes a7 l7.length c7 l7 j (wk.drewN k) rfl (by omega) (i7.below' (below_drewN (Below.refl _ _) _)) r1)
                  have HCQ := Lib.hid (fun (k : Nat) => Clique_yes aE a7 t cE l7.length c7 es l7 (wk.drewN k) HLm.out (by omega) (HSK.out.1.2.1.below (below_drewN (Below.refl _ _) _)) rfl (by omega) (i7.below' (below_drewN (Below.refl _ _) _)) r2)
                  obtain ⟨r7, hr7⟩ : ∃ r7, l7.length = r7 := ⟨_, rfl⟩
                  rw [hr7] at e7 HRS HCQ
                  clear hlist i7 eg hl7 hr7 r1 r2 r3
                  go_wp2
                  go_quiet (first
                    | with_reducible exact Calls.quiet_of (HRS.out _)
                    | with_reducible exact Calls.quiet_of (HCQ.out _))
                  go_wp2
                  go_roundw
                  case rel => exact ⟨s + 1, by omega, by go_num, Lib.hid (HSK.out.next (below_drewN (Below.refl _ _) _))⟩
                  case measure => simp [intOf]; omega
                · obtain rfl : s = q := by omega
                  go_wp2
                  go_ret
                  exact ⟨rfl, HSK.out.1.1⟩
    · -- not chordal
      have hch : chordE n es = 5 := by rw [chordE, if_pos hg, Int.toNat_natCast, if_neg (by rw [hch0, decide_eq_false hc]; simp)]
      rw [hch] at HCH
      have hnn : (ordI n gs).length < n := by omega
      simp only [if_pos hnn] at HO HA
      clear hg hgood hadj hol hle hoi hch0 hc hch hnn
      go_wp2_with (fail)
      refine (HO.out _ HS4.out).mono ?_
      rintro e w5 ⟨hb5, rfl⟩
      have HS5 := Lib.hid (HS4.out.next hb5)
      have d0 := HS5.out.2.2.1
      have d1 := HS5.out.2.2.2
      clear hb5 HS4 HO
      go_wp2_with (fail)
      refine (HA.out _ HS5.out).mono ?_
      rintro e w6 ⟨hb6, rfl⟩
      have HS6 := Lib.hid (HS5.out.next hb6)
      replace d0 := HS6.out.2.2.1
      replace d1 := HS6.out.2.2.2
      clear hb6 HS5 HA
      go_wp2_with (fail)
      refine (HCH.out _ HS6.out).mono ?_
      rintro e w7 ⟨rfl, hb7⟩
      have HS7 := Lib.hid (HS6.out.next hb7)
      replace d0 := HS7.out.2.2.1
      replace d1 := HS7.out.2.2.2
      clear hb7 HS6 HCH
      go_wp2_with (fail)
      refine (HLV.out _).mono ?_
      rintro e w8 ⟨rfl, hb8⟩
      have HB8 := Lib.hid (HS7.out.1.trans (hb8.mono HS7.out.1.size))
      clear hb8 HS7 d0 d1
      go_wp2_with (fail)
      go_ret
      exact ⟨rfl, HB8.out⟩
  · have HO := Lib.hid (fun (wx : World) (hx : StC w w1.heap.size N aE m cE es wx) => Colors_bad hg aE m cE wx HLm.out (by omega) hx.2.1)
    have HA := Lib.hid (fun (wx : World) (hx : StC w w1.heap.size N aE m cE es wx) => Apart_bad hg aE m cE wx HLm.out (by omega) hx.2.1)
    have hch : chordE N es = 1 := by rw [chordE, if_neg (by rw [hg]; simp)]
    rw [hch] at HCH
    clear hg hch
    go_wp2_with (fail)
    refine (HO.out _ HS4.out).mono ?_
    rintro e w5 ⟨rfl, hb5⟩
    have HS5 := Lib.hid (HS4.out.next hb5)
    have d0 := HS5.out.2.2.1
    have d1 := HS5.out.2.2.2
    clear hb5 HS4 HO
    go_wp2_with (fail)
    refine (HA.out _ HS5.out).mono ?_
    rintro e w6 ⟨rfl, hb6⟩
    have HS6 := Lib.hid (HS5.out.next hb6)
    replace d0 := HS6.out.2.2.1
    replace d1 := HS6.out.2.2.2
    clear hb6 HS5 HA
    go_wp2_with (fail)
    refine (HCH.out _ HS6.out).mono ?_
    rintro e w7 ⟨rfl, hb7⟩
    have HS7 := Lib.hid (HS6.out.next hb7)
    replace d0 := HS7.out.2.2.1
    replace d1 := HS7.out.2.2.2
    clear hb7 HS6 HCH
    go_wp2_with (fail)
    refine (HLV.out _).mono ?_
    rintro e w8 ⟨rfl, hb8⟩
    have HB8 := Lib.hid (HS7.out.1.trans (hb8.mono HS7.out.1.size))
    clear hb8 HS7 d0 d1
    go_wp2_with (fail)
    go_ret
    exact ⟨rfl, HB8.out⟩

end Go.Proofs.YthlbedhjekbfpaaDoor
