/-
  The walk of 'TopLayers'.
-/
import Derived.Test.YteckeobhlfddlaaAb
import Derived.Test.YteckeobhlfddlaaHd
import Derived.Deep.CutRange
namespace Go.Proofs.Yteckeobhlfddlaa
open Go.RowKit Go.Sort

/-- The strip and its spans, held through the calls. -/
def TS (w : World) (aZ : Option Addr) (zs : List Int) (aS : Option Addr) (sp : List (Int × Int)) (wc : World) : Prop := Below w.heap.size w wc ∧ Ints wc aZ zs ∧ Rib.Edges wc aS sp
theorem intsT_below {w w' : World} {a : Option Addr} {l : List Int} (h : Ints w a l) (hb : Below w.heap.size w w') : Ints w' a l := fun i hi => by
  obtain ⟨b, off, e, hc⟩ := h i hi
  exact ⟨b, off, e, (hb.cell (p := ⟨b, off + i, none⟩) (World.block_lt_of_cell? w _ hc)).trans hc⟩
theorem TS.next {w : World} {aZ : Option Addr} {zs : List Int} {aS : Option Addr} {sp : List (Int × Int)} {wc w' : World} (h : TS w aZ zs aS sp wc) (hb : Below wc.heap.size wc w') : TS w aZ zs aS sp w' := ⟨h.1.trans (hb.mono h.1.size), intsT_below h.2.1 hb, h.2.2.below hb⟩
/-- The edges, while they grow. -/
def ES (w3 : World) (v : Value) (es : List (Int × Int)) (wr : World) : Prop := Below w3.heap.size w3 wr ∧ wr.ownsRow w3.heap.size 31 2 v es.length (Rib.prCells es)
theorem ES.push {w3 W : World} {v : Value} {es : List (Int × Int)} (h : ES w3 v es W) {e : Int × Int} {g cp : Nat} {w' : World} (hr : w'.ownsRow w3.heap.size 31 2 (.slice (some ⟨g, 0, none⟩) (es.length + 1) cp) (es.length + 1) (Rib.prCells (es ++ [e]))) (hg : W.grownBy w' v.ownBlock) :
    ES w3 (.slice (some ⟨g, 0, none⟩) (es.length + 1) cp) (es ++ [e]) w' := ⟨h.1.grown hg h.1.size (fun k hk => (h.2.lt k hk).1), by rw [List.length_append]; exact hr⟩
theorem ES.drew {w3 W : World} {v : Value} {es : List (Int × Int)} (h : ES w3 v es W) (q : Nat) : ES w3 v es (W.drewN q) := ⟨below_drewN h.1 _, h.2⟩
theorem spans_ok {zs : List Int} (hs : ∀ z ∈ zs, 1 ≤ z ∧ z ≤ 5) (h7 : zs.length ≤ 7) : (spTo zs zs.length).all Rib.spanB = true := by
  rw [List.all_eq_true]
  intro x hx
  obtain ⟨i, hi, rfl⟩ := List.mem_map.1 hx
  rw [List.mem_range] at hi
  have h1 := mn_mx (zs := zs) (fun i hi => by rw [List.getElem?_eq_getElem hi, Option.getD_some]; exact (hs _ (List.getElem_mem hi)).1) hi
  have h2 := posAt_small hs i
  have h3 := posAt_small hs (i + 1)
  unfold mnZ mxZ at h1
  obtain ⟨P, hP⟩ : ∃ P, posAt zs i = P := ⟨_, rfl⟩
  obtain ⟨Q, hQ⟩ : ∃ Q, posAt zs (i + 1) = Q := ⟨_, rfl⟩
  rw [spZ, Rib.spanB]
  rw [hP] at h1 h2 ⊢
  rw [hQ] at h1 h3 ⊢
  rw [Bool.and_eq_true, Bool.and_eq_true, decide_eq_true_iff, decide_eq_true_iff, decide_eq_true_iff]
  dsimp only
  omega
theorem spans_at (zs : List Int) {i : Nat} (hi : i < zs.length) : Rib.atS (spTo zs zs.length) i = (2 * mnZ zs i + 1, 2 * mxZ zs i - 1) := by
  rw [Rib.atS, spTo, List.getElem?_map, List.getElem?_range hi]; rfl
theorem spans_dis {zs : List Int} {a b : Nat} (h : ¬ (2 * mnZ zs a + 1 ≤ 2 * mxZ zs b - 1 ∧ 2 * mnZ zs b + 1 ≤ 2 * mxZ zs a - 1)) : DisZ zs a b := by
  have e : DisZ zs a b ↔ mxZ zs a ≤ mnZ zs b ∨ mxZ zs b ≤ mnZ zs a := Iff.rfl
  rw [e]; omega
theorem stripB_of {zs : List Int} (hs : ∀ z ∈ zs, 1 ≤ z ∧ z ≤ 5) (h1 : 1 ≤ zs.length) (h7 : zs.length ≤ 7) : stripB zs = true := by
  have h2 : sizesB zs = true := by
    rw [sizesB, List.all_eq_true]
    intro z hz
    have := hs z hz
    simp only [sizeB, Bool.and_eq_true, decide_eq_true_eq]; omega
  simp [stripB, h2]; omega
/-- 'At' within the count, the row its own. -/
def AtT (zs : List Int) (w : World) (e : Ending) (w' : World) : Prop := ∃ O g cap, O ∈ ordersOf (layCl zs) zs.length ∧ e = .returned (.tuple #[.slice (some ⟨g, 0, none⟩) zs.length cap, .int .i64 0]) ∧ w.heap.size ≤ g ∧ w'.ownsRow 0 3 1 (.slice (some ⟨g, 0, none⟩) zs.length cap) zs.length (intsOf O) ∧ Below w.heap.size w w'
theorem At_T (a : Option Addr) (n cap : Nat) (zs : List Int) (r : Int) (w : World) (hn : zs.length = n) (hz : Ints w a zs) (hs : stripB zs = true) (h0 : 0 ≤ r) (h1 : r < countOf zs) :
    Calls Try.prog 10 #[.slice a n cap, .int .i64 r] w (AtT zs w) := by
  refine (callsIn_wide (n := 5)).1 ((At_good a n cap 5 zs r w hn hz hs).mono ?_)
  rintro e w' ⟨v, err, rfl, hb, hm⟩
  have hr : r.toNat < (ordersOf (layCl zs) zs.length).length := by unfold countOf at h1; omega
  rw [atZ, if_pos h0, List.getElem?_eq_getElem hr] at hm
  obtain ⟨rfl, g, cp, rfl, hg, hr2⟩ := hm
  exact ⟨_, g, cp, List.getElem_mem hr, rfl, hg, hr2, hb⟩
/-- A row of an order's numbers, as cells. -/
theorem row_cells {w : World} {g n cap : Nat} {O : List Nat} (h : w.ownsRow 0 3 1 (.slice (some ⟨g, 0, none⟩) n cap) n (intsOf O)) : ∃ cs : Array Value, w.heap[g]? = some (.cells cs 3 (0, 0)) ∧ cs.toList.take n = intsOf O ∧ n ≤ cs.size := by
  rcases h.2 with ⟨e, _⟩ | ⟨g', cap', cur, e, _, hg, h1, _, h2, h3⟩
  · cases e
  · cases e
    rw [Nat.mul_one] at h2 h3
    exact ⟨cur, hg, h3, by omega⟩
theorem ints_cells' {w : World} {g n : Nat} {O : List Nat} {cs : Array Value} (h : w.heap[g]? = some (.cells cs 3 (0, 0))) (ht : cs.toList.take n = intsOf O) (hl : O.length = n) : Ints w (some ⟨g, 0, none⟩) (O.map fun (x : Nat) => (x : Int)) := fun i hi => by
  have hi' : i < O.length := by simpa using hi
  refine ⟨g, 0, rfl, ?_⟩
  have e : cs[i]? = some (.int .i64 ((O[i] : Nat) : Int)) := by
    have h1 : (cs.toList.take n)[i]? = (intsOf O)[i]? := by rw [ht]
    rw [List.getElem?_take, if_pos (by omega), intsOf, List.getElem?_map, List.getElem?_eq_getElem hi'] at h1
    simpa using h1
  rw [List.getElem?_map, List.getElem?_eq_getElem hi']
  simp only [World.cell?, h, Nat.zero_add]
  simpa using e
/-- The row with two neighbours exchanged. -/
theorem swap_cells {n k : Nat} {O : List Nat} {cs : Array Value} (ht : cs.toList.take n = intsOf O) (hl : O.length = n) (hk : k + 1 < n) (hc : n ≤ cs.size) :
    (((cs.setIfInBounds k (.int .i64 ((O[k + 1]?.getD 0 : Nat) : Int))).setIfInBounds (k + 1) (.int .i64 ((O[k]?.getD 0 : Nat) : Int))).toList.take n) = intsOf (swapO O k) := by
  rw [Array.toList_setIfInBounds, Array.toList_setIfInBounds, List.take_set, List.take_set, ht]
  unfold swapO intsOf
  rw [List.map_set, List.map_set]

/-- An order's own row, held through the calls. -/
def OT (w8 : World) (gO : Nat) (cs : Array Value) (wx : World) : Prop := Below w8.heap.size w8 wx ∧ wx.heap[gO]? = some (.cells cs 3 (0, 0))
theorem OT.next {w8 : World} {gO : Nat} {cs : Array Value} {wx w' : World} (h : OT w8 gO cs wx) (hb : Below wx.heap.size wx w') : OT w8 gO cs w' := ⟨h.1.trans (hb.mono h.1.size), (hb.block _ (Array.getElem?_eq_some_iff.1 h.2).1).trans h.2⟩
theorem OT.cell {w8 : World} {gO n : Nat} {cs : Array Value} {wx : World} {O : List Nat} (h : OT w8 gO cs wx) (ht : cs.toList.take n = intsOf O) (hl : O.length = n) {i : Nat} (hi : i < n) : wx.cell? ⟨gO, i, none⟩ = some (.int .i64 ((O[i]?.getD 0 : Nat) : Int)) := by
  obtain ⟨b, o, e, hc⟩ := ints_cells' h.2 ht hl i (by rw [List.length_map]; omega)
  cases e
  rw [Nat.zero_add] at hc
  rw [hc, List.getElem?_map, List.getElem?_eq_getElem (by omega)]
  rfl
theorem OT.swap {w8 : World} {gO : Nat} {cs : Array Value} {wx : World} (h : OT w8 gO cs wx) (hg : w8.heap.size ≤ gO) (k : Nat) (u v : Value) : OT w8 gO ((cs.setIfInBounds k u).setIfInBounds (k + 1) v) ((wx.setCell ⟨gO, k, none⟩ u).setCell ⟨gO, k + 1, none⟩ v) :=
  ⟨(h.1.setCell (p := ⟨gO, k, none⟩) hg u).setCell (p := ⟨gO, k + 1, none⟩) hg v, heap_setCell_self (heap_setCell_self h.2 u) v⟩

set_option maxRecDepth 100000 in
set_option maxHeartbeats 8000000 in
theorem TopLayers_any (a : Option Addr) (m0 cap : Nat) (xs : List Int) (x1 x2 : Int) (w : World) (hl : xs.length = m0) (hm : m0 ≤ 9223372036854775807) (he : Ints w a xs) (hx1 : 0 ≤ x1 ∧ x1 ≤ 65535) (hx2 : 0 ≤ x2 ∧ x2 ≤ 65535) :
    Calls Try.prog 3 #[.slice a m0 cap, .int .u16 x1, .int .u16 x2] w fun e w' => e = .returned (.bool true) ∧ Below w.heap.size w w' := by
  have HST := Lib.hid (strip_any a m0 cap xs w hl hm he)
  clear hl hm he
  go_enter Try.func3, Try.ntmps3
  go_wp2_with (go_at_call 4; refine HST.out.mono ?_; rintro e w1 ⟨g, c, zs, hn, hzs, rfl, hz1, hb1⟩; have H1 := Lib.hid (And.intro hz1 hb1); clear hz1 hb1)
  obtain ⟨h1, h7⟩ := hn
  have HSP := Lib.hid (spans_any (some ⟨g, 0, none⟩) zs.length c zs w1 rfl h1 h7 hzs H1.out.1)
  have HSB := Lib.hid (stripB_of hzs h1 h7)
  have HSO := Lib.hid (spans_ok hzs h7)
  have HAT := Lib.hid (fun (i : Nat) (hi : i < zs.length) => spans_at zs hi)
  have HSW := Lib.hid (fun (O : List Nat) (k : Nat) (hO : O ∈ ordersOf (layCl zs) zs.length) (hk : k + 1 < zs.length) (hd : DisZ zs (O[k]?.getD 0) (O[k + 1]?.getD 0)) => swap_folds (fun i hi => by rw [List.getElem?_eq_getElem hi, Option.getD_some]; exact (hzs _ (List.getElem_mem hi)).1) hO hk hd)
  have HSL := Lib.hid (spTo_len zs zs.length)
  unfold SpansT at HSP
  obtain ⟨n, hn⟩ : ∃ n, zs.length = n := ⟨_, rfl⟩
  obtain ⟨sp, hsp⟩ : ∃ sp, spTo zs n = sp := ⟨_, rfl⟩
  rw [hn] at HSP HSO HAT HSW HSL h1 h7 ⊢
  rw [hsp] at HSP HSO HAT HSL
  have HN := Lib.hid hn
  clear HST hzs hn hsp
  go_wp2_with (go_at_call 5; refine HSP.out.mono ?_; rintro e w2 ⟨g2, c2, rfl, hs2, hb2⟩; have H2 : Hid (TS w (some ⟨g, 0, none⟩) zs (some ⟨g2, 0, none⟩) sp w2) := Lib.hid ⟨H1.out.2.trans (hb2.mono H1.out.2.size), intsT_below H1.out.1 hb2, hs2⟩; clear hs2 hb2)
  have HE0 : Hid (ES w2 (.slice (some ⟨w2.heap.size, 0, none⟩) 0 0) [] (w2.alloc (.cells #[] 31))) := Lib.hid ⟨(Below.refl _ w2).alloc (Nat.le_refl _) _, rfl, .inr ⟨w2.heap.size, 0, #[], rfl, Nat.le_refl _, heap_alloc_new w2 _, Nat.le_refl _, by unfold maxLen; omega, rfl, rfl⟩⟩
  clear HSP H1
  go_loopw [10, 11, 9] (fun i _ v wr => ∃ (k cE mE : Nat) (aE : Option Addr) (es : List (Int × Int)), k ≤ n ∧ i = .int .i64 k ∧ v = .slice aE mE cE ∧ es.length = mE ∧ Hid (Rib.OvI sp n es k 0) ∧ Hid (ES w2 (.slice aE mE cE) es wr)) (fun i _ _ _ => n - (intOf i).toNat)
  case atStart => exact ⟨0, 0, 0, _, [], Nat.zero_le _, rfl, rfl, rfl, Lib.hid (Rib.OvI.zero sp h1 (by omega)), HE0⟩
  case round =>
    obtain ⟨k, cE, mE, aE, es, hk, rfl, rfl, hmE, HOV, HO⟩ := hrel
    by_cases hlt : k < n
    · have hkn : (k : Int) < (n : Int) := by omega
      have HO1 := Lib.hid (HOV.out.row (Nat.zero_le _))
      clear HOV
      go_wp2
      go_loopw [11, 9] (fun j v wi => ∃ (b cE mE : Nat) (aE : Option Addr) (es : List (Int × Int)), k + 1 ≤ b ∧ b ≤ n ∧ j = .int .i64 b ∧ v = .slice aE mE cE ∧ es.length = mE ∧ Hid (Rib.OvI sp n es k b) ∧ Hid (ES w2 (.slice aE mE cE) es wi)) (fun j _ _ => n - (intOf j).toNat)
      case atStart => exact ⟨k + 1, cE, mE, aE, es, Nat.le_refl _, by omega, by go_num, rfl, hmE, HO1, HO⟩
      case round =>
        rename World => w6
        clear HO HO1 hmE
        obtain ⟨b, cE, mE, aE, es, hkb, hb, rfl, rfl, hmE, HOV, HO⟩ := hrel
        by_cases hltb : b < n
        · have hbn : (b : Int) < (n : Int) := by omega
          have hsp6 := H2.out.2.2.below HO.out.1
          rcases hsp6 with h0 | ⟨bS, oS, eS, hcS⟩
          · have := HSL.out; rw [h0] at this; simp at this; omega
          cases eS
          obtain ⟨c0, c1⟩ := hcS k (by rw [HSL.out]; exact hlt)
          obtain ⟨e0, e1⟩ := hcS b (by rw [HSL.out]; exact hltb)
          have hSK := HOV.out.skip (b := b)
          have hMO := HOV.out.more (b := b) (by omega) hltb
          have HEL : mE ≤ 1000 := by have := HOV.out.few; omega
          obtain ⟨p, hp⟩ : ∃ p, sp[k]?.getD (0, 0) = p := ⟨_, rfl⟩
          obtain ⟨q, hq⟩ : ∃ q, sp[b]?.getD (0, 0) = q := ⟨_, rfl⟩
          obtain ⟨p1, p2⟩ := p
          obtain ⟨y1, y2⟩ := q
          have hmt : Rib.meetB (Rib.atS sp k) (Rib.atS sp b) = (decide (p1 ≤ y2) && decide (y1 ≤ p2)) := by unfold Rib.atS; rw [hp, hq]; rfl
          rw [hmt] at hSK hMO
          have HSK := Lib.hid hSK
          have HMO := Lib.hid hMO
          rw [hp] at c0 c1
          rw [hq] at e0 e1
          rw [Nat.zero_add] at c0 c1 e0 e1
          simp only [] at c0 c1 e0 e1
          clear hcS hp hq hmt HOV hSK hMO
          rcases Bool.eq_false_or_eq_true (decide (p1 ≤ y2)) with q1 | q1 <;> rcases Bool.eq_false_or_eq_true (decide (y1 ≤ p2)) with q2 | q2
          · rw [q1, q2] at HMO
            have HMO2 := Lib.hid (HMO.out rfl)
            clear HMO HSK
            go_wp2
            go_quiet (fail)
            have HO5 := Lib.hid (HO.out.drew nq)
            generalize w6.drewN nq = w5 at HO5 ⊢
            clear c0 c1 e0 e1 HO q1 q2
            have hsz5 := HO5.out.1.size
            subst hmE
            go_wp2_with (at_builtin; refine wpList_app_pairT rfl (.tmp 74) (.tmp 78) rfl w2.heap.size (.slice aE es.length cE) _ es rfl (k : Int) (b : Int) _ rfl (by simp) HO5.out.2 (by omega) hsz5 ?_; intro G cp w7 hr7 hg7; have H7 := Lib.hid (HO5.out.push hr7 hg7); clear hr7 hg7)
            go_roundw
            case rel => exact ⟨b + 1, cp, _, _, _, by omega, by omega, by go_num, rfl, by simp, HMO2, H7⟩
            case measure => simp [intOf]; omega
          all_goals
            rw [q1, q2] at HSK
            have HSK2 := Lib.hid (HSK.out rfl)
            clear HMO HSK
            go_wp2
            go_quiet (fail)
            have HO5 := Lib.hid (HO.out.drew nq)
            generalize w6.drewN nq = w5 at HO5 ⊢
            clear c0 c1 e0 e1 HO q1 q2
            go_wp2
            go_roundw
            case rel => exact ⟨b + 1, cE, mE, aE, es, by omega, by omega, by go_num, rfl, hmE, HSK2, HO5⟩
            case measure => simp [intOf]; omega
        · obtain rfl : b = n := by omega
          have HDN := Lib.hid (HOV.out.done (by omega))
          clear HOV
          go_wp2
          go_roundw
          case rel => exact ⟨k + 1, cE, mE, aE, es, by omega, by go_num, rfl, hmE, HDN, HO⟩
          case measure => simp [intOf]; omega
    · obtain rfl : k = n := by omega
      have HS4 : Hid (TS w (some ⟨g, 0, none⟩) zs (some ⟨g2, 0, none⟩) sp wr) := Lib.hid (H2.out.next HO.out.1)
      have HE4 : Hid (Rib.Edges wr aE es) := Lib.hid (by have := HO.out.2; rw [hmE] at this; exact Rib.Edges.of_owns this)
      have hel : mE ≤ 1000 := by have := HOV.out.few; omega
      have HLE := Lib.hid hmE
      have hmt := HOV.out.match
      have hrep := Rib.match_rep HSL.out HSO.out hmt
      obtain ⟨n', gs, hnn, g1, g2', hadj, hgood⟩ := Rib.graphOf_good HOV.out.ok
      obtain rfl : k = n' := by omega
      have hgc : ∀ (wx : World), Rib.Edges wx aE es → Calls Try.prog 14 #[.int .i64 k, .slice aE mE cE] wx (Rib.GoodG k gs wx) := fun wx hx => hgood _ _ _ _ HLE.out (by omega) hx
      have HMT := Lib.hid (fun (wx : World) (hx : Rib.Edges wx aE es) (hy : Rib.Edges wx (some ⟨g2, 0, none⟩) sp) => Rib.Matches_any k aE (some ⟨g2, 0, none⟩) mE cE k c2 k gs sp wx rfl g2' hadj.len (fun i _ => hadj.lt16 g2' i) HSL.out (by omega) hy (hgc wx hx))
      have HSP := Lib.hid (fun (wx : World) (hx : Rib.Edges wx aE es) => (Rib.Spans_any k aE mE cE es k gs wx rfl g1 g2' hadj (hgc wx hx) (Rib.cliques_some hadj g2')).mono fun e w' hv => Rib.SpansV.ok hadj g1 g2' hrep hv)
      have HOR := Lib.hid (fun (wx : World) (hx : Rib.Edges wx aE es) => (Rib.Order_any k aE mE cE es k gs wx rfl g2' hadj (hgc wx hx)).mono fun e w' hv => Rib.OrderV.ok hadj g2' hrep hv)
      simp only [Rib.match_same hadj HSL.out HSO.out, hmt, HSO.out, decide_true, Bool.and_self, if_true] at HMT
      have HCT := Lib.hid (fun (wx : World) (hz : Ints wx (some ⟨g, 0, none⟩) zs) => (callsIn_wide (n := 5)).1 (Count_good (some ⟨g, 0, none⟩) k c 5 zs wx HN.out hz HSB.out))
      have hcp := count_pos zs
      have hcl : countOf zs ≤ 387420489 := ordersOf_le _ _ (by have := HN.out; omega)
      have HAO := Lib.hid (fun (r : Int) (wx : World) (hz : Ints wx (some ⟨g, 0, none⟩) zs) (h0 : 0 ≤ r) (h1 : r < countOf zs) => At_T (some ⟨g, 0, none⟩) k c zs r wx HN.out hz HSB.out h0 h1)
      unfold AtT at HAO
      rw [HN.out] at HAO
      obtain ⟨C, hC⟩ : ∃ C, countOf zs = C := ⟨_, rfl⟩
      rw [hC] at HCT HAO hcp hcl
      have HSZ := Lib.hid (fun (O : List Nat) (hO : O ∈ ordersOf (layCl zs) k) => show creasesZ zs (O.map fun (x : Nat) => (x : Int)) = (crsOf zs O, 0) from creasesZ_of HSB.out (by rw [HN.out]; exact hO))
      have HFZ := Lib.hid (fun (O : List Nat) (hO : O ∈ ordersOf (layCl zs) k) => show foldsZ zs (O.map fun (x : Nat) => (x : Int)) = (true, 0) from by
        obtain ⟨o1, o2, o3, o4⟩ := mem_orders.1 hO
        have hN := HN.out
        subst hN
        rw [foldsZ, if_pos HSB.out, if_pos (orderB_of o1 o2 o3), toNat_back, o4])
      clear HOV HO HE0 hmt hrep hgood hadj hgc hnn hmE hC hlt
      go_wp2_with (fail)
      refine (HMT.out _ HE4.out HS4.out.2.2).mono ?_
      rintro e w5 ⟨rfl, hb5⟩
      have HS5 := Lib.hid (HS4.out.next hb5)
      have HE5 := Lib.hid (HE4.out.below hb5)
      clear hb5 HS4 HE4 HMT
      go_wp2_with (fail)
      refine (HSP.out _ HE5.out).mono ?_
      rintro e w6 ⟨v6, rfl, hb6⟩
      have HS6 := Lib.hid (HS5.out.next hb6)
      have HE6 := Lib.hid (HE5.out.below hb6)
      clear hb6 HS5 HE5 HSP
      go_wp2_with (fail)
      refine (HOR.out _ HE6.out).mono ?_
      rintro e w7 ⟨v7, rfl, hb7⟩
      have HS7 := Lib.hid (HS6.out.next hb7)
      clear hb7 HS6 HE6 HOR
      go_wp2_with (fail)
      refine (HCT.out _ HS7.out.2.1).mono ?_
      rintro e w8 ⟨rfl, hb8⟩
      have HS8 := Lib.hid (HS7.out.next hb8)
      clear hb8 HS7 HCT
      have hc1 : ¬ (C : Int) < 1 := by omega
      have hcne : ¬ (C : Int) = 0 := by omega
      have hr0 : 0 ≤ x1 % (C : Int) := Int.emod_nonneg _ (by omega)
      have hr1 : x1 % (C : Int) < C := Int.emod_lt_of_pos _ (by omega)
      have htm : x1.tmod (C : Int) = x1 % (C : Int) := Int.tmod_eq_emod_of_nonneg hx1.1
      obtain ⟨r, hr⟩ : ∃ r, x1 % (C : Int) = r := ⟨_, rfl⟩
      rw [hr] at hr0 hr1 htm
      go_wp2_with (fail)
      refine (HAO.out r _ HS8.out.2.1 hr0 hr1).mono ?_
      rintro e w9 ⟨O, gO, cO, hO, rfl, hgO, hown, hb9⟩
      obtain ⟨cs, hcs, htk, hcz⟩ := row_cells hown
      obtain ⟨o1, o2, o3, _⟩ := mem_orders.1 hO
      have HO9 : Hid (OT w8 gO cs w9) := Lib.hid ⟨hb9, hcs⟩
      have HTK := Lib.hid htk
      have HOL := Lib.hid o3
      have HCZ := Lib.hid hcz
      have HOV := Lib.hid (fun (i : Nat) (hi : i < k) => show O[i]?.getD 0 < k from by rw [List.getElem?_eq_getElem (by omega), Option.getD_some]; exact o2 _ (List.getElem_mem (by omega)))
      have HGO := Lib.hid hgO
      have HCR := Lib.hid (fun (O : List Nat) (hO : O ∈ ordersOf (layCl zs) k) (hl : O.length = k) (g' c' : Nat) (wx : World) (hz : Ints wx (some ⟨g, 0, none⟩) zs) (hi : Ints wx (some ⟨g', 0, none⟩) (O.map fun (x : Nat) => (x : Int))) =>
        Creases_any (some ⟨g, 0, none⟩) (some ⟨g', 0, none⟩) k c k c' zs (O.map fun (x : Nat) => (x : Int)) wx (crsOf zs O) 0 HN.out (by omega) hz (by rw [List.length_map]; exact hl) (by omega) hi (HSZ.out O hO))
      have HFO := Lib.hid (fun (O : List Nat) (hO : O ∈ ordersOf (layCl zs) k) (hl : O.length = k) (g' c' : Nat) (wx : World) (hz : Ints wx (some ⟨g, 0, none⟩) zs) (hi : Ints wx (some ⟨g', 0, none⟩) (O.map fun (x : Nat) => (x : Int))) =>
        Folds_any (some ⟨g, 0, none⟩) (some ⟨g', 0, none⟩) k c k c' zs (O.map fun (x : Nat) => (x : Int)) wx true 0 HN.out (by omega) hz (by rw [List.length_map]; exact hl) (by omega) hi (HFZ.out O hO))
      have HMO := Lib.hid hO
      clear hO hown hb9 hcs htk hcz o1 o2 o3 hgO HSZ HFZ HAO htm hr hr0 hr1
      go_wp2_with (fail)
      refine (HCR.out O HMO.out HOL.out gO cO w9 (intsT_below HS8.out.2.1 HO9.out.1) (ints_cells' HO9.out.2 HTK.out HOL.out)).mono ?_
      rintro e w10 ⟨rfl, hb10⟩
      have HO10 := Lib.hid (HO9.out.next hb10)
      clear hb10 HO9
      obtain ⟨X, hX⟩ : ∃ X, crsOf zs O = X := ⟨_, rfl⟩
      rw [hX]
      have HX := Lib.hid hX
      clear hX
      by_cases hk2 : k < 2
      · have hk2' : (k : Int) < 2 := by omega
        go_wp2
        go_ret
        exact ⟨rfl, HS8.out.1.trans (HO10.out.1.mono HS8.out.1.size)⟩
      · have hk2' : ¬ (k : Int) < 2 := by omega
        have hd0 : 0 ≤ x2 % ((k : Int) - 1) := Int.emod_nonneg _ (by omega)
        have hd1 : x2 % ((k : Int) - 1) < (k : Int) - 1 := Int.emod_lt_of_pos _ (by omega)
        have htm : x2.tmod ((k : Int) - 1) = x2 % ((k : Int) - 1) := Int.tmod_eq_emod_of_nonneg hx2.1
        have hkne : ¬ (k : Int) - 1 = 0 := by omega
        obtain ⟨d, hd⟩ : ∃ d : Nat, x2 % ((k : Int) - 1) = d := ⟨(x2 % ((k : Int) - 1)).toNat, by omega⟩
        rw [hd] at hd0 hd1 htm
        have hdk : d + 1 < k := by omega
        have c0 := HO10.out.cell HTK.out HOL.out (i := d) (by omega)
        have c1 := HO10.out.cell HTK.out HOL.out (i := d + 1) hdk
        have hA := HOV.out d (by omega)
        have hB := HOV.out (d + 1) hdk
        have HSW2 := Lib.hid (fun h => HSW.out O d HMO.out hdk h)
        have HSC := Lib.hid (swap_cells HTK.out HOL.out hdk HCZ.out)
        have HSLn : Hid ((swapO O d).length = k) := Lib.hid (by rw [swapO_len]; exact HOL.out)
        obtain ⟨A, hA'⟩ : ∃ A, O[d]?.getD 0 = A := ⟨_, rfl⟩
        obtain ⟨B, hB'⟩ : ∃ B, O[d + 1]?.getD 0 = B := ⟨_, rfl⟩
        rw [hA'] at c0 hA HSW2 HSC
        rw [hB'] at c1 hB HSW2 HSC
        have hdI : (d : Int) < (k : Int) := by omega
        have hdI2 : (d : Int) + 1 < (k : Int) := by omega
        clear hA' hB' hd
        go_wp2
        go_quiet (fail)
        have HO11 := Lib.hid (HO10.out.next (below_drewN (Below.refl _ _) nq))
        generalize w10.drewN nq = w11 at HO11 ⊢
        clear c0 c1 HO10
        have hsp := HS8.out.2.2.below HO11.out.1
        rcases hsp with h0 | ⟨bS, oS, eS, hcS⟩
        · have := HSL.out; rw [h0] at this; simp at this; omega
        cases eS
        obtain ⟨c0, c1⟩ := hcS A (by rw [HSL.out]; exact hA)
        obtain ⟨e0, e1⟩ := hcS B (by rw [HSL.out]; exact hB)
        have ea := HAT.out A hA
        have eb := HAT.out B hB
        unfold Rib.atS at ea eb
        rw [ea] at c0 c1
        rw [eb] at e0 e1
        rw [Nat.zero_add] at c0 c1 e0 e1
        simp only [] at c0 c1 e0 e1
        have HDS := Lib.hid (fun h => spans_dis (zs := zs) (a := A) (b := B) h)
        obtain ⟨p1, hp1⟩ : ∃ p1, 2 * mnZ zs A + 1 = p1 := ⟨_, rfl⟩
        obtain ⟨p2, hp2⟩ : ∃ p2, 2 * mxZ zs A - 1 = p2 := ⟨_, rfl⟩
        obtain ⟨y1, hy1⟩ : ∃ y1, 2 * mnZ zs B + 1 = y1 := ⟨_, rfl⟩
        obtain ⟨y2, hy2⟩ : ∃ y2, 2 * mxZ zs B - 1 = y2 := ⟨_, rfl⟩
        rw [hp1] at c0 HDS
        rw [hp2] at c1 HDS
        rw [hy1] at e0 HDS
        rw [hy2] at e1 HDS
        have hAI : (A : Int) < (k : Int) := by omega
        have hBI : (B : Int) < (k : Int) := by omega
        clear hcS ea eb hp1 hp2 hy1 hy2
        rcases Bool.eq_false_or_eq_true (decide (p1 ≤ y2)) with q1 | q1 <;> rcases Bool.eq_false_or_eq_true (decide (y1 ≤ p2)) with q2 | q2
        · go_wp2
          go_quiet (fail)
          have HO12 := Lib.hid (HO11.out.next (below_drewN (Below.refl _ _) nq))
          clear c0 c1 e0 e1
          go_wp2
          go_ret
          exact ⟨rfl, HS8.out.1.trans (HO12.out.1.mono HS8.out.1.size)⟩
        all_goals
          have HDZ := Lib.hid (HDS.out (by simp only [decide_eq_true_eq, decide_eq_false_iff_not] at q1 q2; omega))
          have HSF := Lib.hid (HSW2.out HDZ.out)
          go_wp2
          go_quiet (fail)
          have HO12 := Lib.hid (HO11.out.next (below_drewN (Below.refl _ _) nq))
          generalize w11.drewN nq = w12 at HO12 ⊢
          clear c0 c1 e0 e1 HO11 q1 q2
          have c0 := HO12.out.cell HTK.out HOL.out (i := d) (by omega)
          have c1 := HO12.out.cell HTK.out HOL.out (i := d + 1) hdk
          have f0 : w12.frozen? ⟨gO, d, none⟩ = false := row_free HO12.out.2 d
          have f1 : w12.frozen? ⟨gO, d + 1, none⟩ = false := row_free HO12.out.2 (d + 1)
          have HO13 := Lib.hid (HO12.out.swap HGO.out d (.int .i64 (B : Int)) (.int .i64 (A : Int)))
          go_wp2_with (fail)
          refine (HFO.out (swapO O d) HSF.out.1 HSLn.out gO cO _ (intsT_below HS8.out.2.1 HO13.out.1) (ints_cells' HO13.out.2 HSC.out HSLn.out)).mono ?_
          rintro e w14 ⟨rfl, hb14⟩
          have HO14 := Lib.hid (HO13.out.next hb14)
          clear hb14 HO13 HO12 c0 c1 f0 f1
          go_wp2_with (fail)
          refine (HCR.out (swapO O d) HSF.out.1 HSLn.out gO cO _ (intsT_below HS8.out.2.1 HO14.out.1) (ints_cells' HO14.out.2 HSC.out HSLn.out)).mono ?_
          rintro e w15 ⟨rfl, hb15⟩
          have HO15 := Lib.hid (HO14.out.next hb15)
          rw [HSF.out.2, HX.out]
          clear hb15 HO14
          go_wp2_with (fail)
          go_ret
          exact ⟨rfl, HS8.out.1.trans (HO15.out.1.mono HS8.out.1.size)⟩

end Go.Proofs.Yteckeobhlfddlaa
