/-
  Spans of nodes: the walks of 'areSpans', 'matches', 'Matches', and of the reference's 'Spans' and 'Matches'.
-/
import Derived.Test.YteckeobhlfddlaaRl
namespace Go.Proofs.Yteckeobhlfddlaa.Rib
open Go.RowKit Go.Sort

theorem lt_rowG {w : World} {g : Nat} {gs : List Nat} (h : RowG w g gs) : g < w.heap.size := (Array.getElem?_eq_some_iff.1 h).1
def spanB (p : Int × Int) : Bool := decide (-1000 ≤ p.1) && (decide (p.1 ≤ p.2) && decide (p.2 ≤ 1000))
def meetB (p q : Int × Int) : Bool := decide (p.1 ≤ q.2) && decide (q.1 ≤ p.2)
def atS (sp : List (Int × Int)) (i : Nat) : Int × Int := sp[i]?.getD (0, 0)
/-- The program's 'matches', and the reference's. -/
def matchAt (gs : List Nat) (sp : List (Int × Int)) (a b : Nat) : Bool := (gs[a]?.getD 0).testBit b == meetB (atS sp a) (atS sp b)
def matchB (gs : List Nat) (sp : List (Int × Int)) : Bool := (List.range sp.length).all fun a => (List.range sp.length).all (matchAt gs sp a)
def matchRAt (es sp : List (Int × Int)) (a b : Nat) : Bool := nearB es a b == meetB (atS sp a) (atS sp b)
def matchR (es sp : List (Int × Int)) (n : Nat) : Bool := (List.range n).all fun a => (List.range a).all (matchRAt es sp a)
theorem meetB_comm (p q : Int × Int) : meetB p q = meetB q p := by unfold meetB; rw [Bool.and_comm]
theorem atS_ok {sp : List (Int × Int)} (h : sp.all spanB = true) {i : Nat} (hi : i < sp.length) : (atS sp i).1 ≤ (atS sp i).2 := by
  have := List.all_eq_true.1 h _ (List.getElem_mem hi)
  simp only [spanB, Bool.and_eq_true, decide_eq_true_eq] at this
  rw [atS, List.getElem?_eq_getElem hi]
  exact this.2.1
theorem match_same {n : Nat} {gs : List Nat} {es : List (Int × Int)} (h : Adj n gs es) {sp : List (Int × Int)} (hl : sp.length = n) (hs : sp.all spanB = true) : matchB gs sp = matchR es sp n := by
  rw [Bool.eq_iff_iff, matchB, matchR, hl]
  simp only [List.all_eq_true, List.mem_range]
  constructor
  · intro k a ha b hb
    have := k a ha b (by omega)
    rw [matchAt, h.bit a b ha, decide_eq_false (by omega : ¬ a = b), Bool.false_or] at this
    exact this
  · intro k a ha b hb
    rw [matchAt, h.bit a b ha]
    rcases Nat.lt_trichotomy a b with h1 | h1 | h1
    · have := k b hb a h1
      rw [matchRAt, nearB_comm, meetB_comm] at this
      rw [decide_eq_false (by omega : ¬ a = b), Bool.false_or]
      exact this
    · subst h1
      have := atS_ok hs (i := a) (by omega)
      simp [meetB, this]
    · rw [decide_eq_false (by omega : ¬ a = b), Bool.false_or]
      exact k a ha b h1
set_option maxRecDepth 100000 in
set_option maxHeartbeats 4000000 in
theorem areSpans_any (a : Option Addr) (m cap : Nat) (sp : List (Int × Int)) (w : World) (hl : sp.length = m) (hm : m ≤ 1000) (he : Edges w a sp) :
    Calls Try.prog 15 #[.slice a m cap] w fun e w' => e = .returned (.bool (sp.all spanB)) ∧ Below w.heap.size w w' := by
  have HE := Lib.hid he
  have HL := Lib.hid hl
  clear he hl
  go_enter Try.func15, Try.ntmps15
  go_wp2
  go_loopw [7, 4] (fun i _ wr => ∃ k : Nat, k ≤ m ∧ i = .int .i64 k ∧ Hid ((sp.take k).all spanB = true) ∧ Hid (Below w.heap.size w wr)) (fun i _ _ => m - (intOf i).toNat)
  case atStart => exact ⟨0, Nat.zero_le _, rfl, Lib.hid rfl, Lib.hid (Below.refl _ _)⟩
  case round =>
    obtain ⟨k, hk, rfl, HA, HW⟩ := hrel
    by_cases hlt : k < m
    · have hkL : k < sp.length := by rw [HL.out]; exact hlt
      rcases HE.out with h | ⟨b, off, rfl, hc⟩
      · subst h; simp at hkL
      obtain ⟨c0, c1⟩ := hc k hkL
      replace c0 := (HW.out.cell (p := ⟨b, off + k * 2, none⟩) (World.block_lt_of_cell? w _ c0)).trans c0
      replace c1 := (HW.out.cell (p := ⟨b, off + k * 2 + 1, none⟩) (World.block_lt_of_cell? w _ c1)).trans c1
      have HNX := Lib.hid (all_take_next spanB sp k hkL HA.out)
      have HST := Lib.hid (all_at_false spanB sp k hkL)
      have hgt : sp[k]?.getD (0, 0) = sp[k] := by rw [List.getElem?_eq_getElem hkL]; rfl
      rw [hgt] at c0 c1
      obtain ⟨p, hp⟩ : ∃ p, sp[k] = p := ⟨_, rfl⟩
      rw [hp] at c0 c1 HNX HST
      obtain ⟨x, y⟩ := p
      simp only [] at c0 c1
      have hkm : (k : Int) < (m : Int) := by omega
      have HBX : Hid (Below w.heap.size w (wr.alloc (.cells #[.int .i64 x, .int .i64 y] 29))) := Lib.hid (HW.out.alloc HW.out.size _)
      clear hc hgt hp
      by_cases e1 : x < -1000
      · have HF := Lib.hid (HST.out (by simp [spanB]; omega))
        go_wp2
        go_ret
        exact ⟨ret_bool HF.out.symm, HBX.out⟩
      · by_cases e2 : y < x
        · have HF := Lib.hid (HST.out (by simp [spanB]; omega))
          go_wp2
          go_ret
          exact ⟨ret_bool HF.out.symm, HBX.out⟩
        · by_cases e3 : 1000 < y
          · have HF := Lib.hid (HST.out (by simp [spanB]; omega))
            go_wp2
            go_ret
            exact ⟨ret_bool HF.out.symm, HBX.out⟩
          · have HF := Lib.hid (HNX.out (by simp [spanB]; omega))
            go_wp2
            go_roundw
            case rel => exact ⟨k + 1, by omega, by go_num, HF, HBX⟩
            case measure => simp [intOf]; omega
    · obtain rfl : k = m := by omega
      go_wp2
      go_ret
      refine ⟨ret_bool (Eq.symm ?_), HW.out⟩
      have := HA.out
      rwa [List.take_of_length_le (by rw [HL.out]; exact Nat.le_refl _)] at this

set_option maxRecDepth 100000 in
set_option maxHeartbeats 8000000 in
theorem matches_any (a aS : Option Addr) (n cap cS : Nat) (gs : List Nat) (sp : List (Int × Int)) (w : World) (hn : gs.length = n) (hm : n ≤ 12) (hg : ∀ i, i < n → gs[i]?.getD 0 < 65536) (hz : Sets w a gs) (hl : sp.length = n) (he : Edges w aS sp) :
    Calls Try.prog 16 #[.slice a n cap, .slice aS n cS] w fun e w' => e = .returned (.bool (matchB gs sp)) ∧ Below w.heap.size w w' := by
  have HE := Lib.hid he
  have HZ := Lib.hid hz.at
  have HN := Lib.hid hn
  have HL := Lib.hid hl
  have HG := Lib.hid hg
  have HV : Hid (matchB gs sp = (List.range n).all fun a => (List.range n).all (matchAt gs sp a)) := Lib.hid (by rw [matchB, hl])
  clear he hl hz hn hg
  go_enter Try.func16, Try.ntmps16
  go_wp2
  go_loopw [11, 5, 6, 7, 8] (fun i _ _ _ _ wr => ∃ k : Nat, k ≤ n ∧ i = .int .i64 k ∧ Hid ((List.range k).all (fun a => (List.range n).all (matchAt gs sp a)) = true) ∧ Hid (Below w.heap.size w wr)) (fun i _ _ _ _ _ => n - (intOf i).toNat)
  case atStart => exact ⟨0, Nat.zero_le _, rfl, Lib.hid rfl, Lib.hid (Below.refl _ _)⟩
  case round =>
    obtain ⟨k, hk, rfl, HA, HW⟩ := hrel
    by_cases hlt : k < n
    · have hkL : k < sp.length := by rw [HL.out]; exact hlt
      rcases HE.out with h | ⟨b, off, rfl, hc⟩
      · subst h; simp at hkL
      rcases HZ.out with h | ⟨bg, og, rfl, hcg⟩
      · have := HN.out; subst h; simp at this; omega
      have HC := Lib.hid hc
      obtain ⟨c0, c1⟩ := hc k hkL
      have cg := hcg k (by rw [HN.out]; exact hlt)
      have HCG := Lib.hid cg
      have hgk := HG.out k hlt
      replace c0 := (HW.out.cell (p := ⟨b, off + k * 2, none⟩) (World.block_lt_of_cell? w _ c0)).trans c0
      replace c1 := (HW.out.cell (p := ⟨b, off + k * 2 + 1, none⟩) (World.block_lt_of_cell? w _ c1)).trans c1
      have HM : Hid (∀ j, matchAt gs sp k j = ((gs[k]?.getD 0).testBit j == (decide ((sp[k]?.getD (0, 0)).1 ≤ (sp[j]?.getD (0, 0)).2) && decide ((sp[j]?.getD (0, 0)).1 ≤ (sp[k]?.getD (0, 0)).2)))) := Lib.hid (fun j => rfl)
      obtain ⟨u, hu⟩ : ∃ u, gs[k]?.getD 0 = u := ⟨_, rfl⟩
      obtain ⟨p, hp⟩ : ∃ p, sp[k]?.getD (0, 0) = p := ⟨_, rfl⟩
      obtain ⟨x1, x2⟩ := p
      rw [hp] at c0 c1
      rw [hu] at HCG hgk
      simp only [hp, hu] at HM
      simp only [] at c0 c1
      have hkn : (k : Int) < (n : Int) := by omega
      have HNXT := Lib.hid (fun h => range_next (fun a => (List.range n).all (matchAt gs sp a)) k HA.out h)
      have HSTP := Lib.hid (fun h => range_false (fun a => (List.range n).all (matchAt gs sp a)) n k hlt h)
      obtain ⟨bk, hbk⟩ : ∃ bk, wr.heap.size = bk := ⟨_, rfl⟩
      clear hc hcg hp hu cg
      go_wp2
      have HB1 : Hid (Below w.heap.size w (wr.alloc (.cells #[.int .i64 x1, .int .i64 x2] 29))) := Lib.hid (HW.out.alloc HW.out.size _)
      have d0 : (wr.alloc (.cells #[.int .i64 x1, .int .i64 x2] 29)).cell? ⟨bk, 0, none⟩ = some (.int .i64 x1) := by rw [← hbk]; simp
      have d1 : (wr.alloc (.cells #[.int .i64 x1, .int .i64 x2] 29)).cell? ⟨bk, 1, none⟩ = some (.int .i64 x2) := by rw [← hbk]; simp
      try rw [hbk]
      have hwb : w.heap.size ≤ bk := by rw [← hbk]; exact HW.out.size
      generalize wr.alloc (.cells #[.int .i64 x1, .int .i64 x2] 29) = w2 at HB1 d0 d1 ⊢
      have HD := Lib.hid (And.intro d0 d1)
      clear hbk c0 c1 d0 d1 HW
      go_loopw [18, 7, 8] (fun i _ _ wi => ∃ j : Nat, j ≤ n ∧ i = .int .i64 j ∧ Hid ((List.range j).all (matchAt gs sp k) = true) ∧ Hid (Below w2.heap.size w2 wi)) (fun i _ _ _ => n - (intOf i).toNat)
      case atStart => exact ⟨0, Nat.zero_le _, rfl, Lib.hid rfl, Lib.hid (Below.refl _ _)⟩
      case round =>
        rename World => w6
        obtain ⟨j, hj, rfl, HAJ, HWJ⟩ := hrel
        have HWW := Lib.hid (HB1.out.trans (HWJ.out.mono HB1.out.size))
        by_cases hltj : j < n
        · have hjL : j < sp.length := by rw [HL.out]; exact hltj
          obtain ⟨e0, e1⟩ := HC.out j hjL
          replace e0 := (HWW.out.cell (p := ⟨b, off + j * 2, none⟩) (World.block_lt_of_cell? w _ e0)).trans e0
          replace e1 := (HWW.out.cell (p := ⟨b, off + j * 2 + 1, none⟩) (World.block_lt_of_cell? w _ e1)).trans e1
          have d0 := (HWJ.out.cell (p := ⟨bk, 0, none⟩) (World.block_lt_of_cell? w2 _ HD.out.1)).trans HD.out.1
          have d1 := (HWJ.out.cell (p := ⟨bk, 1, none⟩) (World.block_lt_of_cell? w2 _ HD.out.2)).trans HD.out.2
          have cg := (HWW.out.cell (p := ⟨bg, og + k, none⟩) (World.block_lt_of_cell? w _ HCG.out)).trans HCG.out
          have hbk6 : bk < w6.heap.size := World.block_lt_of_cell? w6 _ d0
          have hbg6 : bg < w6.heap.size := World.block_lt_of_cell? w6 _ cg
          have HH := Lib.hid (fun (wx : World) => has_any u j wx hgk (by omega))
          have HMJ := Lib.hid (HM.out j)
          have HNX := Lib.hid (fun h => range_next (matchAt gs sp k) j HAJ.out h)
          have HST := Lib.hid (fun h => range_false (matchAt gs sp k) n j hltj h)
          obtain ⟨q, hq⟩ : ∃ q, sp[j]?.getD (0, 0) = q := ⟨_, rfl⟩
          obtain ⟨y1, y2⟩ := q
          rw [hq] at e0 e1 HMJ
          simp only [] at e0 e1 HMJ
          obtain ⟨t, ht⟩ : ∃ t, u.testBit j = t := ⟨_, rfl⟩
          rw [ht] at HH HMJ
          obtain ⟨mk, hmk⟩ : ∃ mk, matchAt gs sp k j = mk := ⟨_, rfl⟩
          rw [hmk] at HMJ HNX HST
          have hjn : (j : Int) < (n : Int) := by omega
          have HB6 : Hid (Below w2.heap.size w2 (w6.alloc (.cells #[.int .i64 y1, .int .i64 y2] 29))) := Lib.hid (HWJ.out.alloc HWJ.out.size _)
          clear hq ht hmk
          cases mk with
          | true =>
            have HNX2 := Lib.hid (HNX.out rfl)
            have hmj := HMJ.out
            clear HNX HST HMJ
            (rcases Bool.eq_false_or_eq_true (decide (x1 ≤ y2)) with f1 | f1 <;> rcases Bool.eq_false_or_eq_true (decide (y1 ≤ x2)) with f2 | f2 <;> rw [f1, f2] at hmj <;> cases t <;> first | (exact absurd hmj (by decide)) | clear hmj)
            all_goals
              go_wp2
              go_quiet (with_reducible exact quiet_same (HH.out _))
              go_wp2
              go_roundw
              case rel => exact ⟨j + 1, by omega, by go_num, HNX2, Lib.hid (below_drewN HB6.out _)⟩
              case measure => simp [intOf]; omega
          | false =>
            have HF := Lib.hid (HSTP.out (HST.out rfl))
            have hmj := HMJ.out
            clear HNX HST HMJ
            (rcases Bool.eq_false_or_eq_true (decide (x1 ≤ y2)) with f1 | f1 <;> rcases Bool.eq_false_or_eq_true (decide (y1 ≤ x2)) with f2 | f2 <;> rw [f1, f2] at hmj <;> cases t <;> first | (exact absurd hmj (by decide)) | clear hmj)
            all_goals
              go_wp2
              go_quiet (with_reducible exact quiet_same (HH.out _))
              go_wp2
              go_ret
              exact ⟨ret_bool (by rw [HV.out, HF.out]), HB1.out.trans ((below_drewN HB6.out _).mono HB1.out.size)⟩
        · obtain rfl : j = n := by omega
          have HDONE := Lib.hid (HNXT.out HAJ.out)
          go_wp2
          go_roundw
          case rel => exact ⟨k + 1, by omega, by go_num, HDONE, HWW⟩
          case measure => simp [intOf]; omega
    · obtain rfl : k = n := by omega
      go_wp2
      go_ret
      exact ⟨ret_bool (by rw [HV.out, HA.out]), HW.out⟩

set_option maxRecDepth 100000 in
set_option maxHeartbeats 4000000 in
theorem Matches_any (N : Int) (a aS : Option Addr) (m cap mS cS : Nat) (n : Nat) (gs : List Nat) (sp : List (Int × Int)) (w : World) (hN : N = n) (h2 : n ≤ 12) (hlen : gs.length = n) (hg : ∀ i, i < n → gs[i]?.getD 0 < 65536) (hls : sp.length = mS) (hmS : mS ≤ 1000) (he : Edges w aS sp)
    (hcall : Calls Try.prog 14 #[.int .i64 N, .slice a m cap] w (GoodG n gs w)) :
    Calls Try.prog 6 #[.int .i64 N, .slice a m cap, .slice aS mS cS] w (if (decide (mS = n) && sp.all spanB) = true then (fun e w' => e = .returned (.tuple #[.bool (matchB gs sp), .int .i64 0]) ∧ Below w.heap.size w w') else Gives2 (.bool false) (.int .i64 2) w) := by
  have HC := Lib.hid hcall
  have HA := Lib.hid (fun (wx : World) (hb : Below w.heap.size w wx) => areSpans_any aS mS cS sp wx hls hmS (he.below hb))
  have HM := Lib.hid (fun (wx : World) (g : Nat) (hr : RowG wx g gs) (hb : Below w.heap.size w wx) (hn : mS = n) => matches_any (some ⟨g, 0, none⟩) aS n n cS gs sp wx hlen h2 hg hr.sets (by omega) (he.below hb))
  subst hN
  clear hcall he hg hls
  by_cases e1 : mS = n
  · subst e1
    rw [decide_eq_true rfl, Bool.true_and]
    have HM2 := Lib.hid (fun (wx : World) (g : Nat) (hr : RowG wx g gs) (hb : Below w.heap.size w wx) => HM.out wx g hr hb rfl)
    clear HM
    obtain ⟨t, ht⟩ : ∃ t, sp.all spanB = t := ⟨_, rfl⟩
    rw [ht] at HA ⊢
    obtain ⟨r, hr⟩ : ∃ r, matchB gs sp = r := ⟨_, rfl⟩
    rw [hr] at HM2 ⊢
    clear ht hr
    cases t with
    | true =>
      rw [if_pos rfl]
      go_enter Try.func6, Try.ntmps6
      go_wp2_with (first
        | (go_at_call 14; refine HC.out.mono ?_; rintro e w1 ⟨g, rfl, hr, hge, hb⟩; have HG := Lib.hid (And.intro hr hb); clear hr hge hb)
        | (go_at_call 15; refine (HA.out _ HG.out.2).mono ?_; rintro e w2 ⟨rfl, hb2⟩; have H2 := Lib.hid (And.intro (HG.out.1.below hb2 (lt_rowG HG.out.1)) (HG.out.2.trans (hb2.mono HG.out.2.size))); clear hb2)
        | (go_at_call 16; refine (HM2.out _ g H2.out.1 H2.out.2).mono ?_; rintro e w3 ⟨rfl, hb3⟩; have H3 := Lib.hid (H2.out.2.trans (hb3.mono H2.out.2.size)); clear hb3))
      go_ret2
      exact ⟨rfl, H3.out⟩
    | false =>
      rw [if_neg (by simp)]
      go_enter Try.func6, Try.ntmps6
      go_wp2_with (first
        | (go_at_call 14; refine HC.out.mono ?_; rintro e w1 ⟨g, rfl, hr, hge, hb⟩; have HG := Lib.hid (And.intro hr hb); clear hr hge hb)
        | (go_at_call 15; refine (HA.out _ HG.out.2).mono ?_; rintro e w2 ⟨rfl, hb2⟩; have H2 := Lib.hid (HG.out.2.trans (hb2.mono HG.out.2.size)); clear hb2))
      go_ret2
      exact ⟨rfl, H2.out⟩
  · rw [decide_eq_false e1, Bool.false_and, if_neg (by simp)]
    have hne : ((mS : Int) != (n : Int)) = true := by rw [bne_iff_ne]; omega
    clear HM HA
    go_enter Try.func6, Try.ntmps6
    go_wp2_with (go_at_call 14; refine HC.out.mono ?_; rintro e w1 ⟨g, rfl, hr, hge, hb⟩; have HG := Lib.hid hb; clear hr hge hb)
    go_ret2
    exact ⟨rfl, HG.out⟩

set_option maxRecDepth 100000 in
set_option maxHeartbeats 2000000 in
theorem Matches_bad {N : Int} {es : List (Int × Int)} (h : graphR N es = false) (a : Option Addr) (m cap : Nat) (v : Value) (w : World) (hl : es.length = m) (hm : m ≤ 1000) (he : Edges w a es) :
    Calls Try.prog 6 #[.int .i64 N, .slice a m cap, v] w (Gives2 (.bool false) (.int .i64 1) w) := by
  have HC := Lib.hid (graphOf_wrong h a m cap w hl hm he)
  clear h hl he
  go_enter Try.func6, Try.ntmps6
  go_wp2_with (go_at_call 14; refine HC.out.mono ?_; rintro e w1 ⟨rfl, hb⟩; have HB := Lib.hid hb; clear hb)
  go_ret2
  exact ⟨rfl, HB.out⟩

end Go.Proofs.Yteckeobhlfddlaa.Rib
