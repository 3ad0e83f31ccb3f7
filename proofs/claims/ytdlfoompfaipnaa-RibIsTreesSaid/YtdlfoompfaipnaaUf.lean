/-
  Clique trees: the program's 'staysTogether'.
-/
import Derived.Test.YtdlfoompfaipnaaUe
namespace Go.Proofs.Ytdlfoompfaipnaa
open Go.RowKit Go.Sort

def cntTo (cs : List Nat) (v i : Nat) : Nat := ((cs.take i).filter fun s => s.testBit v).length
def pairHas (cs : List Nat) (v : Nat) (p : Int × Int) : Bool := ((cs[p.1.toNat]?.getD 0) &&& (cs[p.2.toNat]?.getD 0)).testBit v
def prtTo (cs : List Nat) (t : List (Int × Int)) (v j : Nat) : Nat := ((t.take j).filter (pairHas cs v)).length
theorem cnt_yes {cs : List Nat} {v i : Nat} (hi : i < cs.length) (h : (cs[i]?.getD 0).testBit v = true) : cntTo cs v (i + 1) = cntTo cs v i + 1 := by
  rw [List.getElem?_eq_getElem hi, Option.getD_some] at h
  rw [cntTo, List.take_succ_eq_append_getElem hi, List.filter_append, List.filter_cons, if_pos h, List.length_append]; rfl
theorem cnt_no {cs : List Nat} {v i : Nat} (hi : i < cs.length) (h : (cs[i]?.getD 0).testBit v = false) : cntTo cs v (i + 1) = cntTo cs v i := by
  rw [List.getElem?_eq_getElem hi, Option.getD_some] at h
  rw [cntTo, List.take_succ_eq_append_getElem hi, List.filter_append, List.filter_cons, if_neg (by rw [h]; simp), List.length_append]; rfl
theorem prt_yes {cs : List Nat} {t : List (Int × Int)} {v j : Nat} (hj : j < t.length) (h : pairHas cs v (t[j]?.getD (0, 0)) = true) : prtTo cs t v (j + 1) = prtTo cs t v j + 1 := by
  rw [List.getElem?_eq_getElem hj, Option.getD_some] at h
  rw [prtTo, List.take_succ_eq_append_getElem hj, List.filter_append, List.filter_cons, if_pos h, List.length_append]; rfl
theorem prt_no {cs : List Nat} {t : List (Int × Int)} {v j : Nat} (hj : j < t.length) (h : pairHas cs v (t[j]?.getD (0, 0)) = false) : prtTo cs t v (j + 1) = prtTo cs t v j := by
  rw [List.getElem?_eq_getElem hj, Option.getD_some] at h
  rw [prtTo, List.take_succ_eq_append_getElem hj, List.filter_append, List.filter_cons, if_neg (by rw [h]; simp), List.length_append]; rfl
theorem cntTo_le (cs : List Nat) (v i : Nat) : cntTo cs v i ≤ i := by
  refine Nat.le_trans (List.length_filter_le _ _) ?_
  rw [List.length_take]; omega
theorem prt_le (cs : List Nat) (t : List (Int × Int)) (v j : Nat) : prtTo cs t v j ≤ j := by
  refine Nat.le_trans (List.length_filter_le _ _) ?_
  rw [List.length_take]; omega
/-- Whether the cliques that contain a node stay together. -/
def stayAt (cs : List Nat) (t : List (Int × Int)) (v : Nat) : Bool := decide (cntTo cs v cs.length = prtTo cs t v t.length + 1)
def stayB (cs : List Nat) (t : List (Int × Int)) (n : Nat) : Bool := (List.range n).all (stayAt cs t)
/-- Pairs of cliques. -/
def PairsOk (c : Nat) (t : List (Int × Int)) : Prop := ∀ p ∈ t, 0 ≤ p.1 ∧ p.1 < p.2 ∧ p.2 < (c : Int)

set_option maxRecDepth 100000 in
set_option maxHeartbeats 8000000 in
theorem stays_any (aG aC aT : Option Addr) (n cG c cC m cT : Nat) (cs : List Nat) (t : List (Int × Int)) (w : World) (hn : n ≤ 12) (hcl : cs.length = c) (hc : c ≤ 4096) (hcs : ∀ i, i < cs.length → cs[i]?.getD 0 < 65536) (hC : Sets w aC cs) (hl : t.length = m) (hm : m ≤ 1000) (he : Edges w aT t) (hp : PairsOk c t) :
    Calls Try.prog 54 #[.slice aG n cG, .slice aC c cC, .slice aT m cT] w fun e w' => e = .returned (.bool (stayB cs t n)) ∧ Below w.heap.size w w' := by
  have HX := Lib.hid he
  have HL := Lib.hid hl
  have HC := Lib.hid hC.at
  have HCL := Lib.hid hcl
  have HCS := Lib.hid hcs
  have HP := Lib.hid hp
  clear he hl hC hcl hcs hp
  go_enter Try.func54, Try.ntmps54
  go_wp2
  go_loopw [7, 8, 10, 15] (fun _ _ _ v15 wr => ∃ v : Nat, v ≤ n ∧ v15 = .int .i64 v ∧ Hid ((List.range v).all (stayAt cs t) = true) ∧ Hid (Below w.heap.size w wr)) (fun _ _ _ v15 _ => n - (intOf v15).toNat)
  case atStart => exact ⟨0, Nat.zero_le _, rfl, Lib.hid rfl, Lib.hid (Below.refl _ _)⟩
  case round =>
    obtain ⟨v, hv, rfl, HA, HB⟩ := hrel
    by_cases hlt : v < n
    · have HNX := Lib.hid (fun h => range_next (stayAt cs t) v HA.out h)
      have HST : Hid (stayAt cs t v = false → stayB cs t n = false) := Lib.hid (range_false (stayAt cs t) n v hlt)
      have HSA : Hid (stayAt cs t v = decide (cntTo cs v c = prtTo cs t v m + 1)) := Lib.hid (by rw [stayAt, HCL.out, HL.out])
      rename World => w2
      go_wp2
      go_loopw [8, 10, 20] (fun v8 _ v20 wr => ∃ i k : Nat, i ≤ c ∧ k ≤ i ∧ v20 = .int .i64 i ∧ v8 = .int .i64 k ∧ Hid (cntTo cs v i = k) ∧ Hid (wr = w2)) (fun _ _ v20 _ => c - (intOf v20).toNat)
      case atStart => exact ⟨0, 0, Nat.zero_le _, Nat.le_refl _, rfl, rfl, Lib.hid (by simp [cntTo]), Lib.hid rfl⟩
      case round =>
        obtain ⟨i, k, hi, hk, rfl, rfl, HK, HW⟩ := hrel
        have hwr := HW.out
        subst hwr
        clear HW
        by_cases hic : i < c
        · have hiL : i < cs.length := by rw [HCL.out]; exact hic
          rcases HC.out with h | ⟨b, off, rfl, hcc⟩
          · subst h; simp at hiL
          have cc := hcc i hiL
          replace cc := (HB.out.cell (p := ⟨b, off + i, none⟩) (World.block_lt_of_cell? w _ cc)).trans cc
          have hs := HCS.out i hiL
          have HY := Lib.hid (fun h => cnt_yes (cs := cs) (v := v) hiL h)
          have HNo := Lib.hid (fun h => cnt_no (cs := cs) (v := v) hiL h)
          obtain ⟨s, hss⟩ : ∃ s, cs[i]?.getD 0 = s := ⟨_, rfl⟩
          rw [hss] at cc hs HY HNo
          have H1 := Lib.hid (fun wx => has_any s v wx hs (by omega))
          clear hcc hss hiL
          cases hq : s.testBit v with
          | true =>
            rw [hq] at H1
            have HY2 := Lib.hid (HY.out hq)
            clear hq HY HNo
            go_wp2_with (go_at_call 67; refine (H1.out _).mono ?_; rintro e w' ⟨rfl, rfl⟩)
            go_roundw
            case rel => exact ⟨i + 1, k + 1, by omega, by omega, by go_num, by go_num, Lib.hid (by rw [HY2.out, HK.out]), Lib.hid (by first | rfl | trivial)⟩
            case measure => simp [intOf]; omega
          | false =>
            rw [hq] at H1
            have HY2 := Lib.hid (HNo.out hq)
            clear hq HY HNo
            go_wp2_with (go_at_call 67; refine (H1.out _).mono ?_; rintro e w' ⟨rfl, rfl⟩)
            go_roundw
            case rel => exact ⟨i + 1, k, by omega, by omega, by go_num, rfl, Lib.hid (by rw [HY2.out, HK.out]), Lib.hid (by first | rfl | trivial)⟩
            case measure => simp [intOf]; omega
        · obtain rfl : i = c := by omega
          have HSK : Hid (stayAt cs t v = decide (k = prtTo cs t v m + 1)) := Lib.hid (by rw [HSA.out, HK.out])
          clear HSA HK
          go_wp2
          go_loopw [8, 32] (fun v8 v32 wr => ∃ j p : Nat, j ≤ m ∧ p ≤ j ∧ v32 = .int .i64 j ∧ v8 = .int .i64 ((k : Int) - (p : Int)) ∧ Hid (prtTo cs t v j = p) ∧ Hid (Below w.heap.size w wr)) (fun _ v32 _ => m - (intOf v32).toNat)
          case atStart => exact ⟨0, 0, Nat.zero_le _, Nat.le_refl _, rfl, by simp, Lib.hid (by simp [prtTo]), HB⟩
          case round =>
            obtain ⟨j, p, hj, hpj, rfl, rfl, HPR, HB2⟩ := hrel
            by_cases hjm : j < m
            · have hjL : j < t.length := by rw [HL.out]; exact hjm
              rcases HX.out with h | ⟨bT, oT, rfl, hc'⟩
              · subst h; simp at hjL
              obtain ⟨c0, c1⟩ := hc' j hjL
              replace c0 := (HB2.out.cell (p := ⟨bT, oT + j * 2, none⟩) (World.block_lt_of_cell? w _ c0)).trans c0
              replace c1 := (HB2.out.cell (p := ⟨bT, oT + j * 2 + 1, none⟩) (World.block_lt_of_cell? w _ c1)).trans c1
              have hok : 0 ≤ (t[j]?.getD (0, 0)).1 ∧ (t[j]?.getD (0, 0)).1 < (t[j]?.getD (0, 0)).2 ∧ (t[j]?.getD (0, 0)).2 < (i : Int) := by
                rw [List.getElem?_eq_getElem hjL]; exact HP.out _ (List.getElem_mem hjL)
              have HY := Lib.hid (fun h => prt_yes (cs := cs) (v := v) hjL h)
              have HNo := Lib.hid (fun h => prt_no (cs := cs) (v := v) hjL h)
              obtain ⟨⟨A, B⟩, hAB⟩ : ∃ p, t[j]?.getD (0, 0) = p := ⟨_, rfl⟩
              rw [hAB] at c0 c1 hok HY HNo
              simp only [] at c0 c1 hok
              obtain ⟨x, rfl⟩ := Int.eq_ofNat_of_zero_le (show 0 ≤ A by omega)
              obtain ⟨y, rfl⟩ := Int.eq_ofNat_of_zero_le (show 0 ≤ B by omega)
              have hxc : (x : Int) < (i : Int) := by omega
              have hyc : (y : Int) < (i : Int) := by omega
              have hxL : x < cs.length := by rw [HCL.out]; omega
              have hyL : y < cs.length := by rw [HCL.out]; omega
              rcases HC.out with h | ⟨b, off, rfl, hcc⟩
              · subst h; simp at hxL
              have cx := hcc x hxL
              have cy := hcc y hyL
              replace cx := (HB2.out.cell (p := ⟨b, off + x, none⟩) (World.block_lt_of_cell? w _ cx)).trans cx
              replace cy := (HB2.out.cell (p := ⟨b, off + y, none⟩) (World.block_lt_of_cell? w _ cy)).trans cy
              have hszw : w.heap.size ≤ wr.heap.size := HB2.out.size
              have hba := (Below.refl _ wr).alloc (Nat.le_refl _) (.cells #[.int .i64 (x : Int), .int .i64 (y : Int)] 65)
              replace cx := (hba.cell (p := ⟨b, off + x, none⟩) (World.block_lt_of_cell? wr _ cx)).trans cx
              replace cy := (hba.cell (p := ⟨b, off + y, none⟩) (World.block_lt_of_cell? wr _ cy)).trans cy
              have HBA : Hid (Below w.heap.size w (wr.alloc (.cells #[.int .i64 (x : Int), .int .i64 (y : Int)] 65))) := Lib.hid (HB2.out.alloc hszw _)
              have hsx := HCS.out x hxL
              have hsy := HCS.out y hyL
              have HPH : Hid (pairHas cs v ((x : Int), (y : Int)) = ((cs[x]?.getD 0) &&& (cs[y]?.getD 0)).testBit v) := Lib.hid rfl
              obtain ⟨s, hss⟩ : ∃ s, cs[x]?.getD 0 = s := ⟨_, rfl⟩
              obtain ⟨u, huu⟩ : ∃ u, cs[y]?.getD 0 = u := ⟨_, rfl⟩
              rw [hss] at cx hsx HPH
              rw [huu] at cy hsy HPH
              have HAN : Hid (bits .and .u16 (s : Int) (u : Int) = ((s &&& u : Nat) : Int)) := Lib.hid (u16_and_nat _ _ hsx hsy)
              have H1 := Lib.hid (fun wx => has_any (s &&& u) v wx (Nat.lt_of_le_of_lt Nat.and_le_left hsx) (by omega))
              have ws0 : IntKind.i64.wrap ((k : Int) - (p : Int) - 1) = (k : Int) - (p : Int) - 1 := IntWalk.i64_in _ (by omega)
              clear hcc hc' hss huu hxL hyL hjL hAB hba
              cases hq : (s &&& u).testBit v with
              | true =>
                rw [hq] at H1
                have HY2 := Lib.hid (HY.out (by rw [HPH.out, hq]))
                clear hq HY HNo
                go_wp2
                go_quiet ((rw [HAN.out]; with_reducible exact quiet_same (H1.out _)))
                go_wp2
                go_roundw
                case rel => exact ⟨j + 1, p + 1, by omega, by omega, by go_num, by congr 1; omega, Lib.hid (by rw [HY2.out, HPR.out]), Lib.hid (below_drewN HBA.out _)⟩
                case measure => simp [intOf]; omega
              | false =>
                rw [hq] at H1
                have HY2 := Lib.hid (HNo.out (by rw [HPH.out, hq]))
                clear hq HY HNo
                go_wp2
                go_quiet ((rw [HAN.out]; with_reducible exact quiet_same (H1.out _)))
                go_wp2
                go_roundw
                case rel => exact ⟨j + 1, p, by omega, by omega, by go_num, rfl, Lib.hid (by rw [HY2.out, HPR.out]), Lib.hid (below_drewN HBA.out _)⟩
                case measure => simp [intOf]; omega
            · obtain rfl : j = m := by omega
              by_cases hkp : k = p + 1
              · have HT := Lib.hid (HNX.out (by rw [HSK.out, HPR.out, decide_eq_true hkp]))
                have hb : (((k : Int) - (p : Int)) != 1) = false := by rw [bne_eq_false_iff_eq]; omega
                clear HSK HPR
                go_wp2
                go_roundw
                case rel => exact ⟨v + 1, by omega, by go_num, HT, HB2⟩
                case measure => simp [intOf]; omega
              · have HT := Lib.hid (HST.out (by rw [HSK.out, HPR.out, decide_eq_false hkp]))
                have hb : (((k : Int) - (p : Int)) != 1) = true := by rw [bne_iff_ne]; omega
                clear HSK HPR
                go_wp2
                go_ret
                exact ⟨ret_bool HT.out.symm, HB2.out⟩
    · obtain rfl : v = n := by omega
      go_wp2
      go_ret
      exact ⟨ret_bool HA.out.symm, HB.out⟩

end Go.Proofs.Ytdlfoompfaipnaa
