/-
  The reference: the walk of 'Cliques'.
-/
import Derived.Test.YthlbedhjekbfpaaDoorTa
namespace Go.Proofs.YthlbedhjekbfpaaDoor
open Go.RowKit Go.Sort

theorem maxR_zero {es : List (Int × Int)} {n : Nat} (h1 : 1 ≤ n) : maxR es 0 n = false := by
  rw [maxR, Bool.and_eq_false_iff]
  refine .inr ?_
  refine range_false _ _ 0 (by omega) ?_
  have e : bitsR 0 n = [] := by simp [bitsR]
  rw [wholeAt, e]
  simp [cliqueR]
theorem refCl_one {es : List (Int × Int)} {n : Nat} (h1 : 1 ≤ n) : refCl es n 1 = [] := by
  rw [refCl, maxR_zero h1]; rfl
theorem refCl_len (es : List (Int × Int)) (n : Nat) : ∀ k, (refCl es n k).length ≤ k
  | 0 => by simp [refCl]
  | k + 1 => by
    rw [refCl]
    have := refCl_len es n k
    split
    · rw [(insL_perm _ _).length_eq, List.length_cons]; omega
    · omega
theorem wrap64s : ∀ n, n < 13 → IntKind.i64.wrap (2 ^ n) = ((2 ^ n : Nat) : Int) := by decide

/-- What the reference's 'Cliques' hands back. -/
def RefClV (ls : List (List Int)) (w : World) (e : Ending) (w' : World) : Prop := ∃ b c, e = .returned (.slice (some ⟨b, 0, none⟩) ls.length c) ∧ Lists w' b 0 ls ∧ Below w.heap.size w w'

set_option maxRecDepth 100000 in
set_option maxHeartbeats 8000000 in
theorem RefCliques_any (a : Option Addr) (m cap n : Nat) (es : List (Int × Int)) (w : World) (h1 : 1 ≤ n) (hn : n ≤ 12) (hl : es.length = m) (hm : m ≤ 1000) (he : Edges w a es) :
    Calls Tryd.prog 44 #[.int .i64 n, .slice a m cap] w (RefClV (refCl es n (2 ^ n)) w) := by
  have HE := Lib.hid he
  have HEL := Lib.hid hl
  have hw := wrap64s n (by omega)
  have hF0 : 2 ^ n ≤ 4096 := Nat.le_trans (Nat.pow_le_pow_right (by omega) hn) (by decide)
  have hF1 : 1 ≤ 2 ^ n := Nat.pow_pos (by omega)
  obtain ⟨F, hF⟩ : ∃ F, 2 ^ n = F := ⟨_, rfl⟩
  rw [hF] at hw hF0 hF1 ⊢
  have H0 := Lib.hid (refCl_one (es := es) h1)
  clear hl he hF
  go_enter Tryd.func44, Tryd.ntmps44
  go_wp2
  go_loopw [5, 6, 7, 8, 9, 10, 11] (fun v5 v6 _ _ _ _ _ wr => ∃ s b c : Nat, 1 ≤ s ∧ s ≤ F ∧ v6 = .int .i64 s ∧ (refCl es n s).length ≤ c ∧ v5 = .slice (some ⟨b, 0, none⟩) (refCl es n s).length c ∧ Hid (Lists wr b 0 (refCl es n s)) ∧ Hid (Below w.heap.size w wr)) (fun _ v6 _ _ _ _ _ _ => F - (intOf v6).toNat)
  case atStart => exact ⟨1, w.heap.size, 0, Nat.le_refl _, hF1, rfl, by rw [H0.out]; simp, by rw [H0.out]; rfl, Lib.hid (by rw [H0.out]; exact ⟨[], trivial, fun i hi => by simp at hi⟩), Lib.hid ((Below.refl _ w).alloc (Nat.le_refl _) _)⟩
  case round =>
    obtain ⟨s, b, c, hs1, hsF, rfl, hlc, rfl, HLs, HB⟩ := hrel
    have hrl := refCl_len es n s
    by_cases hlt : s < F
    · obtain ⟨ls, hls⟩ : ∃ ls, refCl es n s = ls := ⟨_, rfl⟩
      have HNX : Hid (refCl es n (s + 1) = if maxR es s n = true then insL (bitsR s n) ls else ls) := Lib.hid (by rw [refCl, hls])
      have HSML : Hid (∀ l ∈ ls, l.length ≤ 1000) := Lib.hid fun l hl => Nat.le_trans (refCl_small es n s l (by rw [hls]; exact hl)) (by omega)
      rw [hls] at HLs hlc hrl
      obtain ⟨ln, hln⟩ : ∃ ln, ls.length = ln := ⟨_, rfl⟩
      have HLN := Lib.hid hln
      rw [hls, hln]
      rw [hln] at hlc hrl
      have HBT := Lib.hid (bits_any s n wr (by omega) hn)
      have hql : (bitsR s n).length ≤ 12 := by
        rw [bitsR, List.length_map]; exact Nat.le_trans (List.length_filter_le _ _) (by simp; omega)
      obtain ⟨L, hL⟩ : ∃ L, bitsR s n = L := ⟨_, rfl⟩
      have HLL := Lib.hid hL
      rw [hL] at HBT HNX hql
      obtain ⟨q, hq⟩ : ∃ q, L.length = q := ⟨_, rfl⟩
      rw [hq] at HBT hql
      have HQ := Lib.hid hq
      clear hls hln hL hq
      go_wp2_with (go_at_call 63; refine HBT.out.mono ?_; rintro e w1 ⟨v, rfl, hC⟩; obtain ⟨g0, cp0, hv0, _⟩ := hC.2.2; subst hv0; have H1 := Lib.hid hC; clear hC)
      have HE1 : Hid (Edges w1 a es) := Lib.hid (HE.out.below (HB.out.trans (H1.out.1.mono HB.out.size)))
      have HL1 : Hid (Lists w1 b 0 ls) := Lib.hid (HLs.out.below H1.out.1)
      have HI1 : Hid (Ints w1 (some ⟨g0, 0, none⟩) L) := Lib.hid (Ints.of_owns H1.out.owns)
      have HB1 : Hid (Below w.heap.size w w1) := Lib.hid (HB.out.trans (H1.out.1.mono HB.out.size))
      have HCQ := Lib.hid (Clique_any a (some ⟨g0, 0, none⟩) m cap q cp0 es L w1 HEL.out hm HE1.out HQ.out (by omega) HI1.out)
      have HMX : Hid (maxR es s n = (cliqueR es L && wholeR es s n)) := Lib.hid (by rw [maxR, HLL.out])
      obtain ⟨r, hr⟩ : ∃ r, cliqueR es L = r := ⟨_, rfl⟩
      rw [hr] at HCQ HMX
      clear hr H1 HLs HB HBT
      cases r with
      | false =>
        rw [Bool.false_and] at HMX
        have HNO : Hid (refCl es n (s + 1) = ls) := Lib.hid (by rw [HNX.out, HMX.out]; rfl)
        go_wp2_with (go_at_call 21; refine HCQ.out.mono ?_; rintro e w2 ⟨rfl, hb2⟩; have H2 := Lib.hid hb2; clear hb2)
        go_roundw
        case rel =>
          refine ⟨s + 1, b, c, by omega, by omega, by go_num, by rw [HNO.out, HLN.out]; exact hlc, by rw [HNO.out, HLN.out], Lib.hid (by rw [HNO.out]; exact HL1.out.below H2.out), Lib.hid (HB1.out.trans (H2.out.mono HB1.out.size))⟩
        case measure => simp [intOf]; omega
      | true =>
        rw [Bool.true_and] at HMX
        go_wp2_with (go_at_call 21; refine HCQ.out.mono ?_; rintro e w2 ⟨rfl, hb2⟩; have H2 := Lib.hid hb2; clear hb2)
        go_loopw [8, 9] (fun v8 v9 wr => ∃ (i : Nat) (wb : Bool), i ≤ n ∧ v9 = .int .i64 i ∧ v8 = .bool wb ∧ Hid ((List.range i).all (wholeAt es s n) = wb) ∧ Hid (Below w1.heap.size w1 wr)) (fun _ v9 _ => n - (intOf v9).toNat)
        case atStart => exact ⟨0, true, Nat.zero_le _, rfl, rfl, Lib.hid rfl, H2⟩
        case round =>
          obtain ⟨i, wb, hi, rfl, rfl, HA, HBW⟩ := hrel
          cases wb with
          | false =>
            have HW : Hid (wholeR es s n = false) := Lib.hid (by
              rw [Bool.eq_false_iff]
              intro hc
              have h2 := HA.out
              rw [Bool.eq_false_iff] at h2
              refine h2 (List.all_eq_true.2 fun x hx => ?_)
              rw [wholeR, List.all_eq_true] at hc
              exact hc x (List.mem_range.2 (Nat.lt_of_lt_of_le (List.mem_range.1 hx) hi)))
            have HNO : Hid (refCl es n (s + 1) = ls) := Lib.hid (by rw [HNX.out, HMX.out, HW.out]; rfl)
            by_cases hin : i < n
            all_goals
              go_wp2
              go_roundw
              case rel =>
                refine ⟨s + 1, b, c, by omega, by omega, by go_num, by rw [HNO.out, HLN.out]; exact hlc, by rw [HNO.out, HLN.out], Lib.hid (by rw [HNO.out]; exact HL1.out.below HBW.out), Lib.hid (HB1.out.trans (HBW.out.mono HB1.out.size))⟩
              case measure => simp [intOf]; omega
          | true =>
            by_cases hin : i < n
            · have hb := bit64 s i (by omega)
              have HNEXT := Lib.hid (fun h => range_next (wholeAt es s n) i HA.out h)
              have HSTOP : Hid (wholeAt es s n i = false → (List.range (i + 1)).all (wholeAt es s n) = false) := Lib.hid (range_false (wholeAt es s n) (i + 1) i (by omega))
              have HWA : Hid (wholeAt es s n i = (s.testBit i || !(cliqueR es (L ++ [(i : Int)])))) := Lib.hid (by rw [wholeAt, HLL.out])
              obtain ⟨T, hT⟩ : ∃ T, wholeAt es s n i = T := ⟨_, rfl⟩
              rw [hT] at HNEXT HSTOP HWA
              cases h1b : s.testBit i with
              | true =>
                rw [h1b] at hb HWA
                simp only [if_true] at hb
                rw [Bool.true_or] at HWA
                have HN2 := Lib.hid (HNEXT.out HWA.out)
                clear h1b HNEXT HSTOP HWA hT
                go_wp2
                go_roundw
                case rel => exact ⟨i + 1, true, by omega, by go_num, rfl, HN2, HBW⟩
                case measure => simp [intOf]; omega
              | false =>
                rw [h1b] at hb HWA
                simp only [Bool.false_eq_true, if_false] at hb
                rw [Bool.false_or] at HWA
                clear h1b hT
                have hszr : w1.heap.size ≤ wr.heap.size := HBW.out.size
                have hba := (Below.refl _ wr).alloc (Nat.le_refl _) (.cells #[] 3)
                have HLc : Hid (∀ j, j < L.length → (wr.alloc (.cells #[] 3)).cell? ⟨g0, 0 + j, none⟩ = some (.int .i64 (L[j]?.getD 0))) := Lib.hid fun j hj => by
                  obtain ⟨b', off', e, hcj⟩ := (HI1.out.below HBW.out).below hba j hj
                  cases e; exact hcj
                clear hba
                obtain ⟨r2, hr2⟩ : ∃ r2, cliqueR es (L ++ [(i : Int)]) = r2 := ⟨_, rfl⟩
                rw [hr2] at HWA
                have HR2 := Lib.hid hr2
                clear hr2
                go_wp2_with (first
                  | (at_builtin; refine wpList_app_zs_g (by simp [Region.wanted, yielded]) (.tmp 41) (.tmp 42) rfl wr.heap.size (.slice (some ⟨wr.heap.size, 0, none⟩) 0 0) 0 [] rfl g0 0 q cp0 L rfl HQ.out HLc.out (owns_empty wr 3) q (by omega) (by omega) (by simp) ?_; intro a3 c3 w3 hr3 hg3; have H3 := Lib.hid (And.intro hr3 hg3); have hs3 : wr.heap.size ≤ w3.heap.size := (by have := hg3.size; simp at this; omega); clear hr3 hg3)
                  | (at_builtin; refine wpList_app_int_g (by simp [Region.wanted, yielded]) (.tmp 43) (.tmp 45) rfl wr.heap.size (.slice a3 q c3) q ([] ++ L.map (Value.int .i64)) rfl (i : Int) _ rfl rfl H3.out.1 (by omega) hs3 ?_; intro g4 c4 w4 hr4 hg4; have H4 := Lib.hid (And.intro hr4 (two_apps H3.out.2 (Nat.le_refl _) H3.out.1 hg4)); clear hr4 hg4))
                have HI4 : Hid (Ints w4 (some ⟨g4, 0, none⟩) (L ++ [(i : Int)])) := Lib.hid (Ints.of_owns (n := q + 1) (cap := c4) (base := wr.heap.size) (by have := H4.out.1; simpa using this))
                have HE4 : Hid (Edges w4 a es) := Lib.hid (HE1.out.below (HBW.out.trans (H4.out.2.mono HBW.out.size)))
                have HBW4 : Hid (Below w1.heap.size w1 w4) := Lib.hid (HBW.out.trans (H4.out.2.mono HBW.out.size))
                have HC4 := Lib.hid (Clique_any a (some ⟨g4, 0, none⟩) m cap (q + 1) c4 es (L ++ [(i : Int)]) w4 HEL.out hm HE4.out (by rw [List.length_append, HQ.out]; rfl) (by omega) HI4.out)
                rw [HR2.out] at HC4
                cases r2 with
                | true =>
                  have HN2 := Lib.hid (HSTOP.out HWA.out)
                  clear HNEXT HSTOP HWA HR2 H3 H4
                  refine HC4.out.mono ?_
                  rintro e w5 ⟨rfl, hb5⟩
                  have HBW5 := Lib.hid (HBW4.out.trans (hb5.mono HBW4.out.size))
                  clear hb5
                  go_wp2_with (fail)
                  go_roundw
                  case rel => exact ⟨i + 1, false, by omega, by go_num, rfl, HN2, HBW5⟩
                  case measure => simp [intOf]; omega
                | false =>
                  have HN2 := Lib.hid (HNEXT.out HWA.out)
                  clear HNEXT HSTOP HWA HR2 H3 H4
                  refine HC4.out.mono ?_
                  rintro e w5 ⟨rfl, hb5⟩
                  have HBW5 := Lib.hid (HBW4.out.trans (hb5.mono HBW4.out.size))
                  clear hb5
                  go_wp2_with (fail)
                  go_roundw
                  case rel => exact ⟨i + 1, true, by omega, by go_num, rfl, HN2, HBW5⟩
                  case measure => simp [intOf]; omega
            · obtain rfl : i = n := by omega
              have HYES : Hid (refCl es i (s + 1) = insL L ls) := Lib.hid (by rw [HNX.out, HMX.out, show wholeR es s i = true from HA.out]; rfl)
              have HLw : Hid (Lists wr b 0 ls) := Lib.hid (HL1.out.below HBW.out)
              have HIw : Hid (Ints wr (some ⟨g0, 0, none⟩) L) := Lib.hid (HI1.out.below HBW.out)
              have HBw : Hid (Below w.heap.size w wr) := Lib.hid (HB1.out.trans (HBW.out.mono HB1.out.size))
              have HSM : Hid (∀ l ∈ ls, l.length ≤ 1000) := HSML
              rename World => wv
              go_wp2
              go_loopw [10] (fun v10 wr => ∃ k : Nat, k ≤ ln ∧ v10 = .int .i64 k ∧ Hid (insAt L ls = k + insAt L (ls.drop k)) ∧ Hid (Below wv.heap.size wv wr)) (fun v10 _ => ln - (intOf v10).toNat)
              case atStart => exact ⟨0, Nat.zero_le _, rfl, Lib.hid (by simp), Lib.hid (Below.refl _ _)⟩
              case round =>
                obtain ⟨k, hk, rfl, HAT, HBV⟩ := hrel
                have HLk : Hid (Lists wr b 0 ls) := Lib.hid (HLw.out.below HBV.out)
                have HIk : Hid (Ints wr (some ⟨g0, 0, none⟩) L) := Lib.hid (HIw.out.below HBV.out)
                have HBk : Hid (Below w.heap.size w wr) := Lib.hid (HBw.out.trans (HBV.out.mono HBw.out.size))
                by_cases hkl : k < ln
                · have hkL : k < ls.length := by rw [HLN.out]; exact hkl
                  obtain ⟨vs0, hev0, hcell0⟩ := HLk.out
                  obtain ⟨ak, ck, hv0, hik⟩ := hev0.at k hkL
                  have cc := hcell0 k hkL
                  rw [hv0, Nat.zero_add] at cc
                  have hlen0 : (ls[k]?.getD []).length ≤ 1000 := by rw [List.getElem?_eq_getElem hkL]; exact HSM.out _ (List.getElem_mem hkL)
                  have HLS := Lib.hid (less_any ak (some ⟨g0, 0, none⟩) (ls[k]?.getD []).length q ck cp0 (ls[k]?.getD []) L wr rfl HQ.out hlen0 (by omega) hik HIk.out)
                  have HST := Lib.hid (insAt_step L ls k hkL)
                  have hkc2 : (k : Int) < (c : Int) := by omega
                  obtain ⟨lk, hlk⟩ : ∃ lk, ls[k]?.getD [] = lk := ⟨_, rfl⟩
                  rw [hlk] at HLS HST cc
                  obtain ⟨r3, hr3⟩ : ∃ r3, lessZ lk L = r3 := ⟨_, rfl⟩
                  rw [hr3] at HLS HST
                  clear hev0 hcell0 hv0 hik hlen0 hlk hr3 hkL
                  cases r3 with
                  | true =>
                    have HAT2 : Hid (insAt L ls = k + 1 + insAt L (ls.drop (k + 1))) := Lib.hid (by rw [HAT.out, HST.out]; simp; omega)
                    clear HAT HST
                    go_wp2_with (go_at_call 64; refine HLS.out.mono ?_; rintro e w8 ⟨rfl, hb8⟩; have H8 := Lib.hid (HBV.out.trans (hb8.mono HBV.out.size)); clear hb8)
                    go_roundw
                    case rel => exact ⟨k + 1, by omega, by go_num, HAT2, H8⟩
                    case measure => simp [intOf]; omega
                  | false =>
                    have HAT2 : Hid (insAt L ls = k) := Lib.hid (by rw [HAT.out, HST.out]; simp)
                    have HSV := HLk
                    clear HAT HST HLk
                    go_wp2_with (first
                      | (go_at_call 64
                         refine HLS.out.mono ?_
                         rintro e w8 ⟨rfl, hb8⟩
                         have HB8 := Lib.hid hb8
                         clear hb8
                         have HLK : Hid (Lists w8 b 0 ls) := Lib.hid (HSV.out.below HB8.out)
                         have HBK : Hid (Below w.heap.size w w8) := Lib.hid (HBk.out.trans (HB8.out.mono HBk.out.size))
                         have HIK : Hid (Ints w8 (some ⟨g0, 0, none⟩) L) := Lib.hid (HIk.out.below HB8.out)
                         have hkne : ¬ (c : Int) = (k : Int) := by omega
                         have HLN2 := HLN
                         obtain ⟨vs, hev, hcell⟩ := HLK.out
                         have hvl : vs.length = ln := by rw [hev.len, HLN.out]
                         have hba4 := (Below.refl _ w8).alloc (Nat.le_refl _) (.cells #[] 26)
                         have hone := hev.one
                         have HCT : Hid (∀ j u, (vs.take k)[j]? = some u → (w8.alloc (.cells #[] 26)).cell? ((⟨b, 0, none⟩ : Addr).add j) = some u) := Lib.hid fun j u hj => by
                           have hjk : j < (vs.take k).length := (List.getElem?_eq_some_iff.1 hj).1
                           rw [List.length_take] at hjk
                           have hadd : (⟨b, 0, none⟩ : Addr).add j = ⟨b, 0 + j, none⟩ := by unfold Addr.add; split <;> simp_all
                           rw [List.getElem?_take, if_pos (by omega)] at hj
                           rw [hadd, hba4.cell (p := ⟨b, 0 + j, none⟩) (World.block_lt_of_cell? w8 _ (hcell j (by rw [HLN.out]; omega))), hcell j (by rw [HLN.out]; omega), hj]; rfl
                         have HTL : Hid ((vs.take k).length = k) := Lib.hid (by rw [List.length_take]; omega)
                         have HT1 : Hid (∀ u ∈ vs.take k, u.oneCell' = true) := Lib.hid fun u hu => hone u (List.mem_of_mem_take hu)
                         have HD1 : Hid (∀ u ∈ vs.drop k, u.oneCell' = true) := Lib.hid fun u hu => hone u (List.mem_of_mem_drop hu)
                         have HDL : Hid ((vs.drop k).length = ln - k) := Lib.hid (by rw [List.length_drop, hvl])
                         have HCD : Hid (∀ (w9 : World) (ad : Addr), Below w8.heap.size w8 w9 → (k < ln → ∀ j, ad.add j = ⟨b, 0 + (k + j), none⟩) → ∀ j u, (vs.drop k)[j]? = some u → w9.cell? (ad.add j) = some u) := Lib.hid fun w9 ad hb9 had j u hj => by
                           have hjk : j < (vs.drop k).length := (List.getElem?_eq_some_iff.1 hj).1
                           rw [List.length_drop, hvl] at hjk
                           rw [List.getElem?_drop] at hj
                           rw [had (by omega), hb9.cell (p := ⟨b, 0 + (k + j), none⟩) (World.block_lt_of_cell? w8 _ (hcell (k + j) (by rw [HLN.out]; omega))), hcell (k + j) (by rw [HLN.out]; omega), hj]; rfl
                         have HEV := Lib.hid hev
                         have hkc : (k : Int) ≤ (c : Int) := by omega
                         have hkl2 : (k : Int) ≤ (ln : Int) := by omega
                         have hlcI : (ln : Int) ≤ (c : Int) := by omega
                         clear hev hcell hvl hba4 hone)
                      | (at_builtin; refine wpList_app_vals rfl (.tmp 65) (.tmp 68) rfl w8.heap.size w8.heap.size 0 0 [] rfl ⟨b, 0, none⟩ k c (vs.take k) rfl HTL.out HCT.out HT1.out (owns_empty w8 26) k (by omega) (by omega) (by simp) ?_; intro g5 c5 w5 hr5 hg5; have hs5 : w8.heap.size ≤ w5.heap.size := (by have := hg5.size; simp at this; omega); have H5 := Lib.hid (And.intro hr5 (((Below.refl _ w8).alloc (Nat.le_refl _) (.cells #[] 26)).grown hg5 (by simp) (fun x hx => by simp at hx; omega))); clear hr5 hg5)
                      | (at_builtin; refine wpList_app_row rfl (.tmp 70) (.tmp 72) rfl w8.heap.size (.slice (some ⟨g5, 0, none⟩) k c5) k ([] ++ vs.take k) rfl (.slice (some ⟨g0, 0, none⟩) q cp0) rfl _ rfl rfl H5.out.1 (by omega) hs5 ?_; intro g6 c6 w6 hr6 hg6; have H6 := Lib.hid (And.intro hr6 (H5.out.2.grown hg6 hs5 (fun x hx => (H5.out.1.lt x hx).1))); have hs6 : w8.heap.size ≤ w6.heap.size := H6.out.2.size; clear hr6 hg6)
                      | (at_builtin; refine wpList_app_vals rfl (.tmp 74) (.tmp 77) rfl w8.heap.size g6 c6 (k + 1) (([] ++ vs.take k) ++ [.slice (some ⟨g0, 0, none⟩) q cp0]) rfl _ (ln - k) _ (vs.drop k) rfl HDL.out (HCD.out w6 _ H6.out.2 (fun _ j => by simp [Addr.add] <;> omega)) HD1.out H6.out.1 (ln + 1) (by omega) (by omega) hs6 ?_; intro g7 c7 w7 hr7 hg7; have H7 := Lib.hid (And.intro hr7 (H6.out.2.grown hg7 hs6 (fun x hx => (H6.out.1.lt x hx).1))); clear hr7 hg7))
                    go_roundw
                    case rel =>
                      have HL7 : Hid ((insL L ls).length = ln + 1) := Lib.hid (by rw [(insL_perm _ _).length_eq, List.length_cons, HLN2.out])
                      have hc7 := own_le H7.out.1
                      refine ⟨s + 1, g7, c7, by omega, by omega, by go_num, by rw [HYES.out, HL7.out]; exact hc7, by rw [HYES.out, HL7.out], Lib.hid ?_, Lib.hid (HBK.out.trans (H7.out.2.mono HBK.out.size))⟩
                      rw [HYES.out]
                      refine Lists.of_owns (vs := vs.take k ++ [.slice (some ⟨g0, 0, none⟩) q cp0] ++ vs.drop k) (by have := H7.out.1; simpa using this) (EV.insert (HEV.out.below H7.out.2) ⟨_, _, by rw [HQ.out], HIK.out.below H7.out.2⟩ k HAT2.out)
                    case measure => simp [intOf]; omega
                · have HAT2 : Hid (insAt L ls = k) := Lib.hid (by rw [HAT.out, List.drop_eq_nil_of_le (by rw [HLN.out]; omega)]; simp [insAt])
                  clear HAT
                  have HLK := HLk
                  have HLN2 := HLN
                  obtain ⟨vs, hev, hcell⟩ := HLK.out
                  have hvl : vs.length = ln := by rw [hev.len, HLN.out]
                  have hba4 := (Below.refl _ wr).alloc (Nat.le_refl _) (.cells #[] 26)
                  have hone := hev.one
                  have HCT : Hid (∀ j u, (vs.take k)[j]? = some u → (wr.alloc (.cells #[] 26)).cell? ((⟨b, 0, none⟩ : Addr).add j) = some u) := Lib.hid fun j u hj => by
                    have hjk : j < (vs.take k).length := (List.getElem?_eq_some_iff.1 hj).1
                    rw [List.length_take] at hjk
                    have hadd : (⟨b, 0, none⟩ : Addr).add j = ⟨b, 0 + j, none⟩ := by unfold Addr.add; split <;> simp_all
                    rw [List.getElem?_take, if_pos (by omega)] at hj
                    rw [hadd, hba4.cell (p := ⟨b, 0 + j, none⟩) (World.block_lt_of_cell? wr _ (hcell j (by rw [HLN.out]; omega))), hcell j (by rw [HLN.out]; omega), hj]; rfl
                  have HTL : Hid ((vs.take k).length = k) := Lib.hid (by rw [List.length_take]; omega)
                  have HT1 : Hid (∀ u ∈ vs.take k, u.oneCell' = true) := Lib.hid fun u hu => hone u (List.mem_of_mem_take hu)
                  have HD1 : Hid (∀ u ∈ vs.drop k, u.oneCell' = true) := Lib.hid fun u hu => hone u (List.mem_of_mem_drop hu)
                  have HDL : Hid ((vs.drop k).length = ln - k) := Lib.hid (by rw [List.length_drop, hvl])
                  have HCD : Hid (∀ (w9 : World) (ad : Addr), Below wr.heap.size wr w9 → (k < ln → ∀ j, ad.add j = ⟨b, 0 + (k + j), none⟩) → ∀ j u, (vs.drop k)[j]? = some u → w9.cell? (ad.add j) = some u) := Lib.hid fun w9 ad hb9 had j u hj => by
                    have hjk : j < (vs.drop k).length := (List.getElem?_eq_some_iff.1 hj).1
                    rw [List.length_drop, hvl] at hjk
                    rw [List.getElem?_drop] at hj
                    rw [had (by omega), hb9.cell (p := ⟨b, 0 + (k + j), none⟩) (World.block_lt_of_cell? wr _ (hcell (k + j) (by rw [HLN.out]; omega))), hcell (k + j) (by rw [HLN.out]; omega), hj]; rfl
                  have HEV := Lib.hid hev
                  have hkc : (k : Int) ≤ (c : Int) := by omega
                  have hkl2 : (k : Int) ≤ (ln : Int) := by omega
                  have hlcI : (ln : Int) ≤ (c : Int) := by omega
                  clear hev hcell hvl hba4 hone
                  by_cases hkc2 : (c : Int) = (k : Int)
                  all_goals
                    go_wp2_with (first
                      | (at_builtin; refine wpList_app_vals rfl (.tmp 65) (.tmp 68) rfl wr.heap.size wr.heap.size 0 0 [] rfl ⟨b, 0, none⟩ k c (vs.take k) rfl HTL.out HCT.out HT1.out (owns_empty wr 26) k (by omega) (by omega) (by simp) ?_; intro g5 c5 w5 hr5 hg5; have hs5 : wr.heap.size ≤ w5.heap.size := (by have := hg5.size; simp at this; omega); have H5 := Lib.hid (And.intro hr5 (((Below.refl _ wr).alloc (Nat.le_refl _) (.cells #[] 26)).grown hg5 (by simp) (fun x hx => by simp at hx; omega))); clear hr5 hg5)
                      | (at_builtin; refine wpList_app_row rfl (.tmp 70) (.tmp 72) rfl wr.heap.size (.slice (some ⟨g5, 0, none⟩) k c5) k ([] ++ vs.take k) rfl (.slice (some ⟨g0, 0, none⟩) q cp0) rfl _ rfl rfl H5.out.1 (by omega) hs5 ?_; intro g6 c6 w6 hr6 hg6; have H6 := Lib.hid (And.intro hr6 (H5.out.2.grown hg6 hs5 (fun x hx => (H5.out.1.lt x hx).1))); have hs6 : wr.heap.size ≤ w6.heap.size := H6.out.2.size; clear hr6 hg6)
                      | (at_builtin; refine wpList_app_vals rfl (.tmp 74) (.tmp 77) rfl wr.heap.size g6 c6 (k + 1) (([] ++ vs.take k) ++ [.slice (some ⟨g0, 0, none⟩) q cp0]) rfl _ (ln - k) _ (vs.drop k) rfl HDL.out (HCD.out w6 _ H6.out.2 (fun h => absurd h hkl)) HD1.out H6.out.1 (ln + 1) (by omega) (by omega) hs6 ?_; intro g7 c7 w7 hr7 hg7; have H7 := Lib.hid (And.intro hr7 (H6.out.2.grown hg7 hs6 (fun x hx => (H6.out.1.lt x hx).1))); clear hr7 hg7))
                    go_roundw
                    case rel =>
                      have HL7 : Hid ((insL L ls).length = ln + 1) := Lib.hid (by rw [(insL_perm _ _).length_eq, List.length_cons, HLN2.out])
                      have hc7 := own_le H7.out.1
                      refine ⟨s + 1, g7, c7, by omega, by omega, by go_num, by rw [HYES.out, HL7.out]; exact hc7, by rw [HYES.out, HL7.out], Lib.hid ?_, Lib.hid (HBk.out.trans (H7.out.2.mono HBk.out.size))⟩
                      rw [HYES.out]
                      refine Lists.of_owns (vs := vs.take k ++ [.slice (some ⟨g0, 0, none⟩) q cp0] ++ vs.drop k) (by have := H7.out.1; simpa using this) (EV.insert (HEV.out.below H7.out.2) ⟨_, _, by rw [HQ.out], HIk.out.below H7.out.2⟩ k HAT2.out)
                    case measure => simp [intOf]; omega
    · obtain rfl : s = F := by omega
      go_wp2
      go_ret
      exact ⟨b, c, rfl, HLs.out, HB.out⟩

end Go.Proofs.YthlbedhjekbfpaaDoor
