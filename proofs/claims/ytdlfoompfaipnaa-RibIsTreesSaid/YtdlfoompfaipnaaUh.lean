/-
  Clique trees: the reference's 'Tree'.
-/
import Derived.Test.YtdlfoompfaipnaaUg
import Derived.Test.YtdlfoompfaipnaaTe
namespace Go.Proofs.Ytdlfoompfaipnaa
open Go.RowKit Go.Sort

def cntL (LS : List (List Int)) (v i : Nat) : Nat := ((LS.take i).filter fun l => decide ((v : Int) ∈ l)).length
def pairL (LS : List (List Int)) (v : Nat) (p : Int × Int) : Bool := decide ((v : Int) ∈ LS[p.1.toNat]?.getD []) && decide ((v : Int) ∈ LS[p.2.toNat]?.getD [])
def prtL (LS : List (List Int)) (t : List (Int × Int)) (v j : Nat) : Nat := ((t.take j).filter (pairL LS v)).length
theorem cntL_yes {LS : List (List Int)} {v i : Nat} (hi : i < LS.length) (h : decide ((v : Int) ∈ LS[i]?.getD []) = true) : cntL LS v (i + 1) = cntL LS v i + 1 := by
  rw [List.getElem?_eq_getElem hi, Option.getD_some] at h
  rw [cntL, List.take_succ_eq_append_getElem hi, List.filter_append, List.filter_cons, if_pos h, List.length_append]; rfl
theorem cntL_no {LS : List (List Int)} {v i : Nat} (hi : i < LS.length) (h : decide ((v : Int) ∈ LS[i]?.getD []) = false) : cntL LS v (i + 1) = cntL LS v i := by
  rw [List.getElem?_eq_getElem hi, Option.getD_some] at h
  rw [cntL, List.take_succ_eq_append_getElem hi, List.filter_append, List.filter_cons, if_neg (by rw [h]; simp), List.length_append]; rfl
theorem prtL_yes {LS : List (List Int)} {t : List (Int × Int)} {v j : Nat} (hj : j < t.length) (h : pairL LS v (t[j]?.getD (0, 0)) = true) : prtL LS t v (j + 1) = prtL LS t v j + 1 := by
  rw [List.getElem?_eq_getElem hj, Option.getD_some] at h
  rw [prtL, List.take_succ_eq_append_getElem hj, List.filter_append, List.filter_cons, if_pos h, List.length_append]; rfl
theorem prtL_no {LS : List (List Int)} {t : List (Int × Int)} {v j : Nat} (hj : j < t.length) (h : pairL LS v (t[j]?.getD (0, 0)) = false) : prtL LS t v (j + 1) = prtL LS t v j := by
  rw [List.getElem?_eq_getElem hj, Option.getD_some] at h
  rw [prtL, List.take_succ_eq_append_getElem hj, List.filter_append, List.filter_cons, if_neg (by rw [h]; simp), List.length_append]; rfl
def stayAtL (LS : List (List Int)) (t : List (Int × Int)) (v : Nat) : Bool := decide (cntL LS v LS.length = prtL LS t v t.length + 1)
def stayL (LS : List (List Int)) (t : List (Int × Int)) (n : Nat) : Bool := (List.range n).all (stayAtL LS t)
/-- The reference's 'Tree'. -/
def treeR (LS : List (List Int)) (t : List (Int × Int)) (n : Nat) : Bool := isTreeB LS.length t && stayL LS t n
theorem treeFrom_bad {c : Nat} {p : Int × Int} {t : List (Int × Int)} {ps : List Int} (h : (inR p.1 0 ((c : Int) - 1) && inR p.2 (p.1 + 1) ((c : Int) - 1)) = false) : treeFrom c (p :: t) ps = false := by
  rw [treeFrom]
  split
  · rfl
  · split
    · rfl
    · split
      · rfl
      · exfalso
        rw [Bool.and_eq_false_iff] at h
        simp only [inR, Bool.and_eq_false_iff, decide_eq_false_iff_not] at h
        omega
theorem treeFrom_good {c : Nat} {x y : Nat} {t : List (Int × Int)} {ps : List Int} (h1 : x < y) (h2 : y < c) : treeFrom c (((x : Int), (y : Int)) :: t) ps = ((ps[x]?.getD 0 != ps[y]?.getD 0) && treeFrom c t (joinL ps (ps[x]?.getD 0) (ps[y]?.getD 0))) := by
  rw [treeFrom, if_neg (by show ¬ (x : Int) < 0; omega), if_neg (by show ¬ (y : Int) ≤ x; omega), if_neg (by show ¬ (c : Int) ≤ y; omega)]; rfl
theorem own_at {w : World} {base g n cap : Nat} {ps : List Int} (h : w.ownsRow base 3 1 (.slice (some ⟨g, 0, none⟩) n cap) n (ps.map (Value.int .i64))) {k : Nat} (hk : k < n) : w.cell? ⟨g, k, none⟩ = some (.int .i64 (ps[k]?.getD 0)) := by
  have hl : ps.length = n := by simpa using h.1
  have := h.cellAt k (by omega)
  rw [List.getElem?_map, List.getElem?_eq_getElem (by omega)] at this
  rw [this, List.getElem?_eq_getElem (by omega)]; rfl

set_option maxRecDepth 100000 in
set_option maxHeartbeats 16000000 in
theorem RefTree_any (a aT : Option Addr) (m cap n q cT : Nat) (es t : List (Int × Int)) (w : World) (h1 : 1 ≤ n) (hn : n ≤ 12) (hl : es.length = m) (hm : m ≤ 1000) (he : Edges w a es) (hq : t.length = q) (hq2 : q ≤ 1000) (ht : Edges w aT t) (hc1 : 1 ≤ (refCl es n (2 ^ n)).length) :
    Calls Try.prog 26 #[.int .i64 n, .slice a m cap, .slice aT q cT] w fun e w' => e = .returned (.bool (treeR (refCl es n (2 ^ n)) t n)) ∧ Below w.heap.size w w' := by
  have HX := Lib.hid ht
  have HTL := Lib.hid hq
  have HRC := Lib.hid (RefCliques_any a m cap n es w h1 hn hl hm he)
  have HSM := Lib.hid (refCl_small es n (2 ^ n))
  have hk0 := refCl_len es n (2 ^ n)
  have hF0 : 2 ^ n ≤ 4096 := Nat.le_trans (Nat.pow_le_pow_right (by omega) hn) (by decide)
  obtain ⟨LS, hLS⟩ : ∃ LS, refCl es n (2 ^ n) = LS := ⟨_, rfl⟩
  rw [hLS] at HRC HSM hk0 hc1 ⊢
  obtain ⟨c, hc⟩ : ∃ c, LS.length = c := ⟨_, rfl⟩
  have HCL := Lib.hid hc
  have hcc : c ≤ 4096 := by omega
  rw [hc] at hc1
  have HI : Hid (treeR LS t n = ((decide (q + 1 = c) && treeFrom c t (partsI c)) && stayL LS t n)) := Lib.hid (by rw [treeR, isTreeB, hc, hq])
  obtain ⟨R, hR⟩ : ∃ R, treeR LS t n = R := ⟨_, rfl⟩
  rw [hR] at HI ⊢
  have wc0 : IntKind.i64.wrap ((c : Int) - 1) = (c : Int) - 1 := IntWalk.i64_in _ (by omega)
  clear hl he hq ht hLS hk0 hF0 hc hR
  go_enter Try.func26, Try.ntmps26
  by_cases hqc : q + 1 = c
  · have HI2 : Hid (R = (treeFrom c t (partsI c) && stayL LS t n)) := Lib.hid (by rw [HI.out, decide_eq_true hqc, Bool.true_and])
    have hb : ((q : Int) != (c : Int) - 1) = false := by rw [bne_eq_false_iff_eq]; omega
    clear HI
    go_wp2_with (go_at_call 21; refine HRC.out.mono ?_; rintro e w1 ⟨bR, cR, rfl, hR1, hb1⟩; rw [HCL.out]; have H1 := Lib.hid (And.intro hR1 hb1); clear hR1 hb1)
    go_loopw [8, 9] (fun v8 v9 wr => ∃ k : Nat, k ≤ c ∧ v9 = .int .i64 k ∧ CollI w1 (partsI k) k v8 wr) (fun _ v9 _ => c - (intOf v9).toNat)
    case atStart => exact ⟨0, Nat.zero_le _, rfl, CollI.start w1⟩
    case round =>
      obtain ⟨k, hk, rfl, hC⟩ := hrel
      have hsz := hC.1.size
      have HC := Lib.hid hC
      obtain ⟨g, cp0, hv0, _⟩ := hC.2.2
      subst hv0
      clear hC
      by_cases hlt : k < c
      · go_wp2_with (at_builtin; refine wpList_app_int rfl (.tmp 35) (.tmp 37) rfl w1.heap.size _ _ _ rfl (k : Int) _ rfl rfl HC.out.owns (by omega) hsz ?_; intro g cp w2 hr2 hg2 hat2 _; have H2 := Lib.hid (HC.out.next hr2 hg2); clear hr2 hg2 hat2)
        go_roundw
        case rel => exact ⟨k + 1, by omega, by go_num, by rw [partsI, List.range_succ, List.map_append]; exact H2.out⟩
        case measure => simp [intOf]; omega
      · obtain rfl : k = c := by omega
        have HO0 : Hid (wr.ownsRow w1.heap.size 3 1 (.slice (some ⟨g, 0, none⟩) k cp0) k ((partsI k).map (Value.int .i64))) := Lib.hid HC.out.owns
        have HB0 : Hid (Below w1.heap.size w1 wr) := Lib.hid HC.out.1
        obtain ⟨P0, hP0⟩ : ∃ P0, partsI k = P0 := ⟨_, rfl⟩
        rw [hP0] at HO0 HI2
        clear HC hP0 hlt hk
        go_wp2
        go_loopw [10, 11, 12, 13] (fun v10 _ _ _ wr => ∃ (j : Nat) (ps : List Int), j ≤ q ∧ v10 = .int .i64 j ∧ Hid (wr.ownsRow w1.heap.size 3 1 (.slice (some ⟨g, 0, none⟩) k cp0) k (ps.map (Value.int .i64))) ∧ Hid (Below w1.heap.size w1 wr) ∧ Hid (treeFrom k t P0 = treeFrom k (t.drop j) ps)) (fun v10 _ _ _ _ => q - (intOf v10).toNat)
        case atStart => exact ⟨0, P0, Nat.zero_le _, rfl, HO0, HB0, Lib.hid rfl⟩
        case round =>
          obtain ⟨j, ps, hj, rfl, HO, HB, HE⟩ := hrel
          have HBW : Hid (Below w.heap.size w wr) := Lib.hid (H1.out.2.trans (HB.out.mono H1.out.2.size))
          by_cases hjq : j < q
          · have hjL : j < t.length := by rw [HTL.out]; exact hjq
            have hjq2 : (j : Int) < (q : Int) := by omega
            rcases HX.out with h | ⟨bT, oT, rfl, hc'⟩
            · subst h; simp at hjL
            obtain ⟨c0, c1⟩ := hc' j hjL
            replace c0 := (HBW.out.cell (p := ⟨bT, oT + j * 2, none⟩) (World.block_lt_of_cell? w _ c0)).trans c0
            replace c1 := (HBW.out.cell (p := ⟨bT, oT + j * 2 + 1, none⟩) (World.block_lt_of_cell? w _ c1)).trans c1
            have HD : Hid (t.drop j = (t[j]?.getD (0, 0)) :: t.drop (j + 1)) := Lib.hid (by rw [List.drop_eq_getElem_cons hjL, List.getElem?_eq_getElem hjL]; rfl)
            obtain ⟨⟨A, B⟩, hAB⟩ : ∃ p, t[j]?.getD (0, 0) = p := ⟨_, rfl⟩
            rw [hAB] at c0 c1 HD
            simp only [] at c0 c1
            clear hc' hAB hjL
            rcases Bool.eq_false_or_eq_true (inR A 0 ((k : Int) - 1)) with q1 | q1
            · have hA : 0 ≤ A ∧ A ≤ (k : Int) - 1 := by simpa [inR] using q1
              have hA1 := hA.1
              have hA2 := hA.2
              have ws1 : IntKind.i64.wrap (A + 1) = A + 1 := IntWalk.i64_in _ (by omega)
              rcases Bool.eq_false_or_eq_true (inR B (A + 1) ((k : Int) - 1)) with q2 | q2
              · have hB : A + 1 ≤ B ∧ B ≤ (k : Int) - 1 := by simpa [inR] using q2
                obtain ⟨x, rfl⟩ := Int.eq_ofNat_of_zero_le hA1
                obtain ⟨y, rfl⟩ := Int.eq_ofNat_of_zero_le (show 0 ≤ B by omega)
                have hxk : x < k := by omega
                have hyk : y < k := by omega
                have K1 := Lib.hid (fun z => in_any (x : Int) 0 ((k : Int) - 1) (wr.drewN z))
                have K2 := Lib.hid (fun z => in_any (y : Int) ((x : Int) + 1) ((k : Int) - 1) (wr.drewN z))
                rw [q1] at K1
                rw [q2] at K2
                have cx := own_at HO.out hxk
                have cy := own_at HO.out hyk
                have HT : Hid (treeFrom k t P0 = ((ps[x]?.getD 0 != ps[y]?.getD 0) && treeFrom k (t.drop (j + 1)) (joinL ps (ps[x]?.getD 0) (ps[y]?.getD 0)))) := Lib.hid (by rw [HE.out, HD.out, treeFrom_good (by omega) hyk])
                have hxi : (x : Int) < (k : Int) := by omega
                have hyi : (y : Int) < (k : Int) := by omega
                obtain ⟨f, hf⟩ : ∃ f, ps[x]?.getD 0 = f := ⟨_, rfl⟩
                obtain ⟨u, hu⟩ : ∃ u, ps[y]?.getD 0 = u := ⟨_, rfl⟩
                rw [hf, hu] at HT
                rw [hf] at cx
                rw [hu] at cy
                clear q1 q2 hA hB hf hu
                by_cases hfu : f = u
                · subst hfu
                  have HR : Hid (R = false) := Lib.hid (by rw [HI2.out, HT.out]; simp)
                  have heq : (f == f) = true := by simp
                  go_wp2
                  go_quiet ((first | (with_reducible exact quiet_same (K1.out _)) | (with_reducible exact quiet_same (K2.out _))))
                  go_wp2
                  go_ret
                  exact ⟨ret_bool HR.out.symm, below_drewN HBW.out _⟩
                · have heq : (f == u) = false := by simpa using hfu
                  have HT2 : Hid (treeFrom k t P0 = treeFrom k (t.drop (j + 1)) (joinL ps f u)) := Lib.hid (by rw [HT.out, show (f != u) = true by simpa using hfu, Bool.true_and])
                  go_wp2
                  go_quiet ((first | (with_reducible exact quiet_same (K1.out _)) | (with_reducible exact quiet_same (K2.out _))))
                  go_wp2
                  have HO5 := Lib.hid (owns_drewN HO.out nq)
                  have HB5 := Lib.hid (below_drewN HB.out nq)
                  replace c0 : (wr.drewN nq).cell? ⟨bT, oT + j * 2, none⟩ = _ := c0
                  replace c1 : (wr.drewN nq).cell? ⟨bT, oT + j * 2 + 1, none⟩ = _ := c1
                  replace cx : (wr.drewN nq).cell? ⟨g, x, none⟩ = _ := cx
                  replace cy : (wr.drewN nq).cell? ⟨g, y, none⟩ = _ := cy
                  clear K1 K2 HO HB HBW
                  generalize wr.drewN nq = w5 at HO5 HB5 c0 c1 cx cy ⊢
                  go_quiet (fail)
                  have HO6 := Lib.hid (owns_drewN HO5.out nq)
                  have HB6 := Lib.hid (below_drewN HB5.out nq)
                  clear c0 c1 cx cy HO5 HB5
                  generalize w5.drewN nq = w6 at HO6 HB6 ⊢
                  go_wp2
                  go_loopw [13] (fun v13 wr => ∃ i : Nat, i ≤ k ∧ v13 = .int .i64 i ∧ Hid (wr.ownsRow w1.heap.size 3 1 (.slice (some ⟨g, 0, none⟩) k cp0) k ((joinTo ps f u i).map (Value.int .i64))) ∧ Hid (Below w1.heap.size w1 wr)) (fun v13 _ => k - (intOf v13).toNat)
                  case atStart => exact ⟨0, Nat.zero_le _, rfl, Lib.hid (by rw [joinTo_zero]; exact HO6.out), HB6⟩
                  case round =>
                    obtain ⟨i, hi, rfl, HO, HB⟩ := hrel
                    have hpl : ps.length = k := by simpa using HO6.out.1
                    by_cases hik : i < k
                    · have hiL : i < ps.length := by rw [hpl]; exact hik
                      have cc := own_at HO.out hik
                      rw [joinTo_at ps f u hiL, Option.getD_some] at cc
                      have HS := Lib.hid (joinTo_set ps f u hiL)
                      have HE9 := Lib.hid (joinTo_same ps f u hiL)
                      obtain ⟨hset, hfz⟩ := owns_set HO.out i u
                      have hgb : w1.heap.size ≤ g := (HO.out.lt g rfl).1
                      have HSET := Lib.hid hset
                      obtain ⟨z, hz⟩ : ∃ z, ps[i]?.getD 0 = z := ⟨_, rfl⟩
                      rw [hz] at cc HS HE9
                      clear hz hiL hset hpl
                      by_cases hzf : z = f
                      · have hzb : (z == f) = true := by simpa using hzf
                        rw [if_pos hzf] at HS
                        clear hzf
                        go_wp2
                        go_roundw
                        case rel => exact ⟨i + 1, by omega, by go_num, Lib.hid (by rw [HS.out]; exact HSET.out), Lib.hid (HB.out.setCell hgb _)⟩
                        case measure => simp [intOf]; omega
                      · have hzb : (z == f) = false := by simpa using hzf
                        have HE2 := Lib.hid (HE9.out hzf)
                        go_wp2
                        go_roundw
                        case rel => exact ⟨i + 1, by omega, by go_num, Lib.hid (by rw [HE2.out]; exact HO.out), HB⟩
                        case measure => simp [intOf]; omega
                    · obtain rfl : i = k := by omega
                      have HJ : Hid (joinTo ps f u i = joinL ps f u) := Lib.hid (by have := joinTo_all ps f u; rwa [hpl] at this)
                      have HO9 : Hid (wr.ownsRow w1.heap.size 3 1 (.slice (some ⟨g, 0, none⟩) i cp0) i ((joinL ps f u).map (Value.int .i64))) := Lib.hid (by rw [← HJ.out]; exact HO.out)
                      go_wp2
                      go_roundw
                      case rel => exact ⟨j + 1, joinL ps f u, by omega, by go_num, HO9, HB, HT2⟩
                      case measure => simp [intOf]; omega
              · have HR : Hid (R = false) := Lib.hid (by rw [HI2.out, HE.out, HD.out, treeFrom_bad (by rw [q1, q2]; rfl), Bool.false_and])
                have K1 := Lib.hid (fun z => in_any A 0 ((k : Int) - 1) (wr.drewN z))
                have K2 := Lib.hid (fun z => in_any B (A + 1) ((k : Int) - 1) (wr.drewN z))
                rw [q1] at K1
                rw [q2] at K2
                clear q1 q2 hA
                go_wp2
                go_quiet ((first | (with_reducible exact quiet_same (K1.out _)) | (with_reducible exact quiet_same (K2.out _))))
                go_wp2
                go_ret
                exact ⟨ret_bool HR.out.symm, below_drewN HBW.out _⟩
            · have HR : Hid (R = false) := Lib.hid (by rw [HI2.out, HE.out, HD.out, treeFrom_bad (by rw [q1]; rfl), Bool.false_and])
              have K1 := Lib.hid (fun z => in_any A 0 ((k : Int) - 1) (wr.drewN z))
              rw [q1] at K1
              clear q1
              go_wp2
              go_quiet (with_reducible exact quiet_same (K1.out _))
              go_wp2
              go_ret
              exact ⟨ret_bool HR.out.symm, below_drewN HBW.out _⟩
          · obtain rfl : j = q := by omega
            have HTT : Hid (treeFrom k t P0 = true) := Lib.hid (by rw [HE.out, List.drop_eq_nil_of_le (by rw [HTL.out]; exact Nat.le_refl _), treeFrom])
            have HR : Hid (R = stayL LS t n) := Lib.hid (by rw [HI2.out, HTT.out, Bool.true_and])
            have HOK : Hid (PairsOk k t) := Lib.hid (treeFrom_ok k t P0 HTT.out)
            clear HTT HE HI2 HO HBW HO0 HB0
            rename World => wq
            go_wp2
            go_loopw [14, 15, 16, 17, 18] (fun v14 _ _ _ _ wr => ∃ v : Nat, v ≤ n ∧ v14 = .int .i64 v ∧ Hid ((List.range v).all (stayAtL LS t) = true) ∧ Hid (Below w1.heap.size w1 wr)) (fun v14 _ _ _ _ _ => n - (intOf v14).toNat)
            case atStart => exact ⟨0, Nat.zero_le _, rfl, Lib.hid rfl, HB⟩
            case round =>
              obtain ⟨v, hv, rfl, HA, HBv⟩ := hrel
              by_cases hvn : v < n
              · have HNX := Lib.hid (fun h => range_next (stayAtL LS t) v HA.out h)
                have HST : Hid (stayAtL LS t v = false → stayL LS t n = false) := Lib.hid (range_false (stayAtL LS t) n v hvn)
                have HSA : Hid (stayAtL LS t v = decide (cntL LS v k = prtL LS t v j + 1)) := Lib.hid (by rw [stayAtL, HCL.out, HTL.out])
                have HLI : Hid (Lists wr bR 0 LS) := Lib.hid (H1.out.1.below HBv.out)
                have HBw : Hid (Below w.heap.size w wr) := Lib.hid (H1.out.2.trans (HBv.out.mono H1.out.2.size))
                clear HA
                rename World => w2
                go_wp2
                go_loopw [15, 17] (fun v15 v17 wr => ∃ i d : Nat, i ≤ k ∧ d ≤ i ∧ v17 = .int .i64 i ∧ v15 = .int .i64 d ∧ Hid (cntL LS v i = d) ∧ Hid (wr = w2)) (fun _ v17 _ => k - (intOf v17).toNat)
                case atStart => exact ⟨0, 0, Nat.zero_le _, Nat.le_refl _, rfl, rfl, Lib.hid (by simp [cntL]), Lib.hid (by first | rfl | trivial)⟩
                case round =>
                  obtain ⟨i, d, hi, hd, rfl, rfl, HK, HW⟩ := hrel
                  have hwr := HW.out
                  subst hwr
                  clear HW
                  by_cases hik : i < k
                  · have hiL : i < LS.length := by rw [HCL.out]; exact hik
                    obtain ⟨a1, c1, cc, i1⟩ := HLI.out.at hiL
                    have hsm : (LS[i]?.getD []).length ≤ 12 := by rw [List.getElem?_eq_getElem hiL]; exact Nat.le_trans (HSM.out _ (List.getElem_mem hiL)) hn
                    have K1 := Lib.hid (Has_any a1 (LS[i]?.getD []).length c1 (LS[i]?.getD []) (v : Int) wr rfl (by omega) i1)
                    have HY := Lib.hid (fun h => cntL_yes (LS := LS) (v := v) hiL h)
                    have HNo := Lib.hid (fun h => cntL_no (LS := LS) (v := v) hiL h)
                    obtain ⟨r, hr⟩ : ∃ r, decide ((v : Int) ∈ LS[i]?.getD []) = r := ⟨_, rfl⟩
                    obtain ⟨ll, hll⟩ : ∃ ll, (LS[i]?.getD []).length = ll := ⟨_, rfl⟩
                    rw [hll] at cc K1
                    rw [hr] at K1 HY HNo
                    clear hll hsm i1 hiL hr
                    cases r with
                    | true =>
                      have HY2 := Lib.hid (HY.out (by trivial))
                      clear HY HNo
                      go_wp2_with (go_at_call 55; refine K1.out.mono ?_; rintro e w' ⟨rfl, rfl⟩)
                      go_roundw
                      case rel => exact ⟨i + 1, d + 1, by omega, by omega, by go_num, by go_num, Lib.hid (by rw [HY2.out, HK.out]), Lib.hid (by first | rfl | trivial)⟩
                      case measure => simp [intOf]; omega
                    | false =>
                      have HY2 := Lib.hid (HNo.out (by trivial))
                      clear HY HNo
                      go_wp2_with (go_at_call 55; refine K1.out.mono ?_; rintro e w' ⟨rfl, rfl⟩)
                      go_roundw
                      case rel => exact ⟨i + 1, d, by omega, by omega, by go_num, rfl, Lib.hid (by rw [HY2.out, HK.out]), Lib.hid (by first | rfl | trivial)⟩
                      case measure => simp [intOf]; omega
                  · obtain rfl : i = k := by omega
                    have HSK : Hid (stayAtL LS t v = decide (d = prtL LS t v j + 1)) := Lib.hid (by rw [HSA.out, HK.out])
                    clear HSA HK
                    go_wp2
                    go_loopw [16, 18] (fun v16 v18 wx => ∃ s p : Nat, s ≤ j ∧ p ≤ s ∧ v18 = .int .i64 s ∧ v16 = .int .i64 p ∧ Hid (prtL LS t v s = p) ∧ Hid (wx = wr)) (fun _ v18 _ => j - (intOf v18).toNat)
                    case atStart => exact ⟨0, 0, Nat.zero_le _, Nat.le_refl _, rfl, rfl, Lib.hid (by simp [prtL]), Lib.hid (by first | rfl | trivial)⟩
                    case round =>
                      obtain ⟨s, p, hs, hp, rfl, rfl, HPR, HW⟩ := hrel
                      have hwr := HW.out
                      subst hwr
                      clear HW
                      by_cases hsj : s < j
                      · have hsL : s < t.length := by rw [HTL.out]; exact hsj
                        have hsj2 : (s : Int) < (j : Int) := by omega
                        rcases HX.out with h | ⟨bT, oT, rfl, hc'⟩
                        · subst h; simp at hsL
                        obtain ⟨c0, c1⟩ := hc' s hsL
                        replace c0 := (HBw.out.cell (p := ⟨bT, oT + s * 2, none⟩) (World.block_lt_of_cell? w _ c0)).trans c0
                        replace c1 := (HBw.out.cell (p := ⟨bT, oT + s * 2 + 1, none⟩) (World.block_lt_of_cell? w _ c1)).trans c1
                        have hok : 0 ≤ (t[s]?.getD (0, 0)).1 ∧ (t[s]?.getD (0, 0)).1 < (t[s]?.getD (0, 0)).2 ∧ (t[s]?.getD (0, 0)).2 < (i : Int) := by
                          rw [List.getElem?_eq_getElem hsL]; exact HOK.out _ (List.getElem_mem hsL)
                        have HY := Lib.hid (fun h => prtL_yes (LS := LS) (v := v) hsL h)
                        have HNo := Lib.hid (fun h => prtL_no (LS := LS) (v := v) hsL h)
                        obtain ⟨⟨A, B⟩, hAB⟩ : ∃ p, t[s]?.getD (0, 0) = p := ⟨_, rfl⟩
                        rw [hAB] at c0 c1 hok HY HNo
                        simp only [] at c0 c1 hok
                        obtain ⟨x, rfl⟩ := Int.eq_ofNat_of_zero_le (show 0 ≤ A by omega)
                        obtain ⟨y, rfl⟩ := Int.eq_ofNat_of_zero_le (show 0 ≤ B by omega)
                        have hxc : (x : Int) < (i : Int) := by omega
                        have hyc : (y : Int) < (i : Int) := by omega
                        have hxL : x < LS.length := by rw [HCL.out]; omega
                        have hyL : y < LS.length := by rw [HCL.out]; omega
                        obtain ⟨a1, c1', cc1, i1⟩ := HLI.out.at hxL
                        obtain ⟨a2, c2', cc2, i2⟩ := HLI.out.at hyL
                        have hs1 : (LS[x]?.getD []).length ≤ 12 := by rw [List.getElem?_eq_getElem hxL]; exact Nat.le_trans (HSM.out _ (List.getElem_mem hxL)) hn
                        have hs2 : (LS[y]?.getD []).length ≤ 12 := by rw [List.getElem?_eq_getElem hyL]; exact Nat.le_trans (HSM.out _ (List.getElem_mem hyL)) hn
                        have K1 := Lib.hid (Has_any a1 (LS[x]?.getD []).length c1' (LS[x]?.getD []) (v : Int) wr rfl (by omega) i1)
                        have K2 := Lib.hid (Has_any a2 (LS[y]?.getD []).length c2' (LS[y]?.getD []) (v : Int) wr rfl (by omega) i2)
                        have HPH : Hid (pairL LS v ((x : Int), (y : Int)) = (decide ((v : Int) ∈ LS[x]?.getD []) && decide ((v : Int) ∈ LS[y]?.getD []))) := Lib.hid rfl
                        obtain ⟨r1, hr1⟩ : ∃ r, decide ((v : Int) ∈ LS[x]?.getD []) = r := ⟨_, rfl⟩
                        obtain ⟨r2, hr2⟩ : ∃ r, decide ((v : Int) ∈ LS[y]?.getD []) = r := ⟨_, rfl⟩
                        obtain ⟨l1, hl1⟩ : ∃ ll, (LS[x]?.getD []).length = ll := ⟨_, rfl⟩
                        obtain ⟨l2, hl2⟩ : ∃ ll, (LS[y]?.getD []).length = ll := ⟨_, rfl⟩
                        rw [hl1] at cc1 K1
                        rw [hl2] at cc2 K2
                        rw [hr1] at K1 HPH
                        rw [hr2] at K2 HPH
                        clear hl1 hl2 hr1 hr2 hs1 hs2 i1 i2 hxL hyL hsL hc' hAB
                        cases r1 with
                        | false =>
                          have HN2 := Lib.hid (HNo.out (by rw [HPH.out, Bool.false_and]))
                          clear HY HNo HPH K2
                          go_wp2_with (go_at_call 55; refine K1.out.mono ?_; rintro e w' ⟨rfl, rfl⟩)
                          go_roundw
                          case rel => exact ⟨s + 1, p, by omega, by omega, by go_num, rfl, Lib.hid (by rw [HN2.out, HPR.out]), Lib.hid (by first | rfl | trivial)⟩
                          case measure => simp [intOf]; omega
                        | true =>
                          rw [Bool.true_and] at HPH
                          cases r2 with
                          | false =>
                            have HN2 := Lib.hid (HNo.out HPH.out)
                            clear HY HNo HPH
                            go_wp2_with (fail)
                            refine K1.out.mono ?_
                            rintro e w' ⟨rfl, rfl⟩
                            go_wp2_with (fail)
                            refine K2.out.mono ?_
                            rintro e w' ⟨rfl, rfl⟩
                            go_wp2_with (fail)
                            go_roundw
                            case rel => exact ⟨s + 1, p, by omega, by omega, by go_num, rfl, Lib.hid (by rw [HN2.out, HPR.out]), Lib.hid (by first | rfl | trivial)⟩
                            case measure => simp [intOf]; omega
                          | true =>
                            have HN2 := Lib.hid (HY.out HPH.out)
                            clear HY HNo HPH
                            go_wp2_with (fail)
                            refine K1.out.mono ?_
                            rintro e w' ⟨rfl, rfl⟩
                            go_wp2_with (fail)
                            refine K2.out.mono ?_
                            rintro e w' ⟨rfl, rfl⟩
                            go_wp2_with (fail)
                            go_roundw
                            case rel => exact ⟨s + 1, p + 1, by omega, by omega, by go_num, by go_num, Lib.hid (by rw [HN2.out, HPR.out]), Lib.hid (by first | rfl | trivial)⟩
                            case measure => simp [intOf]; omega
                      · obtain rfl : s = j := by omega
                        have wd0 : IntKind.i64.wrap ((d : Int) - 1) = (d : Int) - 1 := IntWalk.i64_in _ (by omega)
                        by_cases hdp : d = p + 1
                        · have HT2 := Lib.hid (HNX.out (by rw [HSK.out, HPR.out, decide_eq_true hdp]))
                          have hb9 : ((p : Int) != (d : Int) - 1) = false := by rw [bne_eq_false_iff_eq]; omega
                          clear HSK HPR hdp
                          go_wp2
                          go_roundw
                          case rel => exact ⟨v + 1, by omega, by go_num, HT2, HBv⟩
                          case measure => simp [intOf]; omega
                        · have HT2 := Lib.hid (HST.out (by rw [HSK.out, HPR.out, decide_eq_false hdp]))
                          have hb9 : ((p : Int) != (d : Int) - 1) = true := by rw [bne_iff_ne]; omega
                          clear HSK HPR hdp
                          go_wp2
                          go_ret
                          exact ⟨ret_bool (by rw [HR.out]; exact HT2.out.symm), HBw.out⟩
              · obtain rfl : v = n := by omega
                go_wp2
                go_ret
                exact ⟨ret_bool (by rw [HR.out]; exact HA.out.symm), H1.out.2.trans (HBv.out.mono H1.out.2.size)⟩
  · have HR : Hid (R = false) := Lib.hid (by rw [HI.out, decide_eq_false hqc, Bool.false_and, Bool.false_and])
    have hb : ((q : Int) != (c : Int) - 1) = true := by rw [bne_iff_ne]; omega
    clear hqc HI
    go_wp2_with (go_at_call 21; refine HRC.out.mono ?_; rintro e w1 ⟨bR, cR, rfl, hR1, hb1⟩; rw [HCL.out]; have H1 := Lib.hid hb1; clear hR1 hb1)
    go_ret
    exact ⟨ret_bool HR.out.symm, H1.out⟩

end Go.Proofs.Ytdlfoompfaipnaa
