/-
  The walk of 'RibEliminates'.
-/
import Derived.Test.YticafbfijpjbnaaRz
import Derived.Test.YticafbfijpjbnaaSa
namespace Go.Proofs.Yticafbfijpjbnaa
open Go.RowKit Go.Sort

/-- What stays as the law goes on. -/
def St (w : World) (B : Nat) (N : Int) (aE : Option Addr) (m cE : Nat) (es : List (Int × Int)) (aO : Option Addr) (os : List Int) (aL : Option Addr) (ls : List Int) (wc : World) : Prop :=
  Below w.heap.size w wc ∧ Edges wc aE es ∧ Ints wc aO os ∧ Ints wc aL ls ∧ wc.cell? ⟨B, 0, none⟩ = some (.int .i64 N) ∧ wc.cell? ⟨B, 1, none⟩ = some (.slice aE m cE)
theorem St.next {w : World} {B : Nat} {N : Int} {aE : Option Addr} {m cE : Nat} {es : List (Int × Int)} {aO : Option Addr} {os : List Int} {aL : Option Addr} {ls : List Int} {wc w' : World} (h : St w B N aE m cE es aO os aL ls wc) (hb : Below wc.heap.size wc w') : St w B N aE m cE es aO os aL ls w' := by
  obtain ⟨h1, h2, h3, h4, h5, h6⟩ := h
  exact ⟨h1.trans (hb.mono h1.size), h2.below hb, h3.below hb, h4.below hb, (hb.cell (World.block_lt_of_cell? wc _ h5)).trans h5, (hb.cell (World.block_lt_of_cell? wc _ h6)).trans h6⟩

set_option maxRecDepth 100000 in
set_option maxHeartbeats 8000000 in
theorem RibEliminates_any (N0 : Int) (a aY aZ : Option Addr) (m0 cap nY cY nZ cZ : Nat) (es0 : List (Int × Int)) (ys zs : List Int) (w : World) (hl : es0.length = m0) (hm : m0 ≤ 9223372036854775807) (hcap : m0 ≤ cap) (hnone : a = none → cap = 0) (he : Edges w a es0)
    (hlY : ys.length = nY) (hmY : nY ≤ 9223372036854775807) (hcY : nY ≤ cY) (hnY : aY = none → cY = 0) (hY : Ints w aY ys) (hlZ : zs.length = nZ) (hmZ : nZ ≤ 9223372036854775807) (hcZ : nZ ≤ cZ) (hnZ : aZ = none → cZ = 0) (hZ : Ints w aZ zs) :
    Calls Try.prog 3 #[.agg #[.int .i64 N0, .slice a m0 cap], .slice aY nY cY, .slice aZ nZ cZ] w fun e w' => e = .returned (.bool true) ∧ Below w.heap.size w w' := by
  have hb0 : Below w.heap.size w (w.alloc (.cells #[.int .i64 N0, .slice a m0 cap] 24)) := (Below.refl _ w).alloc (Nat.le_refl _) _
  have HF := Lib.hid (few_any N0 a m0 cap es0 (w.alloc (.cells #[.int .i64 N0, .slice a m0 cap] 24)) hl hm hcap hnone (he.below hb0))
  have HCY := Lib.hid (fun (wx : World) (hx : Below w.heap.size w wx) => cut_any aY nY cY 14 ys wx hlY hmY hcY hnY (by omega) (hY.below hx))
  have HCZ := Lib.hid (fun (wx : World) (hx : Below w.heap.size w wx) => cut_any aZ nZ cZ 14 zs wx hlZ hmZ hcZ hnZ (by omega) (hZ.below hx))
  have HB0 := Lib.hid hb0
  obtain ⟨N, hN⟩ : ∃ N, fewN N0 = N := ⟨_, rfl⟩
  obtain ⟨es, hes⟩ : ∃ es, fewE es0 = es := ⟨_, rfl⟩
  obtain ⟨os, hos⟩ : ∃ os, ys.take 14 = os := ⟨_, rfl⟩
  obtain ⟨ls, hls⟩ : ∃ ls, zs.take 14 = ls := ⟨_, rfl⟩
  have hel : es.length ≤ 70 := by rw [← hes, fewE, List.length_take]; omega
  have hol : os.length ≤ 14 := by rw [← hos, List.length_take]; omega
  have hll : ls.length ≤ 14 := by rw [← hls, List.length_take]; omega
  unfold FewV at HF
  rw [hN, hes] at HF
  rw [hos] at HCY
  rw [hls] at HCZ
  obtain ⟨m, hm'⟩ : ∃ m, es.length = m := ⟨_, rfl⟩
  obtain ⟨p, hp'⟩ : ∃ p, os.length = p := ⟨_, rfl⟩
  obtain ⟨r, hr'⟩ : ∃ r, ls.length = r := ⟨_, rfl⟩
  rw [hm'] at hel HF
  rw [hp'] at hol
  rw [hr'] at hll
  have HLm := Lib.hid hm'
  have HLp := Lib.hid hp'
  have HLr := Lib.hid hr'
  have HNE := Lib.hid (And.intro hN hes)
  clear hb0 hl hm hcap hnone he hlY hmY hcY hnY hY hlZ hmZ hcZ hnZ hZ hN hes hos hls hm' hp' hr'
  have HLV := Lib.hid (fun wx => lives_any wx)
  go_enter Try.func3, Try.ntmps3
  go_wp2_with (go_at_call 11; refine HF.out.mono ?_; rintro e w1 ⟨aE, cE, rfl, he1, hb1⟩; have H1 := Lib.hid (And.intro he1 (HB0.out.trans (hb1.mono HB0.out.size))); clear he1 hb1)
  refine (HCY.out w1 H1.out.2).mono ?_
  rintro e w2 ⟨aO, cO, rfl, hi2, hb2⟩
  rw [HLp.out]
  have H2 := Lib.hid (And.intro (H1.out.1.below hb2) (And.intro hi2 (H1.out.2.trans (hb2.mono H1.out.2.size))))
  clear hi2 hb2
  go_wp2_with (fail)
  refine (HCZ.out w2 H2.out.2.2).mono ?_
  rintro e w3 ⟨aL, cL, rfl, hi3, hb3⟩
  rw [HLr.out]
  have H3 := Lib.hid (And.intro (H2.out.1.below hb3) (And.intro (H2.out.2.1.below hb3) (And.intro hi3 (H2.out.2.2.trans (hb3.mono H2.out.2.2.size)))))
  clear hi3 hb3 H1 H2
  have h3w := H3.out.2.2.2.size
  have hb4 := (Below.refl _ w3).alloc (Nat.le_refl _) (.cells #[.int .i64 N, .slice aE m cE] 24)
  have HS4 : Hid (St w w3.heap.size N aE m cE es aO os aL ls (w3.alloc (.cells #[.int .i64 N, .slice aE m cE] 24))) := Lib.hid ⟨H3.out.2.2.2.alloc h3w _, H3.out.1.below hb4, H3.out.2.1.below hb4, H3.out.2.2.1.below hb4, by simp, by simp⟩
  have HEL := Lib.hid (fun (wx : World) (hx : St w w3.heap.size N aE m cE es aO os aL ls wx) => Eliminates_any N aE aO m cE p cO es os wx HLm.out (by omega) hx.2.1 HLp.out (by omega) hx.2.2.1)
  have HIR := Lib.hid (fun (wx : World) (hx : St w w3.heap.size N aE m cE es aO os aL ls wx) => IsRing_any N aE aL m cE r cL es ls wx HLm.out (by omega) hx.2.1 HLr.out (by omega) hx.2.2.2.1)
  have HGR := Lib.hid (fun (wx : World) (hx : St w w3.heap.size N aE m cE es aO os aL ls wx) => Graph_any aE m cE es N wx HLm.out (by omega) hx.2.1)
  clear hb4 HF HCY HCZ H3
  rcases Bool.eq_false_or_eq_true (graphR N es) with hg | hg
  · have hNb : 1 ≤ N ∧ N ≤ 12 := by
      have := hg
      simp only [graphR, inR, Bool.and_eq_true, decide_eq_true_eq] at this
      exact this.1
    have hN1 := hNb.1
    have hN2 := hNb.2
    have HPM := Lib.hid (fun (wx : World) (hx : St w w3.heap.size N aE m cE es aO os aL ls wx) => Permutation_any aO p cO os N wx HLp.out (by omega) (by omega) (by omega) hx.2.2.1)
    have HRE := Lib.hid (fun (wx : World) (hx : St w w3.heap.size N aE m cE es aO os aL ls wx) => RefElim_any aE aO m cE p cO es os wx HLm.out (by omega) hx.2.1 HLp.out (by omega) hx.2.2.1)
    have HRR := Lib.hid (fun (wx : World) (hx : St w w3.heap.size N aE m cE es aO os aL ls wx) => RefRing_any aE aL m cE r cL es ls wx HLm.out (by omega) hx.2.1 HLr.out (by omega) hx.2.2.2.1)
    have e3 : isRingB N es ls = (nodesB N ls && ringR es ls) := by rw [isRingB, hg, Bool.true_and]
    have e4 : isRingE N es ls = if nodesB N ls = true then 0 else 2 := by rw [isRingE, if_pos hg]
    obtain ⟨nb, hnb⟩ : ∃ nb, nodesB N ls = nb := ⟨_, rfl⟩
    have HNB := Lib.hid hnb
    obtain ⟨rr, hrr⟩ : ∃ rr, ringR es ls = rr := ⟨_, rfl⟩
    rw [hrr] at HRR e3
    rw [hnb] at e3 e4
    obtain ⟨rb, hrb⟩ : ∃ rb, isRingB N es ls = rb := ⟨_, rfl⟩
    obtain ⟨fe, hfe⟩ : ∃ fe, isRingE N es ls = fe := ⟨_, rfl⟩
    rw [hrb] at HIR e3
    rw [hfe] at HIR e4
    have HE34 := Lib.hid (And.intro e3 e4)
    rw [hg] at HGR
    clear e3 e4 hrb hfe hnb hrr hNb
    rcases Bool.eq_false_or_eq_true (permR os N) with hp | hp
    · have e1 : elimB N es os = elimR es os := by rw [elimB, hg, hp, Bool.true_and, Bool.true_and]
      have e2 : elimE N es os = 0 := by rw [elimE, if_pos hg, if_pos hp]
      rw [e1, e2] at HEL
      rw [hp] at HPM
      obtain ⟨q, hq⟩ : ∃ q, elimR es os = q := ⟨_, rfl⟩
      rw [hq] at HEL HRE
      clear e1 e2 hq hp hg
      go_wp2_with (fail)
      refine (HEL.out _ HS4.out).mono ?_
      rintro e w5 ⟨rfl, hb5⟩
      have HS5 := Lib.hid (HS4.out.next hb5)
      have d0 := HS5.out.2.2.2.2.1
      have d1 := HS5.out.2.2.2.2.2
      clear hb5 HS4
      go_wp2_with (fail)
      refine (HIR.out _ HS5.out).mono ?_
      rintro e w6 ⟨rfl, hb6⟩
      have HS6 := Lib.hid (HS5.out.next hb6)
      replace d0 := HS6.out.2.2.2.2.1
      replace d1 := HS6.out.2.2.2.2.2
      clear hb6 HS5
      go_wp2_with (fail)
      refine (HGR.out _ HS6.out).mono ?_
      rintro e w7 ⟨rfl, hb7⟩
      have HS7 := Lib.hid (HS6.out.next hb7)
      replace d0 := HS7.out.2.2.2.2.1
      replace d1 := HS7.out.2.2.2.2.2
      clear hb7 HS6
      go_wp2_with (fail)
      refine (HPM.out _ HS7.out).mono ?_
      rintro e w8 ⟨rfl, hb8⟩
      have HS8 := Lib.hid (HS7.out.next hb8)
      replace d0 := HS8.out.2.2.2.2.1
      replace d1 := HS8.out.2.2.2.2.2
      clear hb8 HS7
      go_wp2_with (fail)
      refine (HRE.out _ HS8.out).mono ?_
      rintro e w9 ⟨rfl, hb9⟩
      have HS9 := Lib.hid (HS8.out.next hb9)
      replace d0 := HS9.out.2.2.2.2.1
      replace d1 := HS9.out.2.2.2.2.2
      clear hb9 HS8
      cases q
      all_goals
        go_wp2_with (fail)
        refine (HLV.out _).mono ?_
        rintro e wv ⟨rfl, hbv⟩
        have HSV := Lib.hid (HS9.out.next hbv)
        clear hbv HS9 d0 d1
        go_wp2_with (fail)
        go_loopw [16] (fun i wr => ∃ k : Nat, k ≤ r ∧ i = .int .i64 k ∧ Hid ((ls.take k).all (fun z => inR z 0 (N - 1)) = true) ∧ Hid (St w w3.heap.size N aE m cE es aO os aL ls wr)) (fun i _ => r - (intOf i).toNat)
        case atStart => exact ⟨0, Nat.zero_le _, rfl, Lib.hid (by simp), HSV⟩
        case round =>
          obtain ⟨k, hk, rfl, HA, HSR⟩ := hrel
          by_cases hlt : k < r
          · have hkL : k < ls.length := by rw [HLr.out]; exact hlt
            rcases HSR.out.2.2.2.1.at with h | ⟨b, off, rfl, hc⟩
            · rw [h] at hkL; simp at hkL
            have cc := hc k hkL
            have e0 : ls[k]?.getD 0 = ls[k] := by simp [hkL]
            rw [e0] at cc
            have d0 := HSR.out.2.2.2.2.1
            have hkr : (k : Int) < (r : Int) := by omega
            have HGD := Lib.hid (fun h => all_take_next (fun z => inR z 0 (N - 1)) ls k hkL HA.out h)
            have HBD := Lib.hid (fun h => all_at_false (fun z => inR z 0 (N - 1)) ls k hkL h)
            obtain ⟨z, hz⟩ : ∃ z, ls[k] = z := ⟨_, rfl⟩
            rw [hz] at cc
            have HZ := Lib.hid hz
            clear hc e0 hz
            by_cases h1 : z < 0
            · have e5 : nodesB N ls = false := HBD.out (by rw [HZ.out]; simp [inR]; omega)
              have e6 : nb = false := by rw [← HNB.out]; exact e5
              obtain ⟨e7, e8⟩ := HE34.out
              rw [e6] at e7 e8
              simp only [Bool.false_and, Bool.false_eq_true, if_false] at e7 e8
              subst e7 e8
              have q2 : decide (z < 0) = true := decide_eq_true h1
              clear e5 e6 HGD HBD
              go_wp2
              go_quiet (fail)
              go_wp2
              go_ret
              exact ⟨rfl, below_drewN HSR.out.1 _⟩
            · have q1 : 0 ≤ z := by omega
              have q2 : decide (z < 0) = false := decide_eq_false h1
              have q3 : (z < 0) = False := eq_false h1
              by_cases h2 : N ≤ z
              · have e5 : nodesB N ls = false := HBD.out (by rw [HZ.out]; simp [inR]; omega)
                have e6 : nb = false := by rw [← HNB.out]; exact e5
                obtain ⟨e7, e8⟩ := HE34.out
                rw [e6] at e7 e8
                simp only [Bool.false_and, Bool.false_eq_true, if_false] at e7 e8
                subst e7 e8
                clear e5 e6 HGD HBD
                go_wp2
                go_quiet (fail)
                go_wp2
                go_ret
                exact ⟨rfl, below_drewN HSR.out.1 _⟩
              · have q4 : decide (N ≤ z) = false := decide_eq_false h2
                have q5 : (N ≤ z) = False := eq_false h2
                have HGZ := Lib.hid (HGD.out (by rw [HZ.out]; simp [inR]; omega))
                clear HGD HBD
                go_wp2
                go_quiet (fail)
                go_wp2
                go_roundw
                case rel => exact ⟨k + 1, by omega, by go_num, HGZ, Lib.hid (HSR.out.next (below_drewN (Below.refl _ _) _))⟩
                case measure => simp [intOf]; omega
          · obtain rfl : k = r := by omega
            have e6 : nb = true := by
              rw [← HNB.out, nodesB]
              have := HA.out
              rwa [List.take_of_length_le (by rw [HLr.out]; exact Nat.le_refl _)] at this
            obtain ⟨e7, e8⟩ := HE34.out
            rw [e6] at e7 e8
            simp only [Bool.true_and, if_true] at e7 e8
            subst e7 e8
            have d0 := HSR.out.2.2.2.2.1
            have d1 := HSR.out.2.2.2.2.2
            clear e6
            cases rb
            all_goals
              go_wp2_with (fail)
              refine (HRR.out _ HSR.out).mono ?_
              rintro e wz ⟨rfl, hbz⟩
              have HBZ := Lib.hid (HSR.out.1.trans (hbz.mono HSR.out.1.size))
              clear hbz
              go_wp2_with (fail)
              go_ret
              exact ⟨rfl, HBZ.out⟩
    · have e1 : elimB N es os = false := by rw [elimB, hg, hp, Bool.true_and, Bool.false_and]
      have e2 : elimE N es os = 2 := by rw [elimE, if_pos hg, if_neg (by rw [hp]; simp)]
      rw [e1, e2] at HEL
      rw [hp] at HPM
      clear e1 e2 hp hg
      go_wp2_with (fail)
      refine (HEL.out _ HS4.out).mono ?_
      rintro e w5 ⟨rfl, hb5⟩
      have HS5 := Lib.hid (HS4.out.next hb5)
      have d0 := HS5.out.2.2.2.2.1
      have d1 := HS5.out.2.2.2.2.2
      clear hb5 HS4
      go_wp2_with (fail)
      refine (HIR.out _ HS5.out).mono ?_
      rintro e w6 ⟨rfl, hb6⟩
      have HS6 := Lib.hid (HS5.out.next hb6)
      replace d0 := HS6.out.2.2.2.2.1
      replace d1 := HS6.out.2.2.2.2.2
      clear hb6 HS5
      go_wp2_with (fail)
      refine (HGR.out _ HS6.out).mono ?_
      rintro e w7 ⟨rfl, hb7⟩
      have HS7 := Lib.hid (HS6.out.next hb7)
      replace d0 := HS7.out.2.2.2.2.1
      replace d1 := HS7.out.2.2.2.2.2
      clear hb7 HS6
      go_wp2_with (fail)
      refine (HPM.out _ HS7.out).mono ?_
      rintro e w8 ⟨rfl, hb8⟩
      have HS8 := Lib.hid (HS7.out.next hb8)
      replace d0 := HS8.out.2.2.2.2.1
      replace d1 := HS8.out.2.2.2.2.2
      clear hb8 HS7
      go_wp2_with (fail)
      refine (HLV.out _).mono ?_
      rintro e wv ⟨rfl, hbv⟩
      have HSV := Lib.hid (HS8.out.next hbv)
      clear hbv HS8 d0 d1
      go_wp2_with (fail)
      go_loopw [16] (fun i wr => ∃ k : Nat, k ≤ r ∧ i = .int .i64 k ∧ Hid ((ls.take k).all (fun z => inR z 0 (N - 1)) = true) ∧ Hid (St w w3.heap.size N aE m cE es aO os aL ls wr)) (fun i _ => r - (intOf i).toNat)
      case atStart => exact ⟨0, Nat.zero_le _, rfl, Lib.hid (by simp), HSV⟩
      case round =>
        obtain ⟨k, hk, rfl, HA, HSR⟩ := hrel
        by_cases hlt : k < r
        · have hkL : k < ls.length := by rw [HLr.out]; exact hlt
          rcases HSR.out.2.2.2.1.at with h | ⟨b, off, rfl, hc⟩
          · rw [h] at hkL; simp at hkL
          have cc := hc k hkL
          have e0 : ls[k]?.getD 0 = ls[k] := by simp [hkL]
          rw [e0] at cc
          have d0 := HSR.out.2.2.2.2.1
          have hkr : (k : Int) < (r : Int) := by omega
          have HGD := Lib.hid (fun h => all_take_next (fun z => inR z 0 (N - 1)) ls k hkL HA.out h)
          have HBD := Lib.hid (fun h => all_at_false (fun z => inR z 0 (N - 1)) ls k hkL h)
          obtain ⟨z, hz⟩ : ∃ z, ls[k] = z := ⟨_, rfl⟩
          rw [hz] at cc
          have HZ := Lib.hid hz
          clear hc e0 hz
          by_cases h1 : z < 0
          · have e5 : nodesB N ls = false := HBD.out (by rw [HZ.out]; simp [inR]; omega)
            have e6 : nb = false := by rw [← HNB.out]; exact e5
            obtain ⟨e7, e8⟩ := HE34.out
            rw [e6] at e7 e8
            simp only [Bool.false_and, Bool.false_eq_true, if_false] at e7 e8
            subst e7 e8
            have q2 : decide (z < 0) = true := decide_eq_true h1
            clear e5 e6 HGD HBD
            go_wp2
            go_quiet (fail)
            go_wp2
            go_ret
            exact ⟨rfl, below_drewN HSR.out.1 _⟩
          · have q1 : 0 ≤ z := by omega
            have q2 : decide (z < 0) = false := decide_eq_false h1
            have q3 : (z < 0) = False := eq_false h1
            by_cases h2 : N ≤ z
            · have e5 : nodesB N ls = false := HBD.out (by rw [HZ.out]; simp [inR]; omega)
              have e6 : nb = false := by rw [← HNB.out]; exact e5
              obtain ⟨e7, e8⟩ := HE34.out
              rw [e6] at e7 e8
              simp only [Bool.false_and, Bool.false_eq_true, if_false] at e7 e8
              subst e7 e8
              clear e5 e6 HGD HBD
              go_wp2
              go_quiet (fail)
              go_wp2
              go_ret
              exact ⟨rfl, below_drewN HSR.out.1 _⟩
            · have q4 : decide (N ≤ z) = false := decide_eq_false h2
              have q5 : (N ≤ z) = False := eq_false h2
              have HGZ := Lib.hid (HGD.out (by rw [HZ.out]; simp [inR]; omega))
              clear HGD HBD
              go_wp2
              go_quiet (fail)
              go_wp2
              go_roundw
              case rel => exact ⟨k + 1, by omega, by go_num, HGZ, Lib.hid (HSR.out.next (below_drewN (Below.refl _ _) _))⟩
              case measure => simp [intOf]; omega
        · obtain rfl : k = r := by omega
          have e6 : nb = true := by
            rw [← HNB.out, nodesB]
            have := HA.out
            rwa [List.take_of_length_le (by rw [HLr.out]; exact Nat.le_refl _)] at this
          obtain ⟨e7, e8⟩ := HE34.out
          rw [e6] at e7 e8
          simp only [Bool.true_and, if_true] at e7 e8
          subst e7 e8
          have d0 := HSR.out.2.2.2.2.1
          have d1 := HSR.out.2.2.2.2.2
          clear e6
          cases rb
          all_goals
            go_wp2_with (fail)
            refine (HRR.out _ HSR.out).mono ?_
            rintro e wz ⟨rfl, hbz⟩
            have HBZ := Lib.hid (HSR.out.1.trans (hbz.mono HSR.out.1.size))
            clear hbz
            go_wp2_with (fail)
            go_ret
            exact ⟨rfl, HBZ.out⟩
  · have e1 : elimB N es os = false := by rw [elimB, hg, Bool.false_and]
    have e2 : elimE N es os = 1 := by rw [elimE, if_neg (by rw [hg]; simp)]
    have e3 : isRingB N es ls = false := by rw [isRingB, hg, Bool.false_and]
    have e4 : isRingE N es ls = 1 := by rw [isRingE, if_neg (by rw [hg]; simp)]
    rw [e1, e2] at HEL
    rw [e3, e4] at HIR
    rw [hg] at HGR
    clear e1 e2 e3 e4 hg
    go_wp2_with (fail)
    refine (HEL.out _ HS4.out).mono ?_
    rintro e w5 ⟨rfl, hb5⟩
    have HS5 := Lib.hid (HS4.out.next hb5)
    have d0 := HS5.out.2.2.2.2.1
    have d1 := HS5.out.2.2.2.2.2
    clear hb5 HS4
    go_wp2_with (fail)
    refine (HIR.out _ HS5.out).mono ?_
    rintro e w6 ⟨rfl, hb6⟩
    have HS6 := Lib.hid (HS5.out.next hb6)
    replace d0 := HS6.out.2.2.2.2.1
    replace d1 := HS6.out.2.2.2.2.2
    clear hb6 HS5
    go_wp2_with (fail)
    refine (HGR.out _ HS6.out).mono ?_
    rintro e w7 ⟨rfl, hb7⟩
    have HS7 := Lib.hid (HS6.out.next hb7)
    replace d0 := HS7.out.2.2.2.2.1
    replace d1 := HS7.out.2.2.2.2.2
    clear hb7 HS6
    go_wp2_with (fail)
    refine (HLV.out _).mono ?_
    rintro e w8 ⟨rfl, hb8⟩
    have HS8 := Lib.hid (HS7.out.next hb8)
    clear hb8 HS7 d0 d1
    go_wp2_with (fail)
    go_ret
    exact ⟨rfl, HS8.out.1⟩

end Go.Proofs.Yticafbfijpjbnaa
