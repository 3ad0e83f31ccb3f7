/-
  The reference: the walk of 'Graph'.
-/
import Derived.Test.YthlbedhjekbfpaaDoorRl
namespace Go.Proofs.YthlbedhjekbfpaaDoor
open Go.RowKit Go.Sort

theorem validFrom_cons (n : Int) (es : List (Int × Int)) (k : Nat) (hk : k < es.length) : validFrom n (es.take k) (es.drop k) = (okE n (es.take k) es[k] && validFrom n (es.take (k + 1)) (es.drop (k + 1))) := by
  rw [List.drop_eq_getElem_cons hk, validFrom, List.take_succ_eq_append_getElem hk]

set_option maxRecDepth 100000 in
set_option maxHeartbeats 4000000 in
theorem Graph_any (a : Option Addr) (m cap : Nat) (es : List (Int × Int)) (N : Int) (w : World) (hl : es.length = m) (hm : m ≤ 1000) (he : Edges w a es) :
    Calls Tryd.prog 37 #[.int .i64 N, .slice a m cap] w fun e w' => e = .returned (.bool (graphR N es)) ∧ Below w.heap.size w w' := by
  have HE := Lib.hid he
  have HL := Lib.hid hl
  have HI := Lib.hid (fun wx => in_any N 1 12 wx)
  clear he hl
  rcases Bool.eq_false_or_eq_true (inR N 1 12) with hN | hN
  · have hN2 : 1 ≤ N ∧ N ≤ 12 := by simpa [inR] using hN
    obtain ⟨n, rfl⟩ := Int.eq_ofNat_of_zero_le (show 0 ≤ N by omega)
    have HG : Hid (graphR n es = validFrom n [] es) := Lib.hid (by rw [graphR, hN, Bool.true_and])
    rw [hN] at HI
    clear hN
    go_enter Tryd.func37, Tryd.ntmps37
    go_wp2_with (go_at_call 40; refine (HI.out w).mono ?_; rintro e w' ⟨rfl, rfl⟩)
    go_loopw [5, 6] (fun i _ wr => ∃ k : Nat, k ≤ m ∧ i = .int .i64 k ∧ Hid (graphR n es = validFrom n (es.take k) (es.drop k)) ∧ Below w.heap.size w wr) (fun i _ _ => m - (intOf i).toNat)
    case atStart => exact ⟨0, Nat.zero_le _, rfl, Lib.hid HG.out, Below.refl _ _⟩
    case round =>
      obtain ⟨k, hk, rfl, HV, hb⟩ := hrel
      have HB := Lib.hid hb
      clear hb
      rename World => w1
      by_cases hlt : k < m
      · have hkL : k < es.length := by rw [HL.out]; exact hlt
        rcases HE.out with h | ⟨b, off, rfl, hc⟩
        · subst h; simp at hkL
        have HC := Lib.hid hc
        obtain ⟨c0, c1⟩ := hc k hkL
        have e0 : es[k]?.getD (0, 0) = es[k] := by simp [hkL]
        rw [e0] at c0 c1
        replace c0 := (HB.out.cell (p := ⟨b, off + k * 2, none⟩) (World.block_lt_of_cell? w _ c0)).trans c0
        replace c1 := (HB.out.cell (p := ⟨b, off + k * 2 + 1, none⟩) (World.block_lt_of_cell? w _ c1)).trans c1
        have HOK : Hid (graphR n es = (okE n (es.take k) es[k] && validFrom n (es.take (k + 1)) (es.drop (k + 1)))) := Lib.hid (by rw [HV.out, validFrom_cons _ _ _ hkL])
        have HEK : Hid (es[k]?.getD (0, 0) = es[k]) := Lib.hid e0
        obtain ⟨⟨A, B⟩, hAB⟩ : ∃ e, es[k] = e := ⟨_, rfl⟩
        rw [hAB] at c0 c1 HOK HEK
        simp only [] at c0 c1
        clear hc e0 hAB
        rcases Bool.eq_false_or_eq_true (inR A 0 ((n : Int) - 1)) with q1 | q1
        · have hA : 0 ≤ A ∧ A ≤ (n : Int) - 1 := by simpa [inR] using q1
          have hA1 := hA.1
          have hA2 := hA.2
          rcases Bool.eq_false_or_eq_true (inR B (A + 1) ((n : Int) - 1)) with q2 | q2
          · have K1 := Lib.hid (fun q => in_any A 0 ((n : Int) - 1) (w1.drewN q))
            have K2 := Lib.hid (fun q => in_any B (A + 1) ((n : Int) - 1) (w1.drewN q))
            rw [q1] at K1
            rw [q2] at K2
            have HOK2 : Hid (graphR n es = (!((es.take k).any (· == (A, B))) && validFrom n (es.take (k + 1)) (es.drop (k + 1)))) := Lib.hid (by rw [HOK.out, okE, q1, q2, Bool.true_and, Bool.true_and])
            clear q1 q2 HOK hA
            go_wp2
            go_quiet ((first | (with_reducible exact quiet_same (K1.out _)) | (with_reducible exact quiet_same (K2.out _))))
            go_wp2
            clear c0 c1
            go_loopw [6] (fun i wr => ∃ j : Nat, j ≤ k ∧ i = .int .i64 j ∧ Hid ((es.take j).any (· == (A, B)) = false) ∧ Below w.heap.size w wr) (fun i _ => k - (intOf i).toNat)
            case atStart => exact ⟨0, Nat.zero_le _, rfl, Lib.hid (by simp), below_drewN HB.out _⟩
            case round =>
              obtain ⟨j, hjk, rfl, HA2, hb2⟩ := hrel
              have HB2 := Lib.hid hb2
              clear hb2
              by_cases hlt2 : j < k
              · have hjm : (j : Int) < (m : Int) := by omega
                have hjL : j < es.length := by omega
                have hkm : (k : Int) < (m : Int) := by omega
                obtain ⟨c0, c1⟩ := HC.out k hkL
                rw [HEK.out] at c0 c1
                simp only [] at c0 c1
                obtain ⟨d0, d1⟩ := HC.out j hjL
                have e0 : es[j]?.getD (0, 0) = es[j] := by simp [hjL]
                rw [e0] at d0 d1
                replace c0 := (HB2.out.cell (p := ⟨b, off + k * 2, none⟩) (World.block_lt_of_cell? w _ c0)).trans c0
                replace c1 := (HB2.out.cell (p := ⟨b, off + k * 2 + 1, none⟩) (World.block_lt_of_cell? w _ c1)).trans c1
                replace d0 := (HB2.out.cell (p := ⟨b, off + j * 2, none⟩) (World.block_lt_of_cell? w _ d0)).trans d0
                replace d1 := (HB2.out.cell (p := ⟨b, off + j * 2 + 1, none⟩) (World.block_lt_of_cell? w _ d1)).trans d1
                have HN : Hid ((es[j] == (A, B)) = false → (es.take (j + 1)).any (· == (A, B)) = false) := Lib.hid (any_next (· == (A, B)) es j hjL HA2.out)
                have HF : Hid ((es[j] == (A, B)) = true → (es.take k).any (· == (A, B)) = true) := Lib.hid (fun h => List.any_eq_true.2 ⟨es[j], by rw [List.mem_take_iff_getElem]; exact ⟨j, by omega, rfl⟩, h⟩)
                obtain ⟨⟨C, D⟩, hCD⟩ : ∃ e, es[j] = e := ⟨_, rfl⟩
                rw [hCD] at d0 d1 HN HF
                simp only [] at d0 d1
                have HQ : Hid ((((C, D) : Int × Int) == (A, B)) = (C == A && D == B)) := Lib.hid rfl
                rw [HQ.out] at HN HF
                clear hCD e0 HQ
                have hS := pairS
                have hP := pairP
                have hG := pairG
                have hQ := fun wx => eqPair C D A B wx
                obtain ⟨q, hq⟩ : ∃ q, (C == A && D == B) = q := ⟨_, rfl⟩
                rw [hq] at HN HF
                simp only [hq] at hQ
                clear hq
                cases q with
                | true =>
                  go_wp2
                  go_quiet (fail)
                  go_wp2
                  go_ret
                  exact ⟨ret_bool (Eq.symm (by rw [HOK2.out, HF.out (by trivial)]; rfl)), below_drewN HB2.out _⟩
                | false =>
                  go_wp2
                  go_quiet (fail)
                  go_wp2
                  go_roundw
                  case rel => exact ⟨j + 1, by omega, by go_num, Lib.hid (HN.out (by trivial)), below_drewN HB2.out _⟩
                  case measure => simp [intOf]; omega
              · obtain rfl : j = k := by omega
                go_wp2
                go_roundw
                case rel => exact ⟨j + 1, by omega, by go_num, Lib.hid (by rw [HOK2.out, HA2.out]; rfl), HB2.out⟩
                case measure => simp [intOf]; omega
          · have K1 := Lib.hid (fun q => in_any A 0 ((n : Int) - 1) (w1.drewN q))
            have K2 := Lib.hid (fun q => in_any B (A + 1) ((n : Int) - 1) (w1.drewN q))
            rw [q1] at K1
            rw [q2] at K2
            have HOK2 : Hid (graphR n es = false) := Lib.hid (by rw [HOK.out, okE, q1, q2, Bool.true_and, Bool.false_and, Bool.false_and])
            clear q1 q2 HOK hA
            go_wp2
            go_quiet ((first | (with_reducible exact quiet_same (K1.out _)) | (with_reducible exact quiet_same (K2.out _))))
            go_wp2
            go_ret
            exact ⟨ret_bool HOK2.out.symm, below_drewN HB.out _⟩
        · have K1 := Lib.hid (fun q => in_any A 0 ((n : Int) - 1) (w1.drewN q))
          rw [q1] at K1
          have HOK2 : Hid (graphR n es = false) := Lib.hid (by rw [HOK.out, okE, q1, Bool.false_and, Bool.false_and])
          clear q1 HOK
          go_wp2
          go_quiet (with_reducible exact quiet_same (K1.out _))
          go_wp2
          go_ret
          exact ⟨ret_bool HOK2.out.symm, below_drewN HB.out _⟩
      · obtain rfl : k = m := by omega
        go_wp2
        go_ret
        refine ⟨ret_bool (Eq.symm ?_), HB.out⟩
        rw [HV.out, List.drop_eq_nil_of_le (by rw [HL.out]; exact Nat.le_refl _), validFrom]
  · have HG : Hid (graphR N es = false) := Lib.hid (by rw [graphR, hN, Bool.false_and])
    rw [hN] at HI
    clear hN
    go_enter Tryd.func37, Tryd.ntmps37
    go_wp2_with (go_at_call 40; refine (HI.out w).mono ?_; rintro e w' ⟨rfl, rfl⟩)
    go_ret
    exact ⟨ret_bool HG.out.symm, Below.refl _ _⟩

end Go.Proofs.YthlbedhjekbfpaaDoor
