/-
  The walk of 'reduceOnce' at any strip: the segments that are folded in between their neighbours.
-/
import Derived.Test.YtfgenpailmgkiaaLb
import Derived.Test.YtfgenpailmgkiaaLc
namespace Go.Proofs.Ytfgenpailmgkiaa
open Go.RowKit Go.Sort

theorem replace_any (g o n cap bv j : Nat) (zs : List Int) (z : Int) (w : World) (hw : Win w g o (n + 2) cap zs) (hj : j < n) (hn : n ≤ 500) (ho : o ≤ 500) (hv : w.cell? ⟨bv, 0, none⟩ = some (.int .i64 z)) :
    Calls Try.prog 77 #[.slice (some ⟨g, o, none⟩) (n + 2) cap, .int .i64 j, .int .i64 ((j : Int) + 3), .slice (some ⟨bv, 0, none⟩) 1 1] w
      fun e w' => e = .returned (.slice (some ⟨g, o, none⟩) n cap) ∧ Win w' g o n cap (zs.take j ++ z :: zs.drop (j + 3)) ∧ w.grownBy w' (some g) := by
  obtain ⟨F, R, hF, hc, hr⟩ := hw.row
  have hl := hw.len
  obtain ⟨a, b, c, e, _, _, _⟩ := three_of zs j (by omega)
  have hlen : (zs.take j ++ z :: zs.drop (j + 3)).length = n := by simp; omega
  have hr2 : w.heap[g]? = some (.cells (F ++ (zs.take j).map (Value.int .i64) ++ ([Value.int .i64 a, Value.int .i64 b, Value.int .i64 c] ++ ((zs.drop (j + 3)).map (Value.int .i64) ++ R))).toArray 3 (0, 0)) := by
    rw [hr]
    congr 3
    conv => lhs; rw [e]
    simp
  by_cases ht : j + 3 = n + 2
  · have h0 : zs.drop (j + 3) = [] := List.drop_of_length_le (by omega)
    have h1 := replace_tail g o bv j cap (F ++ (zs.take j).map (Value.int .i64)) R (.int .i64 a) (.int .i64 b) (.int .i64 c) z w (by simp; omega) (by omega) (by omega) (by rw [hr2, h0]; simp) hv
    rw [ht] at h1
    refine h1.mono ?_
    rintro e' w' ⟨rfl, q1, q2⟩
    refine ⟨by rw [show j + 1 = n by omega], ⟨hlen, F, [Value.int .i64 0, Value.int .i64 0] ++ R, hF, by simp; omega, ?_⟩, q2⟩
    rw [q1, h0]; simp
  · obtain ⟨m, hm⟩ : ∃ m, n + 2 = j + 3 + m := ⟨n + 2 - (j + 3), by omega⟩
    have h1 := replace_mid g o bv j m cap (F ++ (zs.take j).map (Value.int .i64)) ((zs.drop (j + 3)).map (Value.int .i64)) R (.int .i64 a) (.int .i64 b) (.int .i64 c) z w (by simp; omega) (by simp; omega) (by omega) (by omega) (by omega) (by omega) (by omega) hr2 hv
      (fun v hv => by obtain ⟨_, _, rfl⟩ := List.mem_map.1 hv; rfl)
    rw [← hm] at h1
    refine h1.mono ?_
    rintro e' w' ⟨rfl, q1, q2⟩
    refine ⟨by rw [show j + 1 + m = n by omega], ⟨hlen, F, [Value.int .i64 0, Value.int .i64 0] ++ R, hF, by simp; omega, ?_⟩, q2⟩
    rw [q1]; simp

theorem find_none_upto {p : Nat → Bool} {n : Nat} (h : ∀ i, i < n → p i = false) : (List.range n).find? p = none := by
  rw [List.find?_eq_none]
  intro i hi
  rw [h i (List.mem_range.1 hi)]
  exact Bool.false_ne_true
theorem find_first {p : Nat → Bool} {n j : Nat} (hj : j < n) (h : ∀ i, i < j → p i = false) (hp : p j = true) : (List.range n).find? p = some j := by
  have e : List.range n = List.range j ++ j :: (List.range' (j + 1) (n - j - 1)) := by
    rw [List.range_eq_range', List.range_eq_range', show n = j + (1 + (n - j - 1)) by omega, ← List.range'_append_1, ← List.range'_append_1]
    simp
  rw [e, List.find?_append, find_none_upto h, List.find?_cons, hp]; rfl

set_option maxRecDepth 100000 in
set_option maxHeartbeats 2000000 in
theorem reduce_loop (g o n cap : Nat) (zs : List Int) (s : ByteArray) (w : World) (hw : Win w g o (n + 2) cap zs) (hs : s.size = n + 1) (hn : n ≤ 500) (ho : o ≤ 500) (hz : ∀ i : Nat, 0 ≤ zs[i]?.getD 0 ∧ zs[i]?.getD 0 ≤ 1000000) (h1 : ¬ zs[0]?.getD 0 ≤ zs[1]?.getD 0) (h2 : ¬ zs[n + 1]?.getD 0 ≤ zs[n]?.getD 0) :
    Calls Try.prog 64 #[.slice (some ⟨g, o, none⟩) (n + 2) cap, .string s] w (RedOne w g o (n + 2) cap zs s) := by
  have c0 : w.cell? ⟨g, o, none⟩ = _ := hw.cell 0 (by omega)
  have c1 : w.cell? ⟨g, o + 1, none⟩ = _ := hw.cell 1 (by omega)
  have c2 : w.cell? ⟨g, o + (n + 1), none⟩ = _ := hw.cell (n + 1) (by omega)
  have c3 : w.cell? ⟨g, o + n, none⟩ = _ := hw.cell n (by omega)
  have hcond : decide (zs[0]?.getD 0 ≤ zs[1]?.getD 0) = false := decide_eq_false h1
  have hcond2 : decide (zs[n + 1]?.getD 0 ≤ zs[n]?.getD 0) = false := decide_eq_false h2
  have e1 : redZ zs s.data.toList = ((List.range n).find? (crimpC zs s.data.toList)).map fun j => (foldIn zs j, s.data.toList.take j ++ s.data.toList.drop (j + 2)) := by
    rw [redZ, if_neg (by rw [hw.len]; omega), if_neg h1, hw.len, show n + 2 - 1 = n + 1 by omega, show n + 2 - 2 = n by omega, if_neg h2]
  have hcap := hw.cap_le
  have Hcr : Hid (∀ (j : Nat) (wq : World), j < n → Win wq g o (n + 2) cap zs → Calls Try.prog 76 #[.slice (some ⟨g, o, none⟩) (n + 2) cap, .string s, .int .i64 ((j : Int) + 1)] wq fun e w' => e = .returned (.bool (crimpC zs s.data.toList j)) ∧ ∃ m, w' = wq.drewN m) := Lib.hid fun j wq hj h =>
    canCrimp_any g o cap (n + 2) zs s j wq h.len (by omega) (by omega) (by omega) h.lt h.ints
  have HW := Lib.hid (And.intro hw hz)
  have HE := Lib.hid e1
  generalize zs[0]?.getD 0 = x at *
  generalize zs[1]?.getD 0 = y at *
  generalize zs[n]?.getD 0 = u at *
  generalize zs[n + 1]?.getD 0 = v at *
  clear hw e1 h1 h2 hz
  have q1 : ((n : Int) + 2 - 1) = (n : Int) + 1 := by omega
  have q2 : ((n : Int) + 2 - 2) = (n : Int) := by omega
  have q3 : ((n : Int) + 1).toNat = n + 1 := by omega
  have q4 : (0 : Int) ≤ (n : Int) + 1 := by omega
  have q5 : (n : Int) + 1 < (n : Int) + 2 := by omega
  have q6 : (n : Int) < (n : Int) + 2 := by omega
  go_enter Try.func64, Try.ntmps64
  go_wp2
  go_quiet (fail)
  obtain ⟨w1, hw1⟩ : ∃ w1, w.drewN nq = w1 := ⟨_, rfl⟩
  rw [hw1]
  have H1 : Hid (Win w1 g o (n + 2) cap zs ∧ w.grownBy w1 (some g)) := Lib.hid (by rw [← hw1]; exact ⟨HW.out.1.drewN _, grownBy_drewM _ _ _⟩)
  have c2' : w1.cell? ⟨g, o + (n + 1), none⟩ = some (.int .i64 v) := by rw [← hw1]; exact c2
  have c3' : w1.cell? ⟨g, o + n, none⟩ = some (.int .i64 u) := by rw [← hw1]; exact c3
  clear hw1 c0 c1 c2 c3 nq
  go_wp2
  go_quiet (fail)
  obtain ⟨w2, hw2⟩ : ∃ w2, w1.drewN nq = w2 := ⟨_, rfl⟩
  rw [hw2]
  have H2 : Hid (Win w2 g o (n + 2) cap zs ∧ w.grownBy w2 (some g)) := Lib.hid (by rw [← hw2]; exact ⟨H1.out.1.drewN _, World.grownBy.trans H1.out.2 (grownBy_drewM _ _ _)⟩)
  clear hw2 c2' c3' H1 nq
  go_wp2
  go_loopw [0, 8] (fun s0 i wr => s0 = .slice (some ⟨g, o, none⟩) (n + 2) cap ∧ ∃ j : Nat, j ≤ n ∧ i = .int .i64 ((j : Int) + 1) ∧ (∀ k, k < j → crimpC zs s.data.toList k = false) ∧ Win wr g o (n + 2) cap zs ∧ w.grownBy wr (some g)) (fun _ i _ => n + 1 - (intOf i).toNat)
  case atStart => exact ⟨rfl, 0, Nat.zero_le _, rfl, fun k hk => by omega, H2.out⟩
  case round =>
    obtain ⟨rfl, j, hj, rfl, hno, hwr, hgr⟩ := hrel
    have HR := Lib.hid (And.intro hno (And.intro hwr hgr))
    clear hno hwr hgr
    by_cases hlt : j < n
    · have hcr := Hcr.out j wr hlt HR.out.2.1
      rcases Bool.eq_false_or_eq_true (crimpC zs s.data.toList j) with hc | hc
      · rw [hc] at hcr
        have HC := Lib.hid hc
        have Hcr' := Lib.hid hcr
        clear hc hcr
        go_wp2_with (go_at_call 76; refine Hcr'.out.mono ?_; rintro e w3 ⟨rfl, m1, hm1⟩; have H3 : Hid (Win w3 g o (n + 2) cap zs ∧ w.grownBy w3 (some g)) := Lib.hid (by rw [hm1]; exact ⟨HR.out.2.1.drewN _, World.grownBy.trans HR.out.2.2 (grownBy_drewM _ _ _)⟩); clear hm1)
        obtain ⟨a, ha⟩ : ∃ a, zs[j]?.getD 0 = a := ⟨_, rfl⟩; obtain ⟨b, hb⟩ : ∃ b, zs[j + 1]?.getD 0 = b := ⟨_, rfl⟩; obtain ⟨c, hc⟩ : ∃ c, zs[j + 1 + 1]?.getD 0 = c := ⟨_, rfl⟩
        have d0 := H3.out.1.cell j (by omega); have d1 := H3.out.1.cell (j + 1) (by omega); have d2 := H3.out.1.cell (j + 1 + 1) (by omega)
        rw [ha] at d0; rw [hb] at d1; rw [hc] at d2
        have ba := HW.out.2 j; have bb := HW.out.2 (j + 1); have bc := HW.out.2 (j + 1 + 1)
        rw [ha] at ba; rw [hb] at bb; rw [hc] at bc
        have HA := Lib.hid (And.intro ha (And.intro hb hc)); clear ha hb hc
        go_quiet (fail)
        obtain ⟨w5, hw5⟩ : ∃ w5, w3.drewN nq = w5 := ⟨_, rfl⟩
        rw [hw5]
        have H5 : Hid (Win w5 g o (n + 2) cap zs ∧ w.grownBy w5 (some g)) := Lib.hid (by rw [← hw5]; exact ⟨H3.out.1.drewN _, World.grownBy.trans H3.out.2 (grownBy_drewM _ _ _)⟩)
        clear hw5 d0 d1 d2 H3 nq
        obtain ⟨W6, hW6⟩ : ∃ W6, w5.alloc (.cells #[.int .i64 (a - b + c)] 3) = W6 := ⟨_, rfl⟩
        have HRp : Hid (Calls Try.prog 77 #[.slice (some ⟨g, o, none⟩) (n + 2) cap, .int .i64 j, .int .i64 ((j : Int) + 1 + 2), .slice (some ⟨w5.heap.size, 0, none⟩) 1 1] W6
            fun e w' => e = .returned (.slice (some ⟨g, o, none⟩) n cap) ∧ Win w' g o n cap (foldIn zs j) ∧ W6.grownBy w' (some g)) := Lib.hid (by
          have hw6 : Win W6 g o (n + 2) cap zs := by
            obtain ⟨F, R, r1, r2, r3⟩ := H5.out.1.row
            exact ⟨H5.out.1.len, F, R, r1, r2, by rw [← hW6, Below.heap_alloc _ _ _ H5.out.1.lt]; exact r3⟩
          have := replace_any g o n cap w5.heap.size j zs (a - b + c) W6 hw6 hlt hn ho (by rw [← hW6]; exact cells_new w5 [.int .i64 (a - b + c)] 3 w5.heap.size rfl 0 _ rfl)
          rw [show (j : Int) + 1 + 2 = (j : Int) + 3 by omega]
          unfold foldIn
          rw [HA.out.1, HA.out.2.1, HA.out.2.2]
          exact this)
        have H6 : Hid (w.grownBy W6 (some g)) := Lib.hid (by
          rw [← hW6]
          exact World.grownBy.trans H5.out.2 ⟨rfl, rfl, rfl, by simp, fun k hk _ => Below.heap_alloc _ _ _ hk⟩)
        have HW6 := Lib.hid hW6
        clear hW6
        go_wp2_with (go_at_call 77; rw [HW6.out]; refine HRp.out.mono ?_; rintro e w7 ⟨rfl, hwin, hgr⟩; have H7 := Lib.hid (And.intro hwin (World.grownBy.trans H6.out hgr)); clear hwin hgr HRp)
        go_quiet (fail)
        go_wp2
        go_ret3
        refine ⟨World.grownBy.trans H7.out.2 (grownBy_drewM _ _ _), ?_⟩
        rw [HE.out, find_first hlt HR.out.1 HC.out]
        have hlen := H7.out.1.len
        refine ⟨o, cap, s.extract 0 j ++ s.extract (j + 1 + 1) (n + 1), by show _ = Ending.returned (.tuple #[.slice _ (foldIn zs j).length _, _, _]); rw [hlen]; rfl, ?_, ?_, ?_⟩
        · show _ = s.data.toList.take j ++ s.data.toList.drop (j + 2)
          have hsl : s.data.toList.length = n + 1 := by rw [Array.length_toList]; exact hs
          rw [append_list, extract_list, extract_list, List.drop_zero, Nat.sub_zero, List.take_of_length_le (l := s.data.toList.drop (j + 1 + 1)) (by rw [List.length_drop]; omega)]
        · show o + (foldIn zs j).length ≤ _; omega
        · show Win _ g o (foldIn zs j).length cap (foldIn zs j)
          rw [hlen]
          exact H7.out.1.drewN _
      · rw [hc] at hcr
        have HC := Lib.hid hc
        have Hcr' := Lib.hid hcr
        clear hc hcr
        go_wp2_with (go_at_call 76; refine Hcr'.out.mono ?_; rintro e w3 ⟨rfl, m1, hm1⟩; have H3 : Hid (Win w3 g o (n + 2) cap zs ∧ w.grownBy w3 (some g)) := Lib.hid (by rw [hm1]; exact ⟨HR.out.2.1.drewN _, World.grownBy.trans HR.out.2.2 (grownBy_drewM _ _ _)⟩); clear hm1)
        go_roundw
        case rel =>
          refine ⟨rfl, j + 1, by omega, by go_num, fun k hk => ?_, H3.out⟩
          by_cases e : k = j
          · rw [e]; exact HC.out
          · exact HR.out.1 k (by omega)
        case measure => simp [intOf]; omega
    · go_wp2
      go_ret3
      refine ⟨HR.out.2.2, ?_⟩
      have hj' : j = n := by omega
      subst hj'
      rw [HE.out, find_none_upto HR.out.1]
      exact ⟨rfl, HR.out.2.1⟩

theorem size_list (s : ByteArray) : s.data.toList.length = s.size := by rw [Array.length_toList]; rfl
/-- One step at any strip. -/
theorem reduceOnce_any (g o n cap : Nat) (zs : List Int) (s : ByteArray) (w : World) (hw : Win w g o n cap zs) (hg : Good 1000000 zs s.data.toList) (hn : o + n ≤ 500) :
    Calls Try.prog 64 #[.slice (some ⟨g, o, none⟩) n cap, .string s] w (RedOne w g o n cap zs s) := by
  have h1 := hg.one
  have hl := hg.len
  have hwl := hw.len
  rw [size_list] at hl
  by_cases hn1 : n = 1
  · subst hn1
    exact reduce_short g o cap zs s w hw
  · obtain ⟨m, rfl⟩ : ∃ m, n = m + 2 := ⟨n - 2, by omega⟩
    by_cases c1 : zs[0]?.getD 0 ≤ zs[1]?.getD 0
    · exact reduce_first g o m cap zs s w hw (by omega) (by omega) c1
    · by_cases c2 : zs[m + 1]?.getD 0 ≤ zs[m]?.getD 0
      · exact reduce_last g o m cap zs s w hw (by omega) (by omega) c1 c2
      · refine reduce_loop g o m cap zs s w hw (by omega) (by omega) (by omega) (fun i => ?_) c1 c2
        by_cases hi : i < zs.length
        · rw [List.getElem?_eq_getElem hi]
          have q1 := hg.pos _ (List.getElem_mem hi)
          have q2 := le_sum zs hg.pos _ (List.getElem_mem hi)
          have q3 := hg.sum
          show 0 ≤ zs[i] ∧ zs[i] ≤ 1000000
          omega
        · rw [List.getElem?_eq_none (by omega)]
          show (0 : Int) ≤ 0 ∧ (0 : Int) ≤ 1000000
          omega

end Go.Proofs.Ytfgenpailmgkiaa
