/-
  The reference: the walks of 'bits' and 'less'.
-/
import Derived.Test.YticafbfijpjbnaaTa
import Derived.Lib.RabinKarpLaws
namespace Go.Proofs.Yticafbfijpjbnaa
open Go.RowKit Go.Sort

theorem bit64 (s i : Nat) (hs : s < 9223372036854775808) : bits .and .i64 ((s : Int) / 2 ^ i) 1 = if s.testBit i = true then 1 else 0 := by
  have e : ((s : Int) / 2 ^ i) = ((s / 2 ^ i : Nat) : Int) := by simp
  have hlt : s / 2 ^ i < 9223372036854775808 := Nat.lt_of_le_of_lt (Nat.div_le_self _ _) hs
  rw [e, and_one _ hlt, Nat.testBit_eq_decide_div_mod_eq]
  rcases Nat.mod_two_eq_zero_or_one (s / 2 ^ i) with h | h
  · rw [h]; simp
  · rw [h]; simp

def bitsTo (s k : Nat) : List Int := ((List.range k).filter fun i => s.testBit i).map fun (x : Nat) => (x : Int)
theorem bitsTo_yes {s k : Nat} (h : s.testBit k = true) : bitsTo s (k + 1) = bitsTo s k ++ [(k : Int)] := by simp [bitsTo, List.range_succ, h]
theorem bitsTo_no {s k : Nat} (h : s.testBit k = false) : bitsTo s (k + 1) = bitsTo s k := by simp [bitsTo, List.range_succ, h]

set_option maxRecDepth 100000 in
set_option maxHeartbeats 2000000 in
theorem bits_any (s n : Nat) (w : World) (hs : s < 65536) (hn : n ≤ 12) :
    Calls Try.prog 49 #[.int .i64 s, .int .i64 n] w (fun e w' => ∃ v, e = .returned v ∧ CollI w (bitsR s n) (bitsR s n).length v w') := by
  have HR : Hid (bitsR s n = bitsTo s n) := Lib.hid rfl
  go_enter Try.func49, Try.ntmps49
  go_wp2
  go_loopw [5, 6] (fun v i wr => ∃ k q : Nat, k ≤ n ∧ q ≤ k ∧ i = .int .i64 k ∧ CollI w (bitsTo s k) q v wr) (fun _ i _ => n - (intOf i).toNat)
  case atStart => exact ⟨0, 0, Nat.zero_le _, Nat.le_refl _, rfl, CollI.start w⟩
  case round =>
    obtain ⟨k, q, hk, hq, rfl, hC⟩ := hrel
    have hsz := hC.1.size
    have HC := Lib.hid hC
    obtain ⟨g0, cp0, hv0, _⟩ := hC.2.2
    subst hv0
    clear hC
    by_cases hlt : k < n
    · have hb := bit64 s k (by omega)
      cases h1 : s.testBit k with
      | false =>
        have HD := Lib.hid (bitsTo_no h1)
        rw [h1] at hb
        simp only [Bool.false_eq_true, if_false] at hb
        clear h1
        go_wp2
        go_roundw
        case rel => exact ⟨k + 1, q, by omega, by omega, by go_num, by rw [HD.out]; exact HC.out⟩
        case measure => simp [intOf]; omega
      | true =>
        have HD := Lib.hid (bitsTo_yes h1)
        rw [h1] at hb
        simp only [if_true] at hb
        clear h1
        go_wp2_with (at_builtin; refine wpList_app_int rfl (.tmp 18) (.tmp 20) rfl w.heap.size _ _ _ rfl (k : Int) _ rfl rfl HC.out.owns (by omega) hsz ?_; intro g cp w2 hr2 hg2 hat2 _; have H2 := Lib.hid (HC.out.next hr2 hg2); clear hr2 hg2 hat2)
        go_roundw
        case rel => exact ⟨k + 1, q + 1, by omega, by omega, by go_num, by rw [HD.out]; exact H2.out⟩
        case measure => simp [intOf]; omega
    · obtain rfl : k = n := by omega
      go_wp2
      go_ret
      rw [HR.out]
      have hq2 := HC.out.2.1
      exact ⟨_, rfl, by rw [hq2]; exact HC.out⟩

set_option maxRecDepth 100000 in
set_option maxHeartbeats 2000000 in
theorem less_any (a b : Option Addr) (n m ca cb : Nat) (xs ys : List Int) (w : World) (hx : xs.length = n) (hy : ys.length = m) (hn : n ≤ 1000) (_hm : m ≤ 1000) (ha : Ints w a xs) (hb : Ints w b ys) :
    Calls Try.prog 50 #[.slice a n ca, .slice b m cb] w fun e w' => e = .returned (.bool (lessZ xs ys)) ∧ Below w.heap.size w w' := by
  have HA := Lib.hid ha.at
  have HB := Lib.hid hb.at
  have HX := Lib.hid hx
  have HY := Lib.hid hy
  clear ha hb hx hy
  go_enter Try.func50, Try.ntmps50
  go_wp2
  go_loopw [5] (fun i wr => ∃ k : Nat, k ≤ n ∧ k ≤ m ∧ i = .int .i64 k ∧ Hid (lexZ xs ys = lexZ (xs.drop k) (ys.drop k)) ∧ Below w.heap.size w wr) (fun i _ => n - (intOf i).toNat)
  case atStart => exact ⟨0, Nat.zero_le _, Nat.zero_le _, rfl, Lib.hid rfl, Below.refl _ _⟩
  case round =>
    obtain ⟨k, hk, hkm, rfl, HE, hb⟩ := hrel
    have HW := Lib.hid hb
    clear hb
    by_cases hlt : k < n
    · have hkx : k < xs.length := by rw [HX.out]; exact hlt
      by_cases hlt2 : k < m
      · have hky : k < ys.length := by rw [HY.out]; exact hlt2
        rcases HA.out with h | ⟨ba, oa, rfl, hca⟩
        · subst h; simp at hkx
        rcases HB.out with h | ⟨bb, ob, rfl, hcb⟩
        · subst h; simp at hky
        have c0 := (HW.out.cell (p := ⟨ba, oa + k, none⟩) (World.block_lt_of_cell? w _ (hca k hkx))).trans (hca k hkx)
        have c1 := (HW.out.cell (p := ⟨bb, ob + k, none⟩) (World.block_lt_of_cell? w _ (hcb k hky))).trans (hcb k hky)
        have HL : Hid (lexZ xs ys = if cmpR (xs[k]?.getD 0) (ys[k]?.getD 0) = 0 then lexZ (xs.drop (k + 1)) (ys.drop (k + 1)) else cmpR (xs[k]?.getD 0) (ys[k]?.getD 0)) := Lib.hid (by
          rw [HE.out, List.drop_eq_getElem_cons hkx, List.drop_eq_getElem_cons hky, lexZ, List.getElem?_eq_getElem hkx, List.getElem?_eq_getElem hky]; rfl)
        obtain ⟨x, hxk⟩ : ∃ x, xs[k]?.getD 0 = x := ⟨_, rfl⟩
        obtain ⟨y, hyk⟩ : ∃ y, ys[k]?.getD 0 = y := ⟨_, rfl⟩
        rw [hxk] at c0 HL
        rw [hyk] at c1 HL
        clear hca hcb hxk hyk hkx hky
        by_cases he : x = y
        · have HL2 : Hid (lexZ xs ys = lexZ (xs.drop (k + 1)) (ys.drop (k + 1))) := Lib.hid (by rw [HL.out, if_pos ((cmpR_zero x y).2 he)])
          have hq : (x != y) = false := by simp [he]
          have HEQ := Lib.hid he
          clear he HL
          go_wp2
          go_quiet (fail)
          go_wp2
          go_roundw
          case rel => exact ⟨k + 1, by omega, by omega, by go_num, HL2, below_drewN HW.out _⟩
          case measure => simp [intOf]; omega
        · have hq : (x != y) = true := by simp [he]
          have HD : Hid (lessZ xs ys = decide (x < y)) := Lib.hid (by
            rw [lessZ, HL.out, if_neg (fun h => he ((cmpR_zero x y).1 h))]
            rw [Bool.eq_iff_iff, decide_eq_true_eq, decide_eq_true_eq]
            exact cmpR_lt x y)
          have c0' := fun q => show (wr.drewN q).cell? ⟨ba, oa + k, none⟩ = some (.int .i64 x) from c0
          have c1' := fun q => show (wr.drewN q).cell? ⟨bb, ob + k, none⟩ = some (.int .i64 y) from c1
          clear HL
          go_wp2
          go_quiet (fail)
          have k0 := c0' nq
          have k1 := c1' nq
          have HW2 := Lib.hid (below_drewN HW.out nq)
          generalize wr.drewN nq = w3 at k0 k1 HW2 ⊢
          clear c0 c1 c0' c1'
          go_wp2
          go_quiet (fail)
          go_wp2
          go_ret
          exact ⟨ret_bool HD.out.symm, below_drewN HW2.out _⟩
      · have HL : Hid (lessZ xs ys = false) := Lib.hid (by
          rw [lessZ, HE.out, List.drop_eq_getElem_cons hkx, show ys.drop k = [] from List.drop_eq_nil_of_le (by rw [HY.out]; omega), lexZ]; rfl)
        have hmn : (m : Int) ≤ (k : Int) := by omega
        have hmn2 : ¬ ((n : Int) < (m : Int)) := by omega
        go_wp2
        go_ret
        exact ⟨ret_bool HL.out.symm, HW.out⟩
    · obtain rfl : k = n := by omega
      have HL : Hid (lessZ xs ys = decide ((k : Int) < (m : Int))) := Lib.hid (by
        rw [lessZ, HE.out, show xs.drop k = [] from List.drop_eq_nil_of_le (by rw [HX.out]; exact Nat.le_refl _)]
        by_cases h : k < m
        · rw [List.drop_eq_getElem_cons (by rw [HY.out]; exact h), lexZ, decide_eq_true (by omega : (k : Int) < m)]; rfl
        · rw [show ys.drop k = [] from List.drop_eq_nil_of_le (by rw [HY.out]; omega), lexZ, decide_eq_false (by omega : ¬ (k : Int) < m)]; rfl)
      go_wp2
      go_ret
      exact ⟨ret_bool (by rw [HL.out, Bool.eq_iff_iff, decide_eq_true_eq, decide_eq_true_eq]; omega), HW.out⟩

end Go.Proofs.Yticafbfijpjbnaa
