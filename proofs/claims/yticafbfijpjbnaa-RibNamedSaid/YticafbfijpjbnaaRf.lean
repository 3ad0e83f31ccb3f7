/-
  The walk of 'count'.
-/
import Derived.Test.YticafbfijpjbnaaRe
namespace Go.Proofs.Yticafbfijpjbnaa
open Go.RowKit Go.Sort

/-- How many numbers a set holds. -/
def cntN (s : Nat) : Nat := ((List.range 16).filter fun i => s.testBit i).length

def tabOf : ByteArray := ⟨#[0, 1, 1, 2, 1, 2, 2, 3, 1, 2, 2, 3, 2, 3, 3, 4, 1, 2, 2, 3, 2, 3, 3, 4, 2, 3, 3, 4, 3, 4, 4, 5, 1, 2, 2, 3, 2, 3, 3, 4, 2, 3, 3, 4, 3, 4, 4, 5, 2, 3, 3, 4, 3, 4, 4, 5, 3, 4, 4, 5, 4, 5, 5, 6, 1, 2, 2, 3, 2, 3, 3, 4, 2, 3, 3, 4, 3, 4, 4, 5, 2, 3, 3, 4, 3, 4, 4, 5, 3, 4, 4, 5, 4, 5, 5, 6, 2, 3, 3, 4, 3, 4, 4, 5, 3, 4, 4, 5, 4, 5, 5, 6, 3, 4, 4, 5, 4, 5, 5, 6, 4, 5, 5, 6, 5, 6, 6, 7, 1, 2, 2, 3, 2, 3, 3, 4, 2, 3, 3, 4, 3, 4, 4, 5, 2, 3, 3, 4, 3, 4, 4, 5, 3, 4, 4, 5, 4, 5, 5, 6, 2, 3, 3, 4, 3, 4, 4, 5, 3, 4, 4, 5, 4, 5, 5, 6, 3, 4, 4, 5, 4, 5, 5, 6, 4, 5, 5, 6, 5, 6, 6, 7, 2, 3, 3, 4, 3, 4, 4, 5, 3, 4, 4, 5, 4, 5, 5, 6, 3, 4, 4, 5, 4, 5, 5, 6, 4, 5, 5, 6, 5, 6, 6, 7, 3, 4, 4, 5, 4, 5, 5, 6, 4, 5, 5, 6, 5, 6, 6, 7, 4, 5, 5, 6, 5, 6, 6, 7, 5, 6, 6, 7, 6, 7, 7, 8]⟩
set_option maxRecDepth 100000 in
theorem tab_at : ∀ x : Fin 256, (tabOf.data[x.val]?.getD 0).toNat = cntN x.val := by decide +kernel
theorem cnt_split (s : Nat) (hs : s < 65536) : cntN s = cntN (s / 256) + cntN (s % 256) := by
  have e : List.range 16 = List.range 8 ++ (List.range 8).map (8 + ·) := by decide
  have f1 : ∀ x, x < 256 → cntN x = ((List.range 8).filter fun i => x.testBit i).length := by
    intro x hx
    rw [cntN, e, List.filter_append, List.length_append, List.filter_map, List.length_map]
    have : ((List.range 8).filter ((fun i => x.testBit i) ∘ (8 + ·))).length = 0 := by
      rw [List.length_eq_zero_iff, List.filter_eq_nil_iff]
      intro i _
      rw [Function.comp, Nat.testBit_lt_two_pow (Nat.lt_of_lt_of_le hx (Nat.pow_le_pow_right (n := 2) (i := 8) (by omega) (by omega)))]
      simp
    omega
  rw [f1 (s / 256) (by omega), f1 (s % 256) (Nat.mod_lt _ (by omega)), cntN, e, List.filter_append, List.length_append, List.filter_map, List.length_map, Nat.add_comm]
  congr 1
  · congr 1
    refine List.filter_congr fun i _ => ?_
    rw [Function.comp, show (256 : Nat) = 2 ^ 8 from rfl, Nat.testBit_div_two_pow, Nat.add_comm]
  · congr 1
    refine List.filter_congr fun i hi => ?_
    rw [show (256 : Nat) = 2 ^ 8 from rfl, Nat.testBit_mod_two_pow, decide_eq_true (List.mem_range.1 hi), Bool.true_and]
theorem cnt_le (s : Nat) : cntN s ≤ 16 := Nat.le_trans (List.length_filter_le _ _) (by simp)
theorem tab_get (x : Nat) (h : x < 256) (h' : x < tabOf.size) : (tabOf[x]'h').toNat = cntN x := by
  have t := tab_at ⟨x, h⟩
  have e : tabOf.data[x]? = some (tabOf.data[x]'h') := Array.getElem?_eq_getElem h'
  change (tabOf.data[x]?.getD 0).toNat = cntN x at t
  rw [e] at t
  exact t
theorem sum_tab (s : Nat) (hs : s < 65536) (h1 : s / 256 < tabOf.size) (h2 : s % 256 < tabOf.size) : (((tabOf[s / 256]'h1).toNat : Int) + ((tabOf[s % 256]'h2).toNat : Int)) % 256 = (cntN s : Nat) := by
  rw [tab_get _ (by omega), tab_get _ (by omega)]
  have := cnt_split s hs
  have := cnt_le s
  omega

set_option maxRecDepth 100000 in
set_option maxHeartbeats 2000000 in
theorem OnesCount16_any (s : Nat) (w : World) (hs : s < 65536) :
    Calls Try.prog 85 #[.int .u16 s] w fun e w' => e = .returned (.int .i64 (cntN s)) ∧ Below w.heap.size w w' := by
  have e255 : bits .and .u16 (s : Int) 255 = (s : Int) % 256 := by
    rw [show (255 : Int) = ((255 : Nat) : Int) from rfl, u16_and_nat _ _ hs (by decide)]
    rw [show (255 : Nat) = 2 ^ 8 - 1 from rfl, Nat.and_two_pow_sub_one_eq_mod]
    omega
  have b1 : 0 ≤ (s : Int) / 256 ∧ (s : Int) / 256 < 256 := by omega
  have b2 : 0 ≤ (s : Int) % 256 ∧ (s : Int) % 256 < 256 := by omega
  have HT := Lib.hid (sum_tab s hs (show s / 256 < 256 by omega) (show s % 256 < 256 by omega))
  go_enter Try.func85, Try.ntmps85
  go_wp2
  go_quiet (fail)
  go_wp2
  go_ret
  exact ⟨congrArg (fun z => Ending.returned (Value.int .i64 z)) HT.out, below_drewN (Below.refl _ _) _⟩

theorem count_any (s : Nat) (w : World) (hs : s < 65536) :
    Calls Try.prog 70 #[.int .u16 s] w fun e w' => e = .returned (.int .i64 (cntN s)) ∧ Below w.heap.size w w' := by
  have H1 := Lib.hid (OnesCount16_any s w hs)
  go_enter Try.func70, Try.ntmps70
  go_wp2_with (go_at_call 85; refine H1.out.mono ?_; rintro e w' ⟨rfl, hb⟩)
  go_ret
  exact ⟨rfl, hb⟩

end Go.Proofs.Yticafbfijpjbnaa
