/-
  strap: matrices of polynomials: 'unit'.
-/
import Derived.Test.YtbcggbmjbljnfaaCe
namespace Go.Proofs.Ytbcggbmjbljnfaa
open Go.RowKit Go.Sort

theorem entOne_any (low c : Int) (hc : c ≠ 0) (hl : -1000000 ≤ low ∧ low ≤ 1000000) (g : Nat) (w wx : World) (hb : Below w.heap.size w wx) (hr : RowZ wx g [c]) :
    Calls Try.prog 116 #[.int .i64 low, .slice (some ⟨g, 0, none⟩) 1 1] wx (fun e w' => ∃ a d, e = .returned (.agg #[.int .i64 low, .slice a 1 d]) ∧ IntsT w' a [c] ∧ Below w.heap.size w w' ∧ 1 ≤ d) := by
  refine (entryOf_any low 1 1 (some ⟨g, 0, none⟩) [c] _ rfl (Nat.le_refl _) (by omega) hl (RowZ.ints hr)).mono ?_
  rintro e w' ⟨a, d, rfl, hz, hb', hl⟩
  rw [entN_one low c hc] at hz hl ⊢
  exact ⟨a, d, rfl, hz, hb.trans (hb'.mono hb.size), hl⟩
def unitTo (k : Nat) : Nat → Nat → Pol := fun a b => if a = b ∧ a < k then (0, [1]) else (0, [])
theorem unitTo_next (k : Nat) : updM (unitTo k) k k (0, [1]) = unitTo (k + 1) := by
  funext a b
  simp only [updM, unitTo]
  by_cases h : a = k ∧ b = k
  · rw [if_pos h, if_pos (by omega)]
  · rw [if_neg h]
    by_cases h2 : a = b ∧ a < k
    · rw [if_pos h2, if_pos (by omega)]
    · rw [if_neg h2, if_neg (by omega)]
def unitN : Nat → Nat → Pol := fun a b => if a = b then (0, [1]) else (0, [])

set_option maxRecDepth 100000 in
set_option maxHeartbeats 1000000 in
theorem unit_any (n : Nat) (w : World) (hn : n ≤ 1000) : Calls Try.prog 97 #[.int .i64 (n : Int)] w (GivesM n unitN w) := by
  have HZ := Lib.hid (zeroes_any n w hn)
  unfold GivesM at HZ
  go_enter Try.func97, Try.ntmps97
  go_wp2_with (fail)
  refine HZ.out.mono ?_
  rintro e w1 ⟨g, rfl, hg, hm, hb⟩
  have HG := Lib.hid hg
  have HI : Hid (MatC w1 g n (unitTo 0) ∧ Below w.heap.size w w1) := Lib.hid ⟨by rw [show unitTo 0 = fun _ _ => (0, []) by funext a b; simp [unitTo]]; exact hm, hb⟩
  clear hm hb hg
  go_wp2_with (fail)
  go_loopw [9] (fun i wr => ∃ k : Nat, k ≤ n ∧ i = .int .i64 k ∧ Hid (MatC wr g n (unitTo k) ∧ Below w.heap.size w wr)) (fun i _ => n - (intOf i).toNat)
  case atStart => exact ⟨0, Nat.zero_le _, rfl, HI⟩
  case round =>
    clear HI
    obtain ⟨k, hk, rfl, HR⟩ := hrel
    by_cases hlt : k < n
    · have hkI : (k : Int) < (n : Int) := by omega
      have c0 := HR.out.1.row hlt
      have hgl := HR.out.1.lt
      have HRZ : Hid (RowZ (wr.alloc (.cells #[.int .i64 1] 3)).drew wr.heap.size [1] ∧ Below wr.heap.size wr (wr.alloc (.cells #[.int .i64 1] 3)).drew) := Lib.hid ⟨heap_alloc_new wr _, ((Below.refl _ wr).alloc (Nat.le_refl _) _).drew⟩
      have c0' := (((Below.refl _ wr).alloc (Nat.le_refl _) (.cells #[.int .i64 1] 3)).cell (p := ⟨g, k, none⟩) (by simp; omega)).trans c0
      have HEN := Lib.hid (fun gx wx => entOne_any 0 1 (by decide) (by omega) gx wr wx)
      go_wp2_with (fail)
      go_region_law (go_simp; go_at_call 116; refine (HEN.out _ _ HRZ.out.2 HRZ.out.1).mono ?_; rintro e w5 ⟨a5, c5, rfl, hz5, hb5, hl5⟩; have H5 := Lib.hid (And.intro hz5 (And.intro hb5 hl5)); have hm5 := HR.out.1.below hb5; have q0 := hm5.row hlt; obtain ⟨qa, qc, q1, q2, _⟩ := (hm5.2 k hlt).at hlt; have q3 := (hm5.2 k hlt).free (k * 2); have q4 := (hm5.2 k hlt).free (k * 2 + 1); clear hz5 hb5 hm5 hl5)
      all_goals
        go_simp
        go_wp2_with (fail)
        exact ⟨⟨k + 1, by omega, by go_num, Lib.hid ⟨by rw [← unitTo_next]; exact (HR.out.1.below H5.out.2.1).put (q := (0, [1])) hlt hlt H5.out.1 H5.out.2.2, ((HR.out.2.trans (H5.out.2.1.mono HR.out.2.size)).setCell (p := ⟨g + 1 + k, k * 2, none⟩) (by have := HG.out; simp; omega) _).setCell (p := ⟨g + 1 + k, k * 2 + 1, none⟩) (by have := HG.out; simp; omega) _⟩⟩, by simp [intOf]; omega⟩
    · obtain rfl : k = n := by omega
      go_wp2_with (fail)
      go_ret
      exact ⟨g, rfl, HG.out, HR.out.1.congr (fun i hi j hj => by simp [unitTo, unitN, hi]), HR.out.2⟩

end Go.Proofs.Ytbcggbmjbljnfaa
