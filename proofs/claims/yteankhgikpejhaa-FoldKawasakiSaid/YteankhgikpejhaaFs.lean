/-
  The walks of 'canCrimp', 'reduceOnce' and 'Reduce'.
-/
import Derived.Test.YteankhgikpejhaaFp
namespace Go.Proofs.Yteankhgikpejhaa
open Go.RowKit Go.Sort

/-- Whether the segment behind segment j can be folded in between its neighbours. -/
def crimpB (zs : List Int) (s : ByteArray) (j : Nat) : Bool := decide (zs[j + 1]?.getD 0 ≤ zs[j]?.getD 0) && decide (zs[j + 1]?.getD 0 ≤ zs[j + 1 + 1]?.getD 0) && (s.data.toList[j]?.getD 0 != s.data.toList[j + 1]?.getD 0)

theorem byte_ne (a b : UInt8) : (((a.toNat : Int)) != (b.toNat : Int)) = (a != b) := by
  rw [Bool.eq_iff_iff, bne_iff_ne, bne_iff_ne, Ne, Ne, ← UInt8.toNat_inj]; omega

set_option maxHeartbeats 1000000 in
theorem canCrimp_any (g o cap n : Nat) (zs : List Int) (s : ByteArray) (j : Nat) (w : World) (hn : zs.length = n) (hm : n ≤ 1000) (hs : s.size + 1 = n) (hj : j + 2 < n)
    (hg : g < w.heap.size) (hz : Ints w (some ⟨g, o, none⟩) zs) :
    Calls Try.prog 76 #[.slice (some ⟨g, o, none⟩) n cap, .string s, .int .i64 ((j : Int) + 1)] w fun e w' => e = .returned (.bool (crimpB zs s j)) ∧ ∃ m, w' = w.drewN m := by
  have at_ : ∀ i, i < n → w.cell? ⟨g, o + i, none⟩ = some (.int .i64 (zs[i]?.getD 0)) := by
    intro i hi
    obtain ⟨b, off, e, h⟩ := hz i (by omega)
    cases e; exact h
  have c0 := at_ j (by omega)
  have c1 := at_ (j + 1) (by omega)
  have c2 := at_ (j + 1 + 1) hj
  have hH := Lib.hid hz
  have hN := Lib.hid hn
  have HX : Hid (crimpB zs s j = (decide (zs[j + 1]?.getD 0 ≤ zs[j]?.getD 0) && decide (zs[j + 1]?.getD 0 ≤ zs[j + 1 + 1]?.getD 0) && (s.data.toList[j]?.getD 0 != s.data.toList[j + 1]?.getD 0))) := Lib.hid rfl
  generalize zs[j]?.getD 0 = x at *
  generalize zs[j + 1]?.getD 0 = y at *
  generalize zs[j + 1 + 1]?.getD 0 = z at *
  clear at_ hz hn
  have s0 : j < s.size := by omega
  have s1 : j + 1 < s.size := by omega
  have i0 : (0 : Int) ≤ (j : Int) + 1 := by omega
  have i1 : (j : Int) + 1 < (s.size : Int) := by omega
  rcases Bool.eq_false_or_eq_true (decide (y ≤ x)) with h1 | h1 <;> rcases Bool.eq_false_or_eq_true (decide (y ≤ z)) with h2 | h2
  all_goals
    have HH := Lib.hid (And.intro h1 h2)
    go_enter Try.func76, Try.ntmps76
    go_wp2
    refine wp_region_quiet_lit (by kernel_rfl) (by kernel_rfl) ?_
    repeat (go_big_quiet_step (fail))
  all_goals
    refine wpQuiet_nil ?_
    intro w2 hw2
    obtain ⟨m, hm2⟩ := hw2
    subst hm2
    go_wp2
    go_ret
    refine ⟨ret_bool ?_, m, rfl⟩
    rw [HX.out, HH.out.1, HH.out.2]
  all_goals simp [s0, s1, ← UInt8.toNat_inj]
  all_goals exact byte_ne _ _

end Go.Proofs.Yteankhgikpejhaa
