/-
  The reference: the walks of 'joined' and 'creases'.
-/
import Derived.Test.YteankhgikpejhaaIa
import Derived.RegionTactic
import Derived.BigRegion
import Derived.ChangeAlike
namespace Go.Proofs.Yteankhgikpejhaa
open Go.RowKit Go.Sort

theorem set4 {w : World} {b : Nat} {t : TypeId} {v0 v1 v2 v3 : Value} (h : w.heap[b]? = some (.cells #[v0, v1, v2, v3] t (0, 0))) (u0 u1 u2 u3 : Value) :
    ((((w.setCell ⟨b, 0, none⟩ u0).setCell ⟨b, 1, none⟩ u1).setCell ⟨b, 2, none⟩ u2).setCell ⟨b, 3, none⟩ u3).heap[b]? = some (.cells #[u0, u1, u2, u3] t (0, 0)) :=
  heap_setCell_self (heap_setCell_self (heap_setCell_self (heap_setCell_self h u0) u1) u2) u3

set_option maxRecDepth 100000 in
set_option maxHeartbeats 2000000 in
theorem joined_any (b off cap m t : Nat) (s : Int) (p : List Int) (w : World) (hm : p.length = m) (hm2 : m ≤ 1000) (ht : t + 1 < m) (hp : Ints w (some ⟨b, off, none⟩) p) :
    Calls Try.prog 75 #[.slice (some ⟨b, off, none⟩) m cap, .int .i64 s, .int .i64 t] w
      fun e w' => e = .returned (.agg #[.int .i64 (p[t]?.getD 0), .int .i64 s, .int .i64 t, .bool (decide (p[t]?.getD 0 < p[t + 1]?.getD 0))]) ∧ Below w.heap.size w w' := by
  have at_ : ∀ i, i < m → w.cell? ⟨b, off + i, none⟩ = some (.int .i64 (p[i]?.getD 0)) := by
    intro i hi
    obtain ⟨b', off', e, h⟩ := hp i (by omega)
    cases e; exact h
  have c0 := at_ t (by omega)
  have c1 := at_ (t + 1) ht
  have hbw := World.block_lt_of_cell? w _ c0
  generalize p[t]?.getD 0 = x at *
  generalize p[t + 1]?.getD 0 = y at *
  clear at_ hp hm
  go_enter Try.func75, Try.ntmps75
  go_wp2
  obtain ⟨w1, hw1⟩ : ∃ w1, w.alloc (.cells #[.int .i64 0, .int .i64 0, .int .i64 0, .bool false] 84) = w1 := ⟨_, rfl⟩
  have k0 : w1.cell? ⟨b, off + t, none⟩ = some (.int .i64 x) := by rw [← hw1, World.cell?_alloc_past _ _ _ hbw]; exact c0
  have k1 : w1.cell? ⟨b, off + (t + 1), none⟩ = some (.int .i64 y) := by rw [← hw1, World.cell?_alloc_past _ _ _ hbw]; exact c1
  have kb : w1.heap[w.heap.size]? = some (.cells #[.int .i64 0, .int .i64 0, .int .i64 0, .bool false] 84 (0, 0)) := by rw [← hw1]; exact heap_alloc_new w _
  have Hb : Hid (Below w.heap.size w w1) := Lib.hid (by rw [← hw1]; exact (Below.refl _ _).alloc (Nat.le_refl _) _)
  have z0 : w1.cell? ⟨w.heap.size, 0, none⟩ = some (.int .i64 0) := by simp [World.cell?, kb]
  have z1 : w1.cell? ⟨w.heap.size, 1, none⟩ = some (.int .i64 0) := by simp [World.cell?, kb]
  have z2 : w1.cell? ⟨w.heap.size, 2, none⟩ = some (.int .i64 0) := by simp [World.cell?, kb]
  have z3 : w1.cell? ⟨w.heap.size, 3, none⟩ = some (.bool false) := by simp [World.cell?, kb]
  have y0 : w1.frozen? ⟨w.heap.size, 0, none⟩ = false := by simp [World.frozen?, kb]
  have y1 : w1.frozen? ⟨w.heap.size, 1, none⟩ = false := by simp [World.frozen?, kb]
  have y2 : w1.frozen? ⟨w.heap.size, 2, none⟩ = false := by simp [World.frozen?, kb]
  have y3 : w1.frozen? ⟨w.heap.size, 3, none⟩ = false := by simp [World.frozen?, kb]
  have HK := Lib.hid kb
  clear kb
  rw [hw1]
  clear hw1 c0 c1
  go_region
  all_goals go_wp2
  have hX := set4 HK.out (.int .i64 x) (.int .i64 s) (.int .i64 t) (.bool (decide (x < y)))
  have hXb := ((((Hb.out.setCell (p := ⟨w.heap.size, 0, none⟩) (Nat.le_refl _) (.int .i64 x)).setCell (p := ⟨w.heap.size, 1, none⟩) (Nat.le_refl _) (.int .i64 s)).setCell (p := ⟨w.heap.size, 2, none⟩) (Nat.le_refl _) (.int .i64 t)).setCell (p := ⟨w.heap.size, 3, none⟩) (Nat.le_refl _) (.bool (decide (x < y)))).drew
  obtain ⟨X, hXe⟩ : ∃ X, ((((w1.setCell ⟨w.heap.size, 0, none⟩ (.int .i64 x)).setCell ⟨w.heap.size, 1, none⟩ (.int .i64 s)).setCell ⟨w.heap.size, 2, none⟩ (.int .i64 t)).setCell ⟨w.heap.size, 3, none⟩ (.bool (decide (x < y)))).drew = X := ⟨_, rfl⟩
  have hX' : X.heap[w.heap.size]? = some (.cells #[.int .i64 x, .int .i64 s, .int .i64 t, .bool (decide (x < y))] 84 (0, 0)) := by rw [← hXe]; exact hX
  rw [hXe] at hXb ⊢
  have q0 : X.cell? ⟨w.heap.size, 0, none⟩ = some (.int .i64 x) := by simp [World.cell?, hX']
  have q1 : X.cell? ⟨w.heap.size, 1, none⟩ = some (.int .i64 s) := by simp [World.cell?, hX']
  have q2 : X.cell? ⟨w.heap.size, 2, none⟩ = some (.int .i64 t) := by simp [World.cell?, hX']
  have q3 : X.cell? ⟨w.heap.size, 3, none⟩ = some (.bool (decide (x < y))) := by simp [World.cell?, hX']
  exact bodyPost_ret (v := .agg #[.int .i64 x, .int .i64 s, .int .i64 t, .bool (decide (x < y))]) (by simp [results, Try.results75, go_sem, q0, q1, q2, q3]) rfl ⟨rfl, hXb⟩

theorem joined_int (b off cap m : Nat) (s t : Int) (p : List Int) (w : World) (hm : p.length = m) (hm2 : m ≤ 1000) (h0 : 0 ≤ t) (ht : t + 1 < m) (hp : Ints w (some ⟨b, off, none⟩) p) :
    Calls Try.prog 75 #[.slice (some ⟨b, off, none⟩) m cap, .int .i64 s, .int .i64 t] w
      fun e w' => e = .returned (.agg #[.int .i64 (p[t.toNat]?.getD 0), .int .i64 s, .int .i64 t, .bool (decide (p[t.toNat]?.getD 0 < p[t.toNat + 1]?.getD 0))]) ∧ Below w.heap.size w w' := by
  obtain ⟨q, rfl⟩ : ∃ q : Nat, t = q := ⟨t.toNat, by omega⟩
  rw [Int.toNat_natCast]
  exact joined_any b off cap m q s p w hm hm2 (by omega) hp

end Go.Proofs.Yteankhgikpejhaa
