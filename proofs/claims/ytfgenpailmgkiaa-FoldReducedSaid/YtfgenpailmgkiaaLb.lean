/-
  The walk of 'reduceOnce' at any strip: its first two steps, and none.
-/
import Derived.Test.YtfgenpailmgkiaaFt
import Derived.Test.YtfgenpailmgkiaaMf
import Derived.Test.YtfgenpailmgkiaaFu
namespace Go.Proofs.Ytfgenpailmgkiaa
open Go.RowKit Go.Sort

/-- A strip lies in a window of a row. -/
structure Win (w : World) (g o n cap : Nat) (zs : List Int) : Prop where
  len : zs.length = n
  row : ∃ F R : List Value, F.length = o ∧ n + R.length = cap ∧ w.heap[g]? = some (.cells (F ++ (zs.map (Value.int .i64) ++ R)).toArray 3 (0, 0))
theorem Win.lt {w : World} {g o n cap : Nat} {zs : List Int} (h : Win w g o n cap zs) : g < w.heap.size := by
  obtain ⟨F, R, _, _, hr⟩ := h.row
  exact lt_of_block hr
theorem Win.drewN {w : World} {g o n cap : Nat} {zs : List Int} (h : Win w g o n cap zs) (k : Nat) : Win (w.drewN k) g o n cap zs := ⟨h.len, h.row⟩
theorem Win.ints {w : World} {g o n cap : Nat} {zs : List Int} (h : Win w g o n cap zs) : Ints w (some ⟨g, o, none⟩) zs := by
  obtain ⟨F, R, hF, _, hr⟩ := h.row
  intro i hi
  refine ⟨g, o, rfl, ?_⟩
  rw [cell_of_row' hr, ← hF]
  simp [hi, List.getElem?_append]
theorem Win.cell {w : World} {g o n cap : Nat} {zs : List Int} (h : Win w g o n cap zs) (i : Nat) (hi : i < n) : w.cell? ⟨g, o + i, none⟩ = some (.int .i64 (zs[i]?.getD 0)) := by
  obtain ⟨b, off, e, hc⟩ := h.ints i (by rw [h.len]; exact hi)
  cases e
  exact hc
theorem Win.cap_le {w : World} {g o n cap : Nat} {zs : List Int} (h : Win w g o n cap zs) : n ≤ cap := by
  obtain ⟨F, R, _, hc, _⟩ := h.row
  omega
theorem Win.first {w : World} {g o n cap : Nat} {zs : List Int} (h : Win w g o (n + 1) cap zs) : Win w g (o + 1) n (cap - 1) (zs.drop 1) := by
  obtain ⟨F, R, hF, hc, hr⟩ := h.row
  have hl := h.len
  obtain ⟨a, t, rfl⟩ : ∃ a t, zs = a :: t := List.exists_cons_of_length_pos (by omega)
  refine ⟨by simp at hl ⊢; omega, F ++ [Value.int .i64 a], R, by simp [hF], by omega, ?_⟩
  rw [hr]; simp
theorem Win.last {w : World} {g o n cap : Nat} {zs : List Int} (h : Win w g o (n + 1) cap zs) : Win w g o n cap (zs.take n) := by
  obtain ⟨F, R, hF, hc, hr⟩ := h.row
  have hl := h.len
  refine ⟨by simp; omega, F, (zs.drop n).map (Value.int .i64) ++ R, hF, by simp; omega, ?_⟩
  rw [hr, ← List.append_assoc ((zs.take n).map _), ← List.map_append, List.take_append_drop]

theorem extract_list (s : ByteArray) (a b : Nat) : (s.extract a b).data.toList = (s.data.toList.drop a).take (b - a) := by simp
theorem append_list (s t : ByteArray) : (s ++ t).data.toList = s.data.toList ++ t.data.toList := by simp

/-- What one step hands back: in the memory of the strip. -/
def RedOne (w : World) (g o n cap : Nat) (zs : List Int) (s : ByteArray) (e : Ending) (w' : World) : Prop := w.grownBy w' (some g) ∧
  match redZ zs s.data.toList with
  | none => e = .returned (.tuple #[.slice (some ⟨g, o, none⟩) n cap, .string s, .bool false]) ∧ Win w' g o n cap zs
  | some p => ∃ (o' cap' : Nat) (s' : ByteArray), e = .returned (.tuple #[.slice (some ⟨g, o', none⟩) p.1.length cap', .string s', .bool true]) ∧ s'.data.toList = p.2 ∧ o' + p.1.length ≤ o + n ∧ Win w' g o' p.1.length cap' p.1

set_option maxRecDepth 100000 in
set_option maxHeartbeats 1000000 in
theorem reduce_short (g o cap : Nat) (zs : List Int) (s : ByteArray) (w : World) (hw : Win w g o 1 cap zs) :
    Calls Try.prog 64 #[.slice (some ⟨g, o, none⟩) 1 cap, .string s] w (RedOne w g o 1 cap zs s) := by
  refine (reduce_5 (some ⟨g, o, none⟩) cap w s).mono ?_
  rintro e w' ⟨rfl, rfl⟩
  have e1 : redZ zs s.data.toList = none := by rw [redZ, if_pos (by rw [hw.len]; omega)]
  refine ⟨⟨rfl, rfl, rfl, Nat.le_refl _, fun _ _ _ => rfl⟩, ?_⟩
  rw [e1]
  exact ⟨rfl, hw⟩

set_option maxRecDepth 100000 in
set_option maxHeartbeats 1000000 in
theorem reduce_first (g o n cap : Nat) (zs : List Int) (s : ByteArray) (w : World) (hw : Win w g o (n + 2) cap zs) (hs : s.size = n + 1) (hn : n ≤ 1000) (h1 : zs[0]?.getD 0 ≤ zs[1]?.getD 0) :
    Calls Try.prog 64 #[.slice (some ⟨g, o, none⟩) (n + 2) cap, .string s] w (RedOne w g o (n + 2) cap zs s) := by
  have c0 : w.cell? ⟨g, o, none⟩ = _ := hw.cell 0 (by omega)
  have c1 : w.cell? ⟨g, o + 1, none⟩ = _ := hw.cell 1 (by omega)
  have hcond : decide (zs[0]?.getD 0 ≤ zs[1]?.getD 0) = true := decide_eq_true h1
  have e1 : redZ zs s.data.toList = some (zs.drop 1, s.data.toList.drop 1) := by rw [redZ, if_neg (by rw [hw.len]; omega), if_pos h1]
  have hcap := hw.cap_le
  have hcap1 : ¬ cap = 1 := by omega
  have HW := Lib.hid hw
  have HE := Lib.hid e1
  have hs1 : 1 ≤ s.size := by omega
  generalize zs[0]?.getD 0 = x at *
  generalize zs[1]?.getD 0 = y at *
  clear hw e1 h1
  go_enter Try.func64, Try.ntmps64
  go_wp2
  go_quiet (fail)
  go_wp2
  go_quiet (fail)
  go_wp2
  go_ret3
  refine ⟨World.grownBy.trans (grownBy_drewM _ _ _) (grownBy_drewM _ _ _), ?_⟩
  rw [HE.out]
  have hl : (zs.drop 1).length = n + 1 := by rw [List.length_drop, HW.out.len]; omega
  refine ⟨o + 1, cap - 1, s.extract 1 (n + 1), by show _ = Ending.returned (.tuple #[.slice _ (zs.drop 1).length _, _, _]); rw [hl]; rfl, ?_, ?_, ?_⟩
  · rw [extract_list]
    have : s.data.toList.length = n + 1 := by rw [Array.length_toList]; exact hs
    rw [List.take_of_length_le (by rw [List.length_drop]; omega)]
  · show o + 1 + (zs.drop 1).length ≤ _; omega
  · show Win _ g (o + 1) (zs.drop 1).length (cap - 1) (zs.drop 1)
    rw [hl]
    exact (HW.out.first.drewN _).drewN _

set_option maxRecDepth 100000 in
set_option maxHeartbeats 1000000 in
theorem reduce_last (g o n cap : Nat) (zs : List Int) (s : ByteArray) (w : World) (hw : Win w g o (n + 2) cap zs) (hs : s.size = n + 1) (hn : n ≤ 1000) (h1 : ¬ zs[0]?.getD 0 ≤ zs[1]?.getD 0) (h2 : zs[n + 1]?.getD 0 ≤ zs[n]?.getD 0) :
    Calls Try.prog 64 #[.slice (some ⟨g, o, none⟩) (n + 2) cap, .string s] w (RedOne w g o (n + 2) cap zs s) := by
  have c0 : w.cell? ⟨g, o, none⟩ = _ := hw.cell 0 (by omega)
  have c1 : w.cell? ⟨g, o + 1, none⟩ = _ := hw.cell 1 (by omega)
  have c2 : w.cell? ⟨g, o + (n + 1), none⟩ = _ := hw.cell (n + 1) (by omega)
  have c3 : w.cell? ⟨g, o + n, none⟩ = _ := hw.cell n (by omega)
  have hcond : decide (zs[0]?.getD 0 ≤ zs[1]?.getD 0) = false := decide_eq_false h1
  have hcond2 : decide (zs[n + 1]?.getD 0 ≤ zs[n]?.getD 0) = true := decide_eq_true h2
  have e1 : redZ zs s.data.toList = some (zs.take (n + 1), s.data.toList.take n) := by
    rw [redZ, if_neg (by rw [hw.len]; omega), if_neg h1, hw.len, show n + 2 - 1 = n + 1 by omega, show n + 2 - 2 = n by omega, if_pos h2]
  have hcap := hw.cap_le
  have HW := Lib.hid hw
  have HE := Lib.hid e1
  have hs1 : n ≤ s.size := by omega
  generalize zs[0]?.getD 0 = x at *
  generalize zs[1]?.getD 0 = y at *
  generalize zs[n]?.getD 0 = u at *
  generalize zs[n + 1]?.getD 0 = v at *
  clear hw e1 h1 h2
  have q1 : ((n : Int) + 2 - 1) = (n : Int) + 1 := by omega
  have q2 : ((n : Int) + 2 - 2) = (n : Int) := by omega
  have q3 : ((n : Int) + 1).toNat = n + 1 := by omega
  have q4 : (0 : Int) ≤ (n : Int) + 1 := by omega
  have q5 : (n : Int) + 1 < (n : Int) + 2 := by omega
  have q6 : (n : Int) < (n : Int) + 2 := by omega
  go_enter Try.func64, Try.ntmps64
  go_wp2
  go_quiet (fail)
  go_wp2
  go_quiet (fail)
  go_wp2
  go_quiet (fail)
  go_wp2
  go_ret3
  refine ⟨World.grownBy.trans (grownBy_drewM _ _ _) (World.grownBy.trans (grownBy_drewM _ _ _) (grownBy_drewM _ _ _)), ?_⟩
  rw [HE.out]
  have hl : (zs.take (n + 1)).length = n + 1 := by rw [List.length_take, HW.out.len]; omega
  refine ⟨o, cap, s.extract 0 n, by show _ = Ending.returned (.tuple #[.slice _ (zs.take (n + 1)).length _, _, _]); rw [hl]; rfl, ?_, ?_, ?_⟩
  · rw [extract_list, List.drop_zero, Nat.sub_zero]
  · show o + (zs.take (n + 1)).length ≤ _; omega
  · show Win _ g o (zs.take (n + 1)).length cap (zs.take (n + 1))
    rw [hl]
    exact ((HW.out.last.drewN _).drewN _).drewN _

end Go.Proofs.Ytfgenpailmgkiaa
