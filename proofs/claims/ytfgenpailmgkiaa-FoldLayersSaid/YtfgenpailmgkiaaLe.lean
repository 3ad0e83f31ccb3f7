/-
  The walk of 'reduceOnce' at any strip: its first two steps, and none.
  The walk of slices.Replace where the last three elements of a window are replaced by one.
  The walk of 'reduceOnce' at any strip: the segments that are folded in between their neighbours.
  The walk of 'Reduce' at any strip and any letters.
-/
import Derived.Test.YtfgenpailmgkiaaFt
import Derived.Test.YtfgenpailmgkiaaMf
import Derived.Test.YtfgenpailmgkiaaFu
import Derived.ArgAppend
namespace Go.Proofs.Ytfgenpailmgkiaa
open Go.RowKit Go.Sort

/-- A strip lies in a window of a row. -/
structure Win (w : World) (g o n cap : Nat) (zs : List Int) : Prop where
  len : zs.length = n
  row : ∃ F R : List Value, F.length = o ∧ n + R.length = cap ∧ w.heap[g]? = some (.cells (F ++ (zs.map (Value.int .i64) ++ R)).toArray 3 (0, 0))
theorem Win.lt {w : World} {g o n cap : Nat} {zs : List Int} (h : Win w g o n cap zs) : g < w.heap.size := by
  obtain ⟨F, R, _, _, hr⟩ := h.row
  exact lt_of_block hr
theorem Win.drewN {w : World} {g o n cap : Nat} {zs : List Int} (h : Win w g o n cap zs) (k : Nat) : Win (w.drewN k) g o n cap zs := ⟨h.len, h.row⟩
theorem Win.ints {w : World} {g o n cap : Nat} {zs : List Int} (h : Win w g o n cap zs) : Ints w (some ⟨g, o, none⟩) zs := by
  obtain ⟨F, R, hF, _, hr⟩ := h.row
  intro i hi
  refine ⟨g, o, rfl, ?_⟩
  rw [cell_of_row' hr, ← hF]
  simp [hi, List.getElem?_append]
theorem Win.cell {w : World} {g o n cap : Nat} {zs : List Int} (h : Win w g o n cap zs) (i : Nat) (hi : i < n) : w.cell? ⟨g, o + i, none⟩ = some (.int .i64 (zs[i]?.getD 0)) := by
  obtain ⟨b, off, e, hc⟩ := h.ints i (by rw [h.len]; exact hi)
  cases e
  exact hc
theorem Win.cap_le {w : World} {g o n cap : Nat} {zs : List Int} (h : Win w g o n cap zs) : n ≤ cap := by
  obtain ⟨F, R, _, hc, _⟩ := h.row
  omega
theorem Win.first {w : World} {g o n cap : Nat} {zs : List Int} (h : Win w g o (n + 1) cap zs) : Win w g (o + 1) n (cap - 1) (zs.drop 1) := by
  obtain ⟨F, R, hF, hc, hr⟩ := h.row
  have hl := h.len
  obtain ⟨a, t, rfl⟩ : ∃ a t, zs = a :: t := List.exists_cons_of_length_pos (by omega)
  refine ⟨by simp at hl ⊢; omega, F ++ [Value.int .i64 a], R, by simp [hF], by omega, ?_⟩
  rw [hr]; simp
theorem Win.last {w : World} {g o n cap : Nat} {zs : List Int} (h : Win w g o (n + 1) cap zs) : Win w g o n cap (zs.take n) := by
  obtain ⟨F, R, hF, hc, hr⟩ := h.row
  have hl := h.len
  refine ⟨by simp; omega, F, (zs.drop n).map (Value.int .i64) ++ R, hF, by simp; omega, ?_⟩
  rw [hr, ← List.append_assoc ((zs.take n).map _), ← List.map_append, List.take_append_drop]

theorem extract_list (s : ByteArray) (a b : Nat) : (s.extract a b).data.toList = (s.data.toList.drop a).take (b - a) := by simp
theorem append_list (s t : ByteArray) : (s ++ t).data.toList = s.data.toList ++ t.data.toList := by simp

/-- What one step hands back: in the memory of the strip. -/
def RedOne (w : World) (g o n cap : Nat) (zs : List Int) (s : ByteArray) (e : Ending) (w' : World) : Prop := w.grownBy w' (some g) ∧
  match redZ zs s.data.toList with
  | none => e = .returned (.tuple #[.slice (some ⟨g, o, none⟩) n cap, .string s, .bool false]) ∧ Win w' g o n cap zs
  | some p => ∃ (o' cap' : Nat) (s' : ByteArray), e = .returned (.tuple #[.slice (some ⟨g, o', none⟩) p.1.length cap', .string s', .bool true]) ∧ s'.data.toList = p.2 ∧ o' + p.1.length ≤ o + n ∧ Win w' g o' p.1.length cap' p.1

set_option maxRecDepth 100000 in
set_option maxHeartbeats 1000000 in
theorem reduce_short (g o cap : Nat) (zs : List Int) (s : ByteArray) (w : World) (hw : Win w g o 1 cap zs) :
    Calls Try.prog 64 #[.slice (some ⟨g, o, none⟩) 1 cap, .string s] w (RedOne w g o 1 cap zs s) := by
  refine (reduce_5 (some ⟨g, o, none⟩) cap w s).mono ?_
  rintro e w' ⟨rfl, rfl⟩
  have e1 : redZ zs s.data.toList = none := by rw [redZ, if_pos (by rw [hw.len]; omega)]
  refine ⟨⟨rfl, rfl, rfl, Nat.le_refl _, fun _ _ _ => rfl⟩, ?_⟩
  rw [e1]
  exact ⟨rfl, hw⟩

set_option maxRecDepth 100000 in
set_option maxHeartbeats 1000000 in
theorem reduce_first (g o n cap : Nat) (zs : List Int) (s : ByteArray) (w : World) (hw : Win w g o (n + 2) cap zs) (hs : s.size = n + 1) (hn : n ≤ 1000) (h1 : zs[0]?.getD 0 ≤ zs[1]?.getD 0) :
    Calls Try.prog 64 #[.slice (some ⟨g, o, none⟩) (n + 2) cap, .string s] w (RedOne w g o (n + 2) cap zs s) := by
  have c0 : w.cell? ⟨g, o, none⟩ = _ := hw.cell 0 (by omega)
  have c1 : w.cell? ⟨g, o + 1, none⟩ = _ := hw.cell 1 (by omega)
  have hcond : decide (zs[0]?.getD 0 ≤ zs[1]?.getD 0) = true := decide_eq_true h1
  have e1 : redZ zs s.data.toList = some (zs.drop 1, s.data.toList.drop 1) := by rw [redZ, if_neg (by rw [hw.len]; omega), if_pos h1]
  have hcap := hw.cap_le
  have hcap1 : ¬ cap = 1 := by omega
  have HW := Lib.hid hw
  have HE := Lib.hid e1
  have hs1 : 1 ≤ s.size := by omega
  generalize zs[0]?.getD 0 = x at *
  generalize zs[1]?.getD 0 = y at *
  clear hw e1 h1
  go_enter Try.func64, Try.ntmps64
  go_wp2
  go_quiet (fail)
  go_wp2
  go_quiet (fail)
  go_wp2
  go_ret3
  refine ⟨World.grownBy.trans (grownBy_drewM _ _ _) (grownBy_drewM _ _ _), ?_⟩
  rw [HE.out]
  have hl : (zs.drop 1).length = n + 1 := by rw [List.length_drop, HW.out.len]; omega
  refine ⟨o + 1, cap - 1, s.extract 1 (n + 1), by show _ = Ending.returned (.tuple #[.slice _ (zs.drop 1).length _, _, _]); rw [hl]; rfl, ?_, ?_, ?_⟩
  · rw [extract_list]
    have : s.data.toList.length = n + 1 := by rw [Array.length_toList]; exact hs
    rw [List.take_of_length_le (by rw [List.length_drop]; omega)]
  · show o + 1 + (zs.drop 1).length ≤ _; omega
  · show Win _ g (o + 1) (zs.drop 1).length (cap - 1) (zs.drop 1)
    rw [hl]
    exact (HW.out.first.drewN _).drewN _

set_option maxRecDepth 100000 in
set_option maxHeartbeats 1000000 in
theorem reduce_last (g o n cap : Nat) (zs : List Int) (s : ByteArray) (w : World) (hw : Win w g o (n + 2) cap zs) (hs : s.size = n + 1) (hn : n ≤ 1000) (h1 : ¬ zs[0]?.getD 0 ≤ zs[1]?.getD 0) (h2 : zs[n + 1]?.getD 0 ≤ zs[n]?.getD 0) :
    Calls Try.prog 64 #[.slice (some ⟨g, o, none⟩) (n + 2) cap, .string s] w (RedOne w g o (n + 2) cap zs s) := by
  have c0 : w.cell? ⟨g, o, none⟩ = _ := hw.cell 0 (by omega)
  have c1 : w.cell? ⟨g, o + 1, none⟩ = _ := hw.cell 1 (by omega)
  have c2 : w.cell? ⟨g, o + (n + 1), none⟩ = _ := hw.cell (n + 1) (by omega)
  have c3 : w.cell? ⟨g, o + n, none⟩ = _ := hw.cell n (by omega)
  have hcond : decide (zs[0]?.getD 0 ≤ zs[1]?.getD 0) = false := decide_eq_false h1
  have hcond2 : decide (zs[n + 1]?.getD 0 ≤ zs[n]?.getD 0) = true := decide_eq_true h2
  have e1 : redZ zs s.data.toList = some (zs.take (n + 1), s.data.toList.take n) := by
    rw [redZ, if_neg (by rw [hw.len]; omega), if_neg h1, hw.len, show n + 2 - 1 = n + 1 by omega, show n + 2 - 2 = n by omega, if_pos h2]
  have hcap := hw.cap_le
  have HW := Lib.hid hw
  have HE := Lib.hid e1
  have hs1 : n ≤ s.size := by omega
  generalize zs[0]?.getD 0 = x at *
  generalize zs[1]?.getD 0 = y at *
  generalize zs[n]?.getD 0 = u at *
  generalize zs[n + 1]?.getD 0 = v at *
  clear hw e1 h1 h2
  have q1 : ((n : Int) + 2 - 1) = (n : Int) + 1 := by omega
  have q2 : ((n : Int) + 2 - 2) = (n : Int) := by omega
  have q3 : ((n : Int) + 1).toNat = n + 1 := by omega
  have q4 : (0 : Int) ≤ (n : Int) + 1 := by omega
  have q5 : (n : Int) + 1 < (n : Int) + 2 := by omega
  have q6 : (n : Int) < (n : Int) + 2 := by omega
  go_enter Try.func64, Try.ntmps64
  go_wp2
  go_quiet (fail)
  go_wp2
  go_quiet (fail)
  go_wp2
  go_quiet (fail)
  go_wp2
  go_ret3
  refine ⟨World.grownBy.trans (grownBy_drewM _ _ _) (World.grownBy.trans (grownBy_drewM _ _ _) (grownBy_drewM _ _ _)), ?_⟩
  rw [HE.out]
  have hl : (zs.take (n + 1)).length = n + 1 := by rw [List.length_take, HW.out.len]; omega
  refine ⟨o, cap, s.extract 0 n, by show _ = Ending.returned (.tuple #[.slice _ (zs.take (n + 1)).length _, _, _]); rw [hl]; rfl, ?_, ?_, ?_⟩
  · rw [extract_list, List.drop_zero, Nat.sub_zero]
  · show o + (zs.take (n + 1)).length ≤ _; omega
  · show Win _ g o (zs.take (n + 1)).length cap (zs.take (n + 1))
    rw [hl]
    exact ((HW.out.last.drewN _).drewN _).drewN _

end Go.Proofs.Ytfgenpailmgkiaa

namespace Go.Proofs.Ytfgenpailmgkiaa
open Go.RowKit Go.Sort

set_option maxRecDepth 100000 in
set_option maxHeartbeats 1000000 in
theorem replace_tail (g o bv i cap : Nat) (A rest : List Value) (x1 x2 x3 : Value) (z : Int) (w : World) (hA : A.length = o + i) (hcap : i + 3 + rest.length = cap) (hi : i ≤ 1000) (hg : w.heap[g]? = some (.cells (A ++ ([x1, x2, x3] ++ rest)).toArray 3 (0, 0)))
    (hv : w.cell? ⟨bv, 0, none⟩ = some (.int .i64 z)) :
    Calls Try.prog 77 #[.slice (some ⟨g, o, none⟩) (i + 3) cap, .int .i64 i, .int .i64 ((i : Int) + 3), .slice (some ⟨bv, 0, none⟩) 1 1] w
      fun e w' => e = .returned (.slice (some ⟨g, o, none⟩) (i + 1) cap) ∧ w'.heap[g]? = some (.cells (A ++ ([Value.int .i64 z, Value.int .i64 0, Value.int .i64 0] ++ rest)).toArray 3 (0, 0)) ∧ w.grownBy w' (some g) := by
  obtain ⟨i0, hi0, hz0, hz1, hz2⟩ := info_parts Try.info3
  have happ := fun ty => run_append_room_cells (P := Try.prog) w 22 ty 3 i0 Try.underlying22 hi0 g o i cap ⟨bv, 0, none⟩ 1 1 [Value.int .i64 z] (by simp [hz1]) (fun j u hj => by
    match j, hj with
    | 0, hj => simp at hj; subst hj; simpa [Addr.add] using hv) (by simp [Value.oneCell']) (by omega) (by
      intro j hj
      simp at hj
      subst hj
      rw [hz1, Nat.mul_one, Nat.add_zero, cell_of_row' hg]
      simp [hA]) (fun j hj => row_free hg _)
  rw [hz1, Nat.mul_one] at happ
  obtain ⟨W1, hW1⟩ : ∃ W1, w.setCells g (o + i) [Value.int .i64 z] = W1 := ⟨_, rfl⟩
  rw [hW1] at happ
  have g1 : W1.heap[g]? = some (.cells (A ++ ([Value.int .i64 z, x2, x3] ++ rest)).toArray 3 (0, 0)) := by
    rw [← hW1]
    show (w.setCell ⟨g, o + i, none⟩ (.int .i64 z)).heap[g]? = _
    refine setCell_list hg ?_
    rw [← hA, List.set_append_right _ _ (by omega)]; simp
  have gr1 : w.grownBy W1 (some g) := by rw [← hW1]; exact grownBy_setCell1 w g (o + i) _
  have hclr := fun ty => Lib.run_clear_slice (P := Try.prog) W1 22 3 ty (.int .i64 0) Try.underlying22 Try.zeroValue3 rfl rfl g (o + (i + 1)) 2 (cap - (i + 1)) (by omega)
    (fun j hj => by rw [cell_of_row' g1]; simp [hA]; omega) (fun j hj => row_free g1 _)
  have g2 : (W1.setCells g (o + (i + 1)) (List.replicate 2 (.int .i64 0))).heap[g]? = some (.cells (A ++ ([Value.int .i64 z, Value.int .i64 0, Value.int .i64 0] ++ rest)).toArray 3 (0, 0)) := by
    show ((W1.setCell ⟨g, o + (i + 1), none⟩ (.int .i64 0)).setCell ⟨g, o + (i + 1) + 1, none⟩ (.int .i64 0)).heap[g]? = _
    refine setCell_list (setCell_list g1 (ys := A ++ ([Value.int .i64 z, Value.int .i64 0, x3] ++ rest)) ?_) ?_
    · rw [show o + (i + 1) = A.length + 1 by omega, List.set_append_right _ _ (by omega)]; simp
    · rw [show o + (i + 1) + 1 = A.length + 2 by omega, List.set_append_right _ _ (by omega)]; simp
  have gr2 : W1.grownBy (W1.setCells g (o + (i + 1)) (List.replicate 2 (.int .i64 0))) (some g) := World.grownBy.trans (grownBy_setCell1 W1 g (o + (i + 1)) _) (grownBy_setCell1 _ g (o + (i + 1) + 1) _)
  have HF := Lib.hid (And.intro g2 (World.grownBy.trans gr1 gr2))
  have Hi := Lib.hid hA
  have Happ := Lib.hid happ
  have Hclr := Lib.hid hclr
  clear g1 gr1 g2 gr2 hW1 hg hv hi0 hz0 hz1 hz2 hA happ hclr
  go_enter Try.func77, Try.ntmps77
  go_wp2_with (first
    | (refine wpList_append_run rfl (.tmp 32) (.tmp 33) 22 rfl _ _ _ rfl rfl Happ.out ?_)
    | (refine wpList_clear_run rfl (.tmp 43) 22 rfl (.slice (some ⟨g, o + (i + 1), none⟩) 2 (cap - (i + 1))) _ rfl Hclr.out ?_))
  · go_ret
    exact ⟨rfl, HF.out.1, HF.out.2⟩

end Go.Proofs.Ytfgenpailmgkiaa

namespace Go.Proofs.Ytfgenpailmgkiaa
open Go.RowKit Go.Sort

theorem replace_any (g o n cap bv j : Nat) (zs : List Int) (z : Int) (w : World) (hw : Win w g o (n + 2) cap zs) (hj : j < n) (hn : n ≤ 500) (ho : o ≤ 500) (hv : w.cell? ⟨bv, 0, none⟩ = some (.int .i64 z)) :
    Calls Try.prog 77 #[.slice (some ⟨g, o, none⟩) (n + 2) cap, .int .i64 j, .int .i64 ((j : Int) + 3), .slice (some ⟨bv, 0, none⟩) 1 1] w
      fun e w' => e = .returned (.slice (some ⟨g, o, none⟩) n cap) ∧ Win w' g o n cap (zs.take j ++ z :: zs.drop (j + 3)) ∧ w.grownBy w' (some g) := by
  obtain ⟨F, R, hF, hc, hr⟩ := hw.row
  have hl := hw.len
  obtain ⟨a, b, c, e, _, _, _⟩ := three_of zs j (by omega)
  have hlen : (zs.take j ++ z :: zs.drop (j + 3)).length = n := by simp; omega
  have hr2 : w.heap[g]? = some (.cells (F ++ (zs.take j).map (Value.int .i64) ++ ([Value.int .i64 a, Value.int .i64 b, Value.int .i64 c] ++ ((zs.drop (j + 3)).map (Value.int .i64) ++ R))).toArray 3 (0, 0)) := by
    rw [hr]
    congr 3
    conv => lhs; rw [e]
    simp
  by_cases ht : j + 3 = n + 2
  · have h0 : zs.drop (j + 3) = [] := List.drop_of_length_le (by omega)
    have h1 := replace_tail g o bv j cap (F ++ (zs.take j).map (Value.int .i64)) R (.int .i64 a) (.int .i64 b) (.int .i64 c) z w (by simp; omega) (by omega) (by omega) (by rw [hr2, h0]; simp) hv
    rw [ht] at h1
    refine h1.mono ?_
    rintro e' w' ⟨rfl, q1, q2⟩
    refine ⟨by rw [show j + 1 = n by omega], ⟨hlen, F, [Value.int .i64 0, Value.int .i64 0] ++ R, hF, by simp; omega, ?_⟩, q2⟩
    rw [q1, h0]; simp
  · obtain ⟨m, hm⟩ : ∃ m, n + 2 = j + 3 + m := ⟨n + 2 - (j + 3), by omega⟩
    have h1 := replace_mid g o bv j m cap (F ++ (zs.take j).map (Value.int .i64)) ((zs.drop (j + 3)).map (Value.int .i64)) R (.int .i64 a) (.int .i64 b) (.int .i64 c) z w (by simp; omega) (by simp; omega) (by omega) (by omega) (by omega) (by omega) (by omega) hr2 hv
      (fun v hv => by obtain ⟨_, _, rfl⟩ := List.mem_map.1 hv; rfl)
    rw [← hm] at h1
    refine h1.mono ?_
    rintro e' w' ⟨rfl, q1, q2⟩
    refine ⟨by rw [show j + 1 + m = n by omega], ⟨hlen, F, [Value.int .i64 0, Value.int .i64 0] ++ R, hF, by simp; omega, ?_⟩, q2⟩
    rw [q1]; simp

theorem find_none_upto {p : Nat → Bool} {n : Nat} (h : ∀ i, i < n → p i = false) : (List.range n).find? p = none := by
  rw [List.find?_eq_none]
  intro i hi
  rw [h i (List.mem_range.1 hi)]
  exact Bool.false_ne_true
theorem find_first {p : Nat → Bool} {n j : Nat} (hj : j < n) (h : ∀ i, i < j → p i = false) (hp : p j = true) : (List.range n).find? p = some j := by
  have e : List.range n = List.range j ++ j :: (List.range' (j + 1) (n - j - 1)) := by
    rw [List.range_eq_range', List.range_eq_range', show n = j + (1 + (n - j - 1)) by omega, ← List.range'_append_1, ← List.range'_append_1]
    simp
  rw [e, List.find?_append, find_none_upto h, List.find?_cons, hp]; rfl

set_option maxRecDepth 100000 in
set_option maxHeartbeats 2000000 in
theorem reduce_loop (g o n cap : Nat) (zs : List Int) (s : ByteArray) (w : World) (hw : Win w g o (n + 2) cap zs) (hs : s.size = n + 1) (hn : n ≤ 500) (ho : o ≤ 500) (hz : ∀ i : Nat, 0 ≤ zs[i]?.getD 0 ∧ zs[i]?.getD 0 ≤ 1000000) (h1 : ¬ zs[0]?.getD 0 ≤ zs[1]?.getD 0) (h2 : ¬ zs[n + 1]?.getD 0 ≤ zs[n]?.getD 0) :
    Calls Try.prog 64 #[.slice (some ⟨g, o, none⟩) (n + 2) cap, .string s] w (RedOne w g o (n + 2) cap zs s) := by
  have c0 : w.cell? ⟨g, o, none⟩ = _ := hw.cell 0 (by omega)
  have c1 : w.cell? ⟨g, o + 1, none⟩ = _ := hw.cell 1 (by omega)
  have c2 : w.cell? ⟨g, o + (n + 1), none⟩ = _ := hw.cell (n + 1) (by omega)
  have c3 : w.cell? ⟨g, o + n, none⟩ = _ := hw.cell n (by omega)
  have hcond : decide (zs[0]?.getD 0 ≤ zs[1]?.getD 0) = false := decide_eq_false h1
  have hcond2 : decide (zs[n + 1]?.getD 0 ≤ zs[n]?.getD 0) = false := decide_eq_false h2
  have e1 : redZ zs s.data.toList = ((List.range n).find? (crimpC zs s.data.toList)).map fun j => (foldIn zs j, s.data.toList.take j ++ s.data.toList.drop (j + 2)) := by
    rw [redZ, if_neg (by rw [hw.len]; omega), if_neg h1, hw.len, show n + 2 - 1 = n + 1 by omega, show n + 2 - 2 = n by omega, if_neg h2]
  have hcap := hw.cap_le
  have Hcr : Hid (∀ (j : Nat) (wq : World), j < n → Win wq g o (n + 2) cap zs → Calls Try.prog 76 #[.slice (some ⟨g, o, none⟩) (n + 2) cap, .string s, .int .i64 ((j : Int) + 1)] wq fun e w' => e = .returned (.bool (crimpC zs s.data.toList j)) ∧ ∃ m, w' = wq.drewN m) := Lib.hid fun j wq hj h =>
    canCrimp_any g o cap (n + 2) zs s j wq h.len (by omega) (by omega) (by omega) h.lt h.ints
  have HW := Lib.hid (And.intro hw hz)
  have HE := Lib.hid e1
  generalize zs[0]?.getD 0 = x at *
  generalize zs[1]?.getD 0 = y at *
  generalize zs[n]?.getD 0 = u at *
  generalize zs[n + 1]?.getD 0 = v at *
  clear hw e1 h1 h2 hz
  have q1 : ((n : Int) + 2 - 1) = (n : Int) + 1 := by omega
  have q2 : ((n : Int) + 2 - 2) = (n : Int) := by omega
  have q3 : ((n : Int) + 1).toNat = n + 1 := by omega
  have q4 : (0 : Int) ≤ (n : Int) + 1 := by omega
  have q5 : (n : Int) + 1 < (n : Int) + 2 := by omega
  have q6 : (n : Int) < (n : Int) + 2 := by omega
  go_enter Try.func64, Try.ntmps64
  go_wp2
  go_quiet (fail)
  obtain ⟨w1, hw1⟩ : ∃ w1, w.drewN nq = w1 := ⟨_, rfl⟩
  rw [hw1]
  have H1 : Hid (Win w1 g o (n + 2) cap zs ∧ w.grownBy w1 (some g)) := Lib.hid (by rw [← hw1]; exact ⟨HW.out.1.drewN _, grownBy_drewM _ _ _⟩)
  have c2' : w1.cell? ⟨g, o + (n + 1), none⟩ = some (.int .i64 v) := by rw [← hw1]; exact c2
  have c3' : w1.cell? ⟨g, o + n, none⟩ = some (.int .i64 u) := by rw [← hw1]; exact c3
  clear hw1 c0 c1 c2 c3 nq
  go_wp2
  go_quiet (fail)
  obtain ⟨w2, hw2⟩ : ∃ w2, w1.drewN nq = w2 := ⟨_, rfl⟩
  rw [hw2]
  have H2 : Hid (Win w2 g o (n + 2) cap zs ∧ w.grownBy w2 (some g)) := Lib.hid (by rw [← hw2]; exact ⟨H1.out.1.drewN _, World.grownBy.trans H1.out.2 (grownBy_drewM _ _ _)⟩)
  clear hw2 c2' c3' H1 nq
  go_wp2
  go_loopw [0, 8] (fun s0 i wr => s0 = .slice (some ⟨g, o, none⟩) (n + 2) cap ∧ ∃ j : Nat, j ≤ n ∧ i = .int .i64 ((j : Int) + 1) ∧ (∀ k, k < j → crimpC zs s.data.toList k = false) ∧ Win wr g o (n + 2) cap zs ∧ w.grownBy wr (some g)) (fun _ i _ => n + 1 - (intOf i).toNat)
  case atStart => exact ⟨rfl, 0, Nat.zero_le _, rfl, fun k hk => by omega, H2.out⟩
  case round =>
    obtain ⟨rfl, j, hj, rfl, hno, hwr, hgr⟩ := hrel
    have HR := Lib.hid (And.intro hno (And.intro hwr hgr))
    clear hno hwr hgr
    by_cases hlt : j < n
    · have hcr := Hcr.out j wr hlt HR.out.2.1
      rcases Bool.eq_false_or_eq_true (crimpC zs s.data.toList j) with hc | hc
      · rw [hc] at hcr
        have HC := Lib.hid hc
        have Hcr' := Lib.hid hcr
        clear hc hcr
        go_wp2_with (go_at_call 76; refine Hcr'.out.mono ?_; rintro e w3 ⟨rfl, m1, hm1⟩; have H3 : Hid (Win w3 g o (n + 2) cap zs ∧ w.grownBy w3 (some g)) := Lib.hid (by rw [hm1]; exact ⟨HR.out.2.1.drewN _, World.grownBy.trans HR.out.2.2 (grownBy_drewM _ _ _)⟩); clear hm1)
        obtain ⟨a, ha⟩ : ∃ a, zs[j]?.getD 0 = a := ⟨_, rfl⟩; obtain ⟨b, hb⟩ : ∃ b, zs[j + 1]?.getD 0 = b := ⟨_, rfl⟩; obtain ⟨c, hc⟩ : ∃ c, zs[j + 1 + 1]?.getD 0 = c := ⟨_, rfl⟩
        have d0 := H3.out.1.cell j (by omega); have d1 := H3.out.1.cell (j + 1) (by omega); have d2 := H3.out.1.cell (j + 1 + 1) (by omega)
        rw [ha] at d0; rw [hb] at d1; rw [hc] at d2
        have ba := HW.out.2 j; have bb := HW.out.2 (j + 1); have bc := HW.out.2 (j + 1 + 1)
        rw [ha] at ba; rw [hb] at bb; rw [hc] at bc
        have HA := Lib.hid (And.intro ha (And.intro hb hc)); clear ha hb hc
        go_quiet (fail)
        obtain ⟨w5, hw5⟩ : ∃ w5, w3.drewN nq = w5 := ⟨_, rfl⟩
        rw [hw5]
        have H5 : Hid (Win w5 g o (n + 2) cap zs ∧ w.grownBy w5 (some g)) := Lib.hid (by rw [← hw5]; exact ⟨H3.out.1.drewN _, World.grownBy.trans H3.out.2 (grownBy_drewM _ _ _)⟩)
        clear hw5 d0 d1 d2 H3 nq
        obtain ⟨W6, hW6⟩ : ∃ W6, w5.alloc (.cells #[.int .i64 (a - b + c)] 3) = W6 := ⟨_, rfl⟩
        have HRp : Hid (Calls Try.prog 77 #[.slice (some ⟨g, o, none⟩) (n + 2) cap, .int .i64 j, .int .i64 ((j : Int) + 1 + 2), .slice (some ⟨w5.heap.size, 0, none⟩) 1 1] W6
            fun e w' => e = .returned (.slice (some ⟨g, o, none⟩) n cap) ∧ Win w' g o n cap (foldIn zs j) ∧ W6.grownBy w' (some g)) := Lib.hid (by
          have hw6 : Win W6 g o (n + 2) cap zs := by
            obtain ⟨F, R, r1, r2, r3⟩ := H5.out.1.row
            exact ⟨H5.out.1.len, F, R, r1, r2, by rw [← hW6, Below.heap_alloc _ _ _ H5.out.1.lt]; exact r3⟩
          have := replace_any g o n cap w5.heap.size j zs (a - b + c) W6 hw6 hlt hn ho (by rw [← hW6]; exact cells_new w5 [.int .i64 (a - b + c)] 3 w5.heap.size rfl 0 _ rfl)
          rw [show (j : Int) + 1 + 2 = (j : Int) + 3 by omega]
          unfold foldIn
          rw [HA.out.1, HA.out.2.1, HA.out.2.2]
          exact this)
        have H6 : Hid (w.grownBy W6 (some g)) := Lib.hid (by
          rw [← hW6]
          exact World.grownBy.trans H5.out.2 ⟨rfl, rfl, rfl, by simp, fun k hk _ => Below.heap_alloc _ _ _ hk⟩)
        have HW6 := Lib.hid hW6
        clear hW6
        go_wp2_with (go_at_call 77; rw [HW6.out]; refine HRp.out.mono ?_; rintro e w7 ⟨rfl, hwin, hgr⟩; have H7 := Lib.hid (And.intro hwin (World.grownBy.trans H6.out hgr)); clear hwin hgr HRp)
        go_quiet (fail)
        go_wp2
        go_ret3
        refine ⟨World.grownBy.trans H7.out.2 (grownBy_drewM _ _ _), ?_⟩
        rw [HE.out, find_first hlt HR.out.1 HC.out]
        have hlen := H7.out.1.len
        refine ⟨o, cap, s.extract 0 j ++ s.extract (j + 1 + 1) (n + 1), by show _ = Ending.returned (.tuple #[.slice _ (foldIn zs j).length _, _, _]); rw [hlen]; rfl, ?_, ?_, ?_⟩
        · show _ = s.data.toList.take j ++ s.data.toList.drop (j + 2)
          have hsl : s.data.toList.length = n + 1 := by rw [Array.length_toList]; exact hs
          rw [append_list, extract_list, extract_list, List.drop_zero, Nat.sub_zero, List.take_of_length_le (l := s.data.toList.drop (j + 1 + 1)) (by rw [List.length_drop]; omega)]
        · show o + (foldIn zs j).length ≤ _; omega
        · show Win _ g o (foldIn zs j).length cap (foldIn zs j)
          rw [hlen]
          exact H7.out.1.drewN _
      · rw [hc] at hcr
        have HC := Lib.hid hc
        have Hcr' := Lib.hid hcr
        clear hc hcr
        go_wp2_with (go_at_call 76; refine Hcr'.out.mono ?_; rintro e w3 ⟨rfl, m1, hm1⟩; have H3 : Hid (Win w3 g o (n + 2) cap zs ∧ w.grownBy w3 (some g)) := Lib.hid (by rw [hm1]; exact ⟨HR.out.2.1.drewN _, World.grownBy.trans HR.out.2.2 (grownBy_drewM _ _ _)⟩); clear hm1)
        go_roundw
        case rel =>
          refine ⟨rfl, j + 1, by omega, by go_num, fun k hk => ?_, H3.out⟩
          by_cases e : k = j
          · rw [e]; exact HC.out
          · exact HR.out.1 k (by omega)
        case measure => simp [intOf]; omega
    · go_wp2
      go_ret3
      refine ⟨HR.out.2.2, ?_⟩
      have hj' : j = n := by omega
      subst hj'
      rw [HE.out, find_none_upto HR.out.1]
      exact ⟨rfl, HR.out.2.1⟩

theorem size_list (s : ByteArray) : s.data.toList.length = s.size := by rw [Array.length_toList]; rfl
/-- One step at any strip. -/
theorem reduceOnce_any (g o n cap : Nat) (zs : List Int) (s : ByteArray) (w : World) (hw : Win w g o n cap zs) (hg : Good 1000000 zs s.data.toList) (hn : o + n ≤ 500) :
    Calls Try.prog 64 #[.slice (some ⟨g, o, none⟩) n cap, .string s] w (RedOne w g o n cap zs s) := by
  have h1 := hg.one
  have hl := hg.len
  have hwl := hw.len
  rw [size_list] at hl
  by_cases hn1 : n = 1
  · subst hn1
    exact reduce_short g o cap zs s w hw
  · obtain ⟨m, rfl⟩ : ∃ m, n = m + 2 := ⟨n - 2, by omega⟩
    by_cases c1 : zs[0]?.getD 0 ≤ zs[1]?.getD 0
    · exact reduce_first g o m cap zs s w hw (by omega) (by omega) c1
    · by_cases c2 : zs[m + 1]?.getD 0 ≤ zs[m]?.getD 0
      · exact reduce_last g o m cap zs s w hw (by omega) (by omega) c1 c2
      · refine reduce_loop g o m cap zs s w hw (by omega) (by omega) (by omega) (fun i => ?_) c1 c2
        by_cases hi : i < zs.length
        · rw [List.getElem?_eq_getElem hi]
          have q1 := hg.pos _ (List.getElem_mem hi)
          have q2 := le_sum zs hg.pos _ (List.getElem_mem hi)
          have q3 := hg.sum
          show 0 ≤ zs[i] ∧ zs[i] ≤ 1000000
          omega
        · rw [List.getElem?_eq_none (by omega)]
          show (0 : Int) ≤ 0 ∧ (0 : Int) ≤ 1000000
          omega

end Go.Proofs.Ytfgenpailmgkiaa

namespace Go.Proofs.Ytfgenpailmgkiaa
open Go.RowKit Go.Sort

theorem redAll_none {zs : List Int} {cs : List UInt8} (h : redZ zs cs = none) : ∀ k, redAll k zs cs = (zs, cs)
  | 0 => rfl
  | k + 1 => by rw [redAll, h]
theorem redZ_two {zs : List Int} {cs : List UInt8} {p : List Int × List UInt8} (h : redZ zs cs = some p) : 2 ≤ zs.length := by
  unfold redZ at h
  split at h
  · cases h
  · omega

/-- What 'Reduce' hands back: what is left, in memory of its own. -/
def RedEnd (w : World) (zs : List Int) (cs : List UInt8) (e : Ending) (w' : World) : Prop :=
  ∃ (g o cap : Nat) (s' : ByteArray), e = .returned (.tuple #[.slice (some ⟨g, o, none⟩) (redAll zs.length zs cs).1.length cap, .string s', .int .i64 0]) ∧ s'.data.toList = (redAll zs.length zs cs).2 ∧ Ints w' (some ⟨g, o, none⟩) (redAll zs.length zs cs).1 ∧ Below w.heap.size w w'

/-- What its loop keeps. -/
def RedJ (w : World) (zs : List Int) (cs : List UInt8) (v p b : Value) (wr : World) : Prop := Below w.heap.size w wr ∧ ∃ (g o cap k : Nat) (ys : List Int) (s : ByteArray) (again : Bool),
  v = .slice (some ⟨g, o, none⟩) ys.length cap ∧ p = .string s ∧ b = .bool again ∧ w.heap.size ≤ g ∧ Win wr g o ys.length cap ys ∧ o + ys.length ≤ 500 ∧ Good 1000000 ys s.data.toList ∧ ys.length ≤ k + 1 ∧ redAll zs.length zs cs = redAll k ys s.data.toList ∧ (again = false → redZ ys s.data.toList = none)

theorem good_of {zs : List Int} {s : ByteArray} (hg : stripB zs = true) (hp : patB s (zs.length - 1) = true) : Good 1000000 zs s.data.toList := by
  obtain ⟨p1, p9, ps⟩ := strip_parts hg
  simp only [patB, Bool.and_eq_true, beq_iff_eq] at hp
  have hle : ∀ zs : List Int, sizesB zs = true → zs.sum ≤ 1000 * zs.length := by
    intro zs
    induction zs with
    | nil => intro _; simp
    | cons a t ih =>
      intro h
      simp only [sizesB, List.all_cons, Bool.and_eq_true] at h
      have := ih h.2
      have h1 := h.1
      simp [sizeB] at h1
      rw [List.sum_cons, List.length_cons]
      omega
  refine ⟨p1, by rw [size_list, hp.1]; omega, fun b hb => ?_, fun z hz => ?_, by have := hle zs ps; omega⟩
  · have := hp.2
    rw [List.all_eq_true] at this
    exact this b hb
  · rw [sizesB, List.all_eq_true] at ps
    have := ps z hz
    simp [sizeB] at this
    exact this.1

theorem clone_ints (b off n cap : Nat) (zs : List Int) (w : World) (hn : zs.length = n) (h1 : 1 ≤ n) (h2 : n ≤ 1000) (hz : Ints w (some ⟨b, off, none⟩) zs) :
    Calls Try.prog 63 #[.slice (some ⟨b, off, none⟩) n cap] w fun e w' => ∃ g c, e = .returned (.slice (some ⟨g, 0, none⟩) n c) ∧ w'.ownsRow w.heap.size 3 1 (.slice (some ⟨g, 0, none⟩) n c) n (zs.map (Value.int .i64)) ∧ Below w.heap.size w w' := by
  refine (Go.Proofs.Try.slices_Clone_int b off n cap zs w (by omega) (by omega) (fun j hj => ?_)).mono ?_
  · obtain ⟨b', o', e, hc⟩ := hz j hj
    cases e
    rw [hc, List.getD_eq_getElem?_getD]
  · rintro e w' ⟨v, rfl, ho, _, hb⟩
    rw [← hn, List.take_length] at ho
    obtain ⟨m, rfl⟩ : ∃ m, n = m + 1 := ⟨n - 1, by omega⟩
    rw [hn] at ho
    obtain ⟨g, c, rfl⟩ := ownsRow_succ' ho
    exact ⟨g, c, rfl, ho, hb⟩

set_option maxRecDepth 100000 in
set_option maxHeartbeats 2000000 in
theorem Reduce_good (b off n cap : Nat) (zs : List Int) (s : ByteArray) (w : World) (hn : zs.length = n) (hz : Ints w (some ⟨b, off, none⟩) zs) (hg : stripB zs = true) (hp : patB s (n - 1) = true) :
    Calls Try.prog 27 #[.slice (some ⟨b, off, none⟩) n cap, .string s] w (RedEnd w zs s.data.toList) := by
  obtain ⟨p1, p9, ps⟩ := strip_parts hg
  have hgd := Lib.hid (good_of hg (by rw [hn]; exact hp))
  have his := Lib.hid (isStrip_any (some ⟨b, off, none⟩) n cap zs w hn (by omega) hz)
  rw [hg] at his
  have hsum : ((n : Int) - 1) = ((n - 1 : Nat) : Int) := by omega
  have hps : s.size = n - 1 := by simp [patB] at hp; exact hp.1
  have hpat := isPattern_any s (n - 1) w (by omega) (by omega)
  rw [hp] at hpat
  have Hpat := Lib.hid hpat
  have Hsum := Lib.hid hsum
  have hcl := Lib.hid (clone_ints b off n cap zs w hn (by omega) (by omega) hz)
  have HN := Lib.hid hn
  have hn1 : 1 ≤ n := by omega
  have hn9 : n ≤ 9 := by omega
  clear hz hg hp hpat hsum hn ps p1 p9
  go_enter Try.func27, Try.ntmps27
  go_wp2_with (first
    | (go_at_call 47; refine his.out.mono ?_; rintro e w1 ⟨rfl, rfl⟩)
    | (go_at_call 62; rw [Hsum.out]; refine Hpat.out.mono ?_; rintro e w1 ⟨rfl, rfl⟩)
    | (go_at_call 63; refine hcl.out.mono ?_; rintro e w1 ⟨g0, c0, rfl, hrow, hb1⟩; have HB := Lib.hid (And.intro hrow hb1); clear hrow hb1))
  go_loopw [7, 8, 9] (fun v p b wr => RedJ w zs s.data.toList v p b wr) (fun v _ b _ => redM v b)
  case atStart =>
    have hrow := HB.out.1
    refine ⟨HB.out.2, ?_⟩
    rcases hrow.2 with ⟨h0, _⟩ | ⟨g, c, cur, e, hge, hb, h1, h2, h3, h4⟩
    · omega
    · cases e
      have hzl := HN.out
      refine ⟨g0, 0, c0, n, zs, s, true, by rw [HN.out], rfl, rfl, hge, ⟨rfl, [], cur.toList.drop n, rfl, by simp; omega, ?_⟩, by omega, hgd.out, by omega, by rw [HN.out], fun h => by cases h⟩
      rw [hb]
      have h4' : cur.toList.take n = zs.map (Value.int .i64) := by simpa using h4
      rw [List.nil_append, ← h4', List.take_append_drop]
  case round =>
    obtain ⟨hb, g, o, cp, k, ys, t, again, rfl, rfl, rfl, hgs, hwin, hoff, hgood, hk, hall, hag⟩ := hrel
    cases again with
    | true =>
      have hr := Lib.hid (reduceOnce_any g o ys.length cp ys t wr hwin hgood hoff)
      have H := Lib.hid (And.intro hb (And.intro hgs (And.intro hwin (And.intro hoff (And.intro hgood (And.intro hk hall))))))
      clear hb hgs hwin hoff hgood hk hall hag
      cases hred : redZ ys t.data.toList with
      | none =>
        have HRn := Lib.hid hred
        clear hred
        go_wp2_with (go_at_call 64; refine hr.out.mono ?_; unfold RedOne; rw [HRn.out]; rintro e w2 ⟨hgr, rfl, hwin2⟩; have HQ := Lib.hid (And.intro hgr hwin2); clear hgr hwin2)
        go_roundw
        case rel =>
          have hsz := H.out.1.size
          exact ⟨H.out.1.grown HQ.out.1 hsz (fun q hq => by have := H.out.2.1; simp at hq; omega), g, o, cp, k, ys, t, false, rfl, rfl, rfl, H.out.2.1, HQ.out.2, H.out.2.2.2.1, H.out.2.2.2.2.1, H.out.2.2.2.2.2.1, H.out.2.2.2.2.2.2, fun _ => HRn.out⟩
        case measure => simp [redM]
      | some q =>
        have HRn := Lib.hid hred
        clear hred
        go_wp2_with (go_at_call 64; refine hr.out.mono ?_; unfold RedOne; rw [HRn.out]; rintro e w2 ⟨hgr, o', cp', s', rfl, hs', hoff', hwin2⟩; have HQ := Lib.hid (And.intro hgr (And.intro hs' (And.intro hoff' hwin2))); clear hgr hs' hoff' hwin2)
        go_roundw
        case rel =>
          have hsz := H.out.1.size
          obtain ⟨g1, g2⟩ := redZ_good H.out.2.2.2.2.1 HRn.out
          have h2 := redZ_two HRn.out
          have hk := H.out.2.2.2.2.2.1
          obtain ⟨k', rfl⟩ : ∃ k', k = k' + 1 := ⟨k - 1, by omega⟩
          refine ⟨H.out.1.grown HQ.out.1 hsz (fun q hq => by have := H.out.2.1; simp at hq; omega), g, o', cp', k', q.1, s', true, rfl, rfl, rfl, H.out.2.1, HQ.out.2.2.2, by have := HQ.out.2.2.1; have := H.out.2.2.2.1; omega, by rw [HQ.out.2.1]; exact g1, by omega, ?_, fun h => by cases h⟩
          rw [H.out.2.2.2.2.2.2, redAll, HRn.out, HQ.out.2.1]
        case measure =>
          have g2 := (redZ_good H.out.2.2.2.2.1 HRn.out).2
          simp [redM]; omega
    | false =>
      have H := Lib.hid (And.intro hb (And.intro hwin (And.intro hall (hag rfl))))
      clear hb hgs hwin hoff hgood hk hall hag
      go_wp2
      go_ret3
      have e := H.out.2.2.1
      rw [redAll_none H.out.2.2.2] at e
      refine ⟨g, o, cp, t, by rw [e]; rfl, by rw [e], by rw [e]; exact H.out.2.1.ints, H.out.1⟩

set_option maxRecDepth 100000 in
set_option maxHeartbeats 2000000 in
theorem Reduce_bad (a : Option Addr) (n cap : Nat) (zs : List Int) (s : ByteArray) (x : Int) (w : World) (hn : zs.length = n) (hn2 : n ≤ 1000) (hs : s.size ≤ 1000000) (hz : Ints w a zs) (h : (stripB zs = false ∧ x = 1) ∨ (stripB zs = true ∧ patB s (n - 1) = false ∧ x = 2)) :
    Calls Try.prog 27 #[.slice a n cap, .string s] w fun e w' => e = .returned (.tuple #[.slice none 0 0, .string ⟨#[]⟩, .int .i64 x]) ∧ w = w' := by
  have his := isStrip_any a n cap zs w hn (by omega) hz
  rcases h with ⟨h1, rfl⟩ | ⟨h1, h2, rfl⟩
  · rw [h1] at his
    have His := Lib.hid his
    clear his h1 hz hn
    go_enter Try.func27, Try.ntmps27
    go_wp2_with (go_at_call 47; refine His.out.mono ?_; rintro e w1 ⟨rfl, rfl⟩)
    go_ret3
    exact ⟨rfl, rfl⟩
  · rw [h1] at his
    have His := Lib.hid his
    obtain ⟨p1, p9, ps⟩ := strip_parts h1
    have hsum : ((n : Int) - 1) = ((n - 1 : Nat) : Int) := by omega
    have hpat := isPattern_any s (n - 1) w (by omega) (by omega)
    rw [h2] at hpat
    have Hpat := Lib.hid hpat
    have Hsum := Lib.hid hsum
    have hn1 : 1 ≤ n := by omega
    have hn9 : n ≤ 9 := by omega
    clear his h1 h2 hz hn hpat hsum ps
    go_enter Try.func27, Try.ntmps27
    go_wp2_with (first
      | (go_at_call 47; refine His.out.mono ?_; rintro e w1 ⟨rfl, rfl⟩)
      | (go_at_call 62; rw [Hsum.out]; refine Hpat.out.mono ?_; rintro e w1 ⟨rfl, rfl⟩))
    go_ret3
    exact ⟨rfl, rfl⟩

end Go.Proofs.Ytfgenpailmgkiaa

