/-
  Proved: FoldKawasaki returns true for every list, every number and both values of spoil: a vertex of two, four or six angles folds exactly if it closes; in each of its patterns, which are each there once and in order, the numbers of M and V differ by two, and with each pattern the exchanged one is there. No condition.
-/
import Derived.Test.YteankhgikpejhaaHa
import Derived.Test.YteankhgikpejhaaNa
import Derived.Test.YteankhgikpejhaaQb
import Derived.Test.YteankhgikpejhaaPi
import Derived.IntWalk
import Derived.BigQuiet
import Derived.Deep.QuietTactic
import Derived.Test.YteankhgikpejhaaHd
import Derived.Test.YteankhgikpejhaaJe
import Derived.ChangeMaps5
namespace Go.Proofs.Yteankhgikpejhaa
open Go.RowKit Go.Sort

/-- The angles before the last correction. -/
def rawZ (xs : List Int) (k : Nat) : List Int := (List.range k).map fun i => if i < xs.length then f1Z (xs[i]?.getD 0) 9 else 1
theorem rawZ_succ (xs : List Int) (k : Nat) : rawZ xs (k + 1) = rawZ xs k ++ [if k < xs.length then f1Z (xs[k]?.getD 0) 9 else 1] := by simp [rawZ, List.range_succ]
@[simp] theorem rawZ_length (xs : List Int) (k : Nat) : (rawZ xs k).length = k := by simp [rawZ]
theorem rawZ_at (xs : List Int) {k i : Nat} (h : i < k) : (rawZ xs k)[i]?.getD 0 = if i < xs.length then f1Z (xs[i]?.getD 0) 9 else 1 := by simp [rawZ, h]
theorem rawZ_bd (xs : List Int) {k i : Nat} (h : i < k) : 1 ≤ (rawZ xs k)[i]?.getD 0 ∧ (rawZ xs k)[i]?.getD 0 ≤ 9 := by
  rw [rawZ_at xs h]
  split
  · exact f1Z_bd _ 9 (by omega)
  · omega
theorem posAt_raw (xs : List Int) : ∀ (k j : Nat), k ≤ j → posAt (rawZ xs j) k = posAt (rawZ xs k) k
  | 0, _, _ => rfl
  | k + 1, j, h => by
    rw [posAt, posAt, posAt_raw xs k j (by omega), posAt_raw xs k (k + 1) (by omega), rawZ_at xs (by omega), rawZ_at xs (by omega)]

theorem posAt_set (zs : List Int) (i : Nat) (x D : Int) (hi : i < zs.length) (hD : D = if i % 2 = 0 then x - zs[i]?.getD 0 else -(x - zs[i]?.getD 0)) : ∀ k, posAt (zs.set i x) k = posAt zs k + if i < k then D else 0
  | 0 => by simp [posAt]
  | k + 1 => by
    rw [posAt, posAt, posAt_set zs i x D hi hD k]
    by_cases hk : k = i
    · subst hk
      have e : (zs.set k x)[k]?.getD 0 = x := by simp [hi]
      rw [e, if_neg (Nat.lt_irrefl k), if_pos (Nat.lt_succ_self k)]
      by_cases h : k % 2 = 0
      · rw [if_pos h] at hD ⊢; rw [if_pos h]; omega
      · rw [if_neg h] at hD ⊢; rw [if_neg h]; omega
    · have e : (zs.set i x)[k]?.getD 0 = zs[k]?.getD 0 := by rw [List.getElem?_set_ne (fun e => hk e.symm)]
      rw [e]
      clear hD
      by_cases hik : i < k
      · have c1 : i < k + 1 := by omega
        rw [if_pos hik, if_pos c1]
        by_cases h : k % 2 = 0
        · rw [if_pos h, if_pos h]; omega
        · rw [if_neg h, if_neg h]; omega
      · have c1 : ¬ i < k + 1 := by omega
        rw [if_neg hik, if_neg c1]
        by_cases h : k % 2 = 0
        · rw [if_pos h, if_pos h]; omega
        · rw [if_neg h, if_neg h]; omega

/-- The vertex that 'closed' makes. -/
def closeZ (xs : List Int) (m : Nat) : List Int :=
  if 0 < posAt (rawZ xs (2 * m)) (2 * m) then (rawZ xs (2 * m)).set (2 * m - 1) ((rawZ xs (2 * m))[2 * m - 1]?.getD 0 + posAt (rawZ xs (2 * m)) (2 * m))
  else (rawZ xs (2 * m)).set 0 ((rawZ xs (2 * m))[0]?.getD 0 - posAt (rawZ xs (2 * m)) (2 * m))
theorem closeZ_length (xs : List Int) (m : Nat) : (closeZ xs m).length = 2 * m := by
  unfold closeZ
  split <;> simp
theorem raw_pos_bd (xs : List Int) : ∀ k : Nat, -(9 * (k : Int)) ≤ posAt (rawZ xs k) k ∧ posAt (rawZ xs k) k ≤ 9 * k
  | 0 => by simp [posAt]
  | k + 1 => by
    have := raw_pos_bd xs k
    have b := rawZ_bd xs (k := k + 1) (i := k) (by omega)
    rw [posAt, posAt_raw xs k (k + 1) (by omega)]
    split <;> omega
theorem sizes_of {zs : List Int} (h : ∀ i, i < zs.length → 1 ≤ zs[i]?.getD 0 ∧ zs[i]?.getD 0 ≤ 1000) : sizesB zs = true := by
  rw [sizesB, List.all_eq_true]
  intro z hz
  obtain ⟨i, hi, rfl⟩ := List.getElem_of_mem hz
  have := h i hi
  rw [List.getElem?_eq_getElem hi, Option.getD_some] at this
  simp [sizeB, this]
theorem closeZ_bd (xs : List Int) (m : Nat) (h1 : 1 ≤ m) (h3 : m ≤ 3) : ∀ i, i < 2 * m → 1 ≤ (closeZ xs m)[i]?.getD 0 ∧ (closeZ xs m)[i]?.getD 0 ≤ 100 := by
  intro i hi
  have hp := raw_pos_bd xs (2 * m)
  have hb := rawZ_bd xs (k := 2 * m) (i := i) hi
  unfold closeZ
  split
  · rw [List.getElem?_set]
    by_cases e : 2 * m - 1 = i
    · subst e
      rw [if_pos rfl]
      simp only [rawZ_length, hi, if_true, Option.getD_some]
      omega
    · rw [if_neg e]; omega
  · rw [List.getElem?_set]
    by_cases e : 0 = i
    · subst e
      rw [if_pos rfl]
      simp only [rawZ_length, hi, if_true, Option.getD_some]
      omega
    · rw [if_neg e]; omega
theorem closeZ_pos (xs : List Int) (m : Nat) (h1 : 1 ≤ m) : posAt (closeZ xs m) (2 * m) = 0 := by
  unfold closeZ
  split
  · rw [posAt_set _ _ _ _ (by simp; omega) rfl, if_pos (by omega), if_neg (by omega)]; omega
  · rw [posAt_set _ _ _ _ (by simp; omega) rfl, if_pos (by omega), if_pos rfl]; omega
theorem closeZ_ok (xs : List Int) (m : Nat) (h1 : 1 ≤ m) (h3 : m ≤ 3) : vertexB (closeZ xs m) = true ∧ closesB (closeZ xs m) = true := by
  have hl := closeZ_length xs m
  refine ⟨?_, ?_⟩
  · rw [vertexB, hl, sizes_of (fun i hi => by have := closeZ_bd xs m h1 h3 i (by omega); omega)]
    simp; omega
  · rw [closesB, hl, closeZ_pos xs m h1]
    simp
/-- Spoilt. -/
def spoilZ (zs : List Int) : List Int := zs.set 0 (zs[0]?.getD 0 + 1)
theorem spoil_ok (xs : List Int) (m : Nat) (h1 : 1 ≤ m) (h3 : m ≤ 3) : vertexB (spoilZ (closeZ xs m)) = true ∧ closesB (spoilZ (closeZ xs m)) = false := by
  have hl := closeZ_length xs m
  refine ⟨?_, ?_⟩
  · rw [vertexB, spoilZ, List.length_set, hl, sizes_of (fun i hi => by
      rw [List.length_set] at hi
      have := closeZ_bd xs m h1 h3 i (by omega)
      rw [List.getElem?_set]
      by_cases e : 0 = i
      · subst e
        rw [if_pos rfl, if_pos (by omega), Option.getD_some]
        omega
      · rw [if_neg e]; omega)]
    simp; omega
  · rw [closesB, spoilZ, List.length_set, hl, posAt_set _ _ _ _ (by omega) rfl, closeZ_pos xs m h1, if_pos (by omega), if_pos rfl]
    simp; omega

theorem owns_set {w : World} {base g cap n : Nat} {zs : List Int} (h : w.ownsRow base 3 1 (.slice (some ⟨g, 0, none⟩) n cap) n (zs.map (Value.int .i64))) (i : Nat) (x : Int) : (w.setCell ⟨g, i, none⟩ (.int .i64 x)).ownsRow base 3 1 (.slice (some ⟨g, 0, none⟩) n cap) n ((zs.set i x).map (Value.int .i64)) ∧ w.frozen? ⟨g, i, none⟩ = false := by
  have hl : (zs.map (Value.int .i64)).length = n := by simpa using h.1
  rcases h.2 with ⟨e, _⟩ | ⟨g', cap', cur, e, hb, hg, h1, h2, h3, h4⟩
  · cases e
  · cases e
    refine ⟨⟨by simpa using h.1, .inr ⟨g, cap, _, rfl, hb, heap_setCell_self hg (i := i) (.int .i64 x), h1, h2, by simpa using h3, ?_⟩⟩, by simp [World.frozen?, hg]⟩
    rw [Array.toList_setIfInBounds, List.take_set, h4]
    simp [List.map_set]

set_option maxRecDepth 100000 in
set_option maxHeartbeats 4000000 in
theorem closed_any (a : Option Addr) (n cap m : Nat) (mo : Int) (xs : List Int) (w : World) (hn : xs.length = n) (hm : n ≤ 9223372036854775807) (hz : Ints w a xs) (hi : ∀ z ∈ xs, -9223372036854775808 ≤ z ∧ z ≤ 9223372036854775807)
    (h0 : 0 ≤ mo) (h255 : mo ≤ 255) (hmo : mo % 3 + 1 = (m : Int)) :
    Calls Try.prog 43 #[.slice a n cap, .int .u8 mo] w (Gives (fun v w' => IntsV w w' (closeZ xs m) v) w) := by
  have hm1 : 1 ≤ m := by omega
  have hm3 : m ≤ 3 := by omega
  have HX := Lib.hid hz.at
  have HN := Lib.hid hn
  have HF := Lib.hid (fun (z : Int) (hb : -9223372036854775808 ≤ z ∧ z ≤ 9223372036854775807) wx => fold1_any z 9 wx (by omega) (by omega) hb.1 hb.2)
  have HI := Lib.hid hi
  have HMo := Lib.hid hmo
  clear hz hn hi
  go_enter Try.func43, Try.ntmps43
  go_wp2
  clear hmo h0 h255
  go_loopw [6, 7, 8, 9] (fun v e o i wr => ∃ (k : Nat) (ev od : Int), k ≤ 2 * m ∧ i = .int .i64 k ∧ e = .int .i64 ev ∧ o = .int .i64 od ∧ 0 ≤ ev ∧ ev ≤ 9 * k ∧ 0 ≤ od ∧ od ≤ 9 * k ∧ Hid (ev - od = posAt (rawZ xs k) k) ∧ CollI w (rawZ xs k) k v wr) (fun _ _ _ i _ => 2 * m - (intOf i).toNat)
  case atStart => exact ⟨0, 0, 0, Nat.zero_le _, rfl, rfl, rfl, by omega, by omega, by omega, by omega, Lib.hid rfl, CollI.start w⟩
  case round =>
    obtain ⟨k, ev, od, hk, rfl, rfl, rfl, he0, he1, ho0, ho1, hP, hC⟩ := hrel
    by_cases hlt : k < 2 * m
    · have HD := Lib.hid (rawZ_succ xs k)
      have HP : Hid (posAt (rawZ xs (k + 1)) (k + 1) = if k % 2 = 0 then (ev - od) + (rawZ xs (k + 1))[k]?.getD 0 else (ev - od) - (rawZ xs (k + 1))[k]?.getD 0) := Lib.hid (by rw [posAt, posAt_raw xs k (k + 1) (by omega), hP.out])
      have hb := rawZ_bd xs (k := k + 1) (i := k) (by omega)
      have HV := Lib.hid (rawZ_at xs (k := k + 1) (i := k) (by omega))
      obtain ⟨x, hx⟩ : ∃ x, (rawZ xs (k + 1))[k]?.getD 0 = x := ⟨_, rfl⟩
      rw [hx] at HP hb HV
      clear hx
      have hsz := hC.1.size
      have HC := Lib.hid hC
      clear hC
      obtain ⟨_, _, g0, cp0, rfl, _⟩ := HC.out
      have hpar : ((k : Int) % 2 == 0) = true ∨ ((k : Int) % 2 == 0) = false := by cases ((k : Int) % 2 == 0) <;> simp
      by_cases hkn : k < n
      · rcases HX.out with h | ⟨b, off, rfl, hc⟩
        · have := HN.out; subst h; simp at this; omega
        have hj : k < xs.length := by rw [HN.out]; exact hkn
        have c0 := (HC.out.1.cell (p := ⟨b, off + k, none⟩) (World.block_lt_of_cell? w _ (hc k hj))).trans (hc k hj)
        have hzb := HI.out (xs[k]?.getD 0) (by simp [hj])
        have HVx : Hid (x = f1Z (xs[k]?.getD 0) 9) := Lib.hid (by rw [HV.out, if_pos hj])
        rw [if_pos hj] at HD
        generalize xs[k]?.getD 0 = z at *
        have hFz := Lib.hid (HF.out z hzb)
        clear hc HV
        rcases hpar with hp | hp
        all_goals
          go_wp2_with (first
            | (go_at_call 42; refine (hFz.out _).mono ?_; rw [← HVx.out]; rintro e w' ⟨rfl, rfl⟩)
            | (at_builtin; refine wpList_app_int rfl (.tmp 31) (.tmp 33) rfl w.heap.size _ _ _ rfl x _ rfl rfl HC.out.owns (by omega) hsz ?_; intro g cp w2 hr2 hg2 hat2 _; have H2 := Lib.hid (HC.out.next hr2 hg2); clear hr2 hg2 hat2))
          go_roundw
          case rel => exact ⟨k + 1, _, _, by omega, by go_num, rfl, rfl, by omega, by omega, by omega, by omega, Lib.hid (by rw [HP.out]; simp at hp; first | (rw [if_pos (by omega)]; omega) | (rw [if_neg (by omega)]; omega)), by rw [HD.out, ← HVx.out]; exact H2.out⟩
          case measure => simp [intOf]; omega
      · have hj : ¬ k < xs.length := by rw [HN.out]; exact hkn
        have HVx : Hid (x = 1) := Lib.hid (by rw [HV.out, if_neg hj])
        rw [if_neg hj] at HD
        have hx1 : x = 1 := HVx.out
        subst hx1
        clear HV
        rcases hpar with hp | hp
        all_goals
          go_wp2_with (at_builtin; refine wpList_app_int rfl (.tmp 31) (.tmp 33) rfl w.heap.size _ _ _ rfl 1 _ rfl rfl HC.out.owns (by omega) hsz ?_; intro g cp w2 hr2 hg2 hat2 _; have H2 := Lib.hid (HC.out.next hr2 hg2); clear hr2 hg2 hat2)
          go_roundw
          case rel => exact ⟨k + 1, _, _, by omega, by go_num, rfl, rfl, by omega, by omega, by omega, by omega, Lib.hid (by rw [HP.out]; simp at hp; first | (rw [if_pos (by omega)]; omega) | (rw [if_neg (by omega)]; omega)), by rw [HD.out]; exact H2.out⟩
          case measure => simp [intOf]; omega
    · obtain rfl : k = 2 * m := by omega
      have hbz := fun i hi => rawZ_bd xs (k := 2 * m) (i := i) hi
      have hb1 := hC.1
      obtain ⟨_, _, g0, cp0, rfl, hr⟩ := hC
      have hl0 : (rawZ xs (2 * m)).length = 2 * m := rawZ_length xs _
      by_cases hgt : od < ev
      · have hz := hbz (2 * m - 1) (by omega)
        obtain ⟨z, hzz⟩ : ∃ z, (rawZ xs (2 * m))[2 * m - 1]?.getD 0 = z := ⟨_, rfl⟩
        rw [hzz] at hz
        have HS := Lib.hid (owns_set hr (2 * m - 1) (z + (ev - od)))
        have cc := hr.cellAt (2 * m - 1) (by omega)
        have e : ((rawZ xs (2 * m)).map (Value.int .i64))[2 * m - 1]? = some (.int .i64 z) := by
          rw [List.getElem?_map, List.getElem?_eq_getElem (by omega)]
          rw [List.getElem?_eq_getElem (by omega), Option.getD_some] at hzz
          rw [← hzz]; rfl
        rw [e] at cc
        have cf := HS.out.2
        have HE : Hid (closeZ xs m = (rawZ xs (2 * m)).set (2 * m - 1) (z + (ev - od))) := Lib.hid (by
          unfold closeZ
          rw [← hP.out, if_pos (by omega), hzz])
        have HB := Lib.hid hb1
        have e3 : (2 * (m : Int) - 1) = ((2 * m - 1 : Nat) : Int) := by omega
        have HX3 := Lib.hid e3
        clear e hr hzz hbz hl0 hb1 e3 hP
        go_wp2
        go_ret
        have hlt := (HS.out.1.lt g0 rfl).1
        have e4 : (2 * (m : Int) - 1).toNat = 2 * m - 1 := by omega
        try simp only [e4]
        refine ⟨_, rfl, ?_, HB.out.setCell hlt _⟩
        rw [HE.out]
        refine ⟨g0, cp0, by simp, hlt, ?_⟩
        have := HS.out.1
        simpa using this
      · have hz := hbz 0 (by omega)
        obtain ⟨z, hzz⟩ : ∃ z, (rawZ xs (2 * m))[0]?.getD 0 = z := ⟨_, rfl⟩
        rw [hzz] at hz
        have HS := Lib.hid (owns_set hr 0 (z + (od - ev)))
        have cc := hr.cellAt 0 (by omega)
        have e : ((rawZ xs (2 * m)).map (Value.int .i64))[0]? = some (.int .i64 z) := by
          rw [List.getElem?_map, List.getElem?_eq_getElem (by omega)]
          rw [List.getElem?_eq_getElem (by omega), Option.getD_some] at hzz
          rw [← hzz]; rfl
        rw [e] at cc
        have cf := HS.out.2
        have HE : Hid (closeZ xs m = (rawZ xs (2 * m)).set 0 (z + (od - ev))) := Lib.hid (by
          unfold closeZ
          rw [← hP.out, if_neg (by omega), hzz]
          congr 1; omega)
        have HB := Lib.hid hb1
        clear e hr hzz hbz hl0 hb1 hP
        go_wp2
        go_ret
        refine ⟨_, rfl, ?_, HB.out.setCell (by have := (HS.out.1.lt g0 rfl).1; exact this) _⟩
        rw [HE.out]
        refine ⟨g0, cp0, by simp, (HS.out.1.lt g0 rfl).1, ?_⟩
        have := HS.out.1
        simpa using this

open Go.RowKit Go.Sort Go.Shelf

theorem pats_up (zs : List Int) : (patsOf zs).Pairwise (· < ·) := by
  have tr : ∀ a b c : List UInt8, leB a b = true → leB b c = true → leB a c = true := fun a b c h1 h2 => by simp only [leB, decide_eq_true_eq] at *; exact List.le_trans h1 h2
  have to : ∀ a b : List UInt8, (leB a b || leB b a) = true := fun a b => by simp only [leB, Bool.or_eq_true, decide_eq_true_eq]; exact List.le_total a b
  have h1 : (patsOf zs).Pairwise (fun a b => leB a b = true) := List.pairwise_mergeSort tr to _
  have h2 : (patsOf zs).Nodup := ((List.mergeSort_perm _ _).nodup_iff).2 (dd_nodup _)
  rw [List.nodup_iff_pairwise_ne] at h2
  refine (h1.and h2).imp fun {a b} ⟨x, y⟩ => ?_
  simp only [leB, decide_eq_true_eq] at x
  exact Decidable.byContradiction fun hc => y (List.le_antisymm x (List.not_lt.1 hc))

/-- What holds of the k-th pattern. -/
theorem pat_facts {zs : List Int} (hg : vertexB zs = true) (hc : closesB zs = true) (hn : zs.length = 2 ∨ zs.length = 4 ∨ zs.length = 6) {k : Nat} (hk : k < (patsOf zs).length) :
    (patsOf zs)[k].length = zs.length ∧ (2 * vees (patsOf zs)[k] = zs.length + 2 ∨ 2 * vees (patsOf zs)[k] + 2 = zs.length) ∧ (∀ c ∈ (patsOf zs)[k], c = 77 ∨ c = 86) ∧
    (∀ b : ByteArray, b.data.toList = swapB (patsOf zs)[k] → patB b zs.length = true ∧ flatV zs b = true) := by
  obtain ⟨p1, p9, ps⟩ := vertex_parts hg
  obtain ⟨O, hO, e⟩ := List.mem_map.1 ((mem_patsOf zs _).1 (List.getElem_mem hk))
  rw [← e]
  refine ⟨by rw [patB_length]; omega, kaw_all hg hc hn hO, patB_letter zs O, fun b hb => ?_⟩
  obtain ⟨r1, r2⟩ := kaw_swap hg hc hO
  rw [r2] at hb
  refine ⟨?_, ?_⟩
  · rw [patB, Bool.and_eq_true, beq_iff_eq, List.all_eq_true]
    refine ⟨?_, fun c hcc => ?_⟩
    · have : b.size = b.data.toList.length := by rw [Array.length_toList]; rfl
      rw [this, hb, patB_length]; omega
    · rw [hb] at hcc
      rcases patB_letter zs _ c hcc with rfl | rfl <;> rfl
  · rw [flatV, hc, Bool.true_and, flatB, List.any_eq_true]
    refine ⟨O.reverse, r1, ?_⟩
    rw [same_bytes, hb, patB']

theorem vees_succ (l : List UInt8) (q : Nat) (h : q < l.length) : vees (l.take (q + 1)) = vees (l.take q) + if l[q] = 86 then 1 else 0 := by
  rw [vees, vees, List.take_succ_eq_append_getElem h, List.countP_append, List.countP_singleton]
  by_cases e : l[q] = 86
  · rw [if_pos e, if_pos (by rw [e]; rfl)]
  · rw [if_neg e, if_neg (by rw [beq_iff_eq]; exact e)]
theorem vees_le (l : List UInt8) : vees l ≤ l.length := List.countP_le_length
theorem swap_succ (l : List UInt8) (q : Nat) (h : q < l.length) : swapB (l.take (q + 1)) = swapB (l.take q) ++ [swap1 l[q]] := by
  rw [swapB, swapB, List.take_succ_eq_append_getElem h, List.map_append]; rfl

set_option maxRecDepth 200000 in
set_option maxHeartbeats 8000000 in
theorem FoldKawasaki_spoil (n1 cap1 m : Nat) (mo : Int) (a1 : Option Addr) (xs : List Int) (w : World) (hn1 : xs.length = n1) (hm1 : n1 ≤ 9223372036854775807) (hx : Ints w a1 xs) (hi : ∀ z ∈ xs, -9223372036854775808 ≤ z ∧ z ≤ 9223372036854775807)
    (h0 : 0 ≤ mo) (h255 : mo ≤ 255) (hmo : mo % 3 + 1 = (m : Int)) :
    Calls Try.prog 11 #[.slice a1 n1 cap1, .int .u8 mo, .bool true] w fun e w' => e = .returned (.bool true) ∧ Below w.heap.size w w' := by
  have hm1' : 1 ≤ m := by omega
  have hm3 : m ≤ 3 := by omega
  have HC := Lib.hid (closed_any a1 n1 cap1 m mo xs w hn1 hm1 hx hi h0 h255 hmo)
  obtain ⟨ok1, ok2⟩ := spoil_ok xs m hm1' hm3
  have hbd := closeZ_bd xs m hm1' hm3 0 (by omega)
  obtain ⟨zs, hzs⟩ : ∃ zs, closeZ xs m = zs := ⟨_, rfl⟩
  have hzl : zs.length = 2 * m := by rw [← hzs]; exact closeZ_length xs m
  rw [hzs] at ok1 ok2 HC hbd
  obtain ⟨z, hz⟩ : ∃ z, zs[0]?.getD 0 = z := ⟨_, rfl⟩
  rw [hz] at hbd
  have HOK := Lib.hid (And.intro ok1 (And.intro ok2 hz))
  have HV := Lib.hid lives_any
  have hzl1 : 1 ≤ zs.length := by omega
  have hzl9 : zs.length ≤ 6 := by omega
  clear hzs hzl ok1 ok2 hx hi hn1 hmo h0 h255
  go_enter Try.func11, Try.ntmps11
  go_wp2_with fail
  refine HC.out.mono ?_
  rintro e w1 ⟨v, rfl, ⟨g, cap, rfl, hg, hr⟩, hb1⟩
  have HS := Lib.hid (owns_set hr 0 (z + 1))
  have cc := hr.cellAt 0 (by omega)
  have e : (zs.map (Value.int .i64))[0]? = some (.int .i64 z) := by
    rw [List.getElem?_map, List.getElem?_eq_getElem (by omega)]
    have := HOK.out.2.2
    rw [List.getElem?_eq_getElem (by omega), Option.getD_some] at this
    rw [← this]; rfl
  rw [e] at cc
  have cf := HS.out.2
  have HB := Lib.hid (And.intro hb1 hg)
  clear e hr hb1 hg hz
  go_wp2_with fail
  have hrow := HS.out.1
  have hsp : zs.set 0 (z + 1) = spoilZ zs := by rw [spoilZ, HOK.out.2.2]
  rw [hsp] at hrow
  refine (Patterns_vertex _ zs.length cap (spoilZ zs) _ (by simp [spoilZ]) (Ints.of_owns hrow) HOK.out.1).mono ?_
  have hnil : patsV (spoilZ zs) = [] := by rw [patsV, if_neg (by rw [HOK.out.2.1]; exact Bool.false_ne_true)]
  rw [hnil]
  rintro e w2 ⟨v2, rfl, hr2, hb2⟩
  obtain ⟨a2, c2, rfl⟩ := ownsRow_slice hr2
  have H2 := Lib.hid ((HB.out.1.setCell (p := ⟨g, 0, none⟩) HB.out.2 (.int .i64 (z + 1))).trans (hb2.mono (by have := HB.out.1.size; simp; exact this)))
  clear hb2 hr2 hrow hsp hnil cc cf
  simp only [List.length_nil]
  go_wp2_with fail
  refine ((callsIn_wide (n := 0)).1 (HV.out _ _)).mono ?_
  rintro e w3 ⟨rfl, hb3⟩
  have H3 := Lib.hid (H2.out.trans (hb3.mono H2.out.size))
  clear hb3
  go_wp2
  go_loop [10] (fun i => i = .int .i64 0) (fun _ => 0)
  case atStart => rfl
  case round =>
    obtain rfl := hrel
    go_wp2
    go_ret
    exact ⟨rfl, H3.out⟩

theorem str_size (s : ByteArray) : s.size = s.data.toList.length := by rw [Array.length_toList]; rfl
theorem str_get (s : ByteArray) (q : Nat) (h : q < s.size) : s[q] = s.data.toList[q]'(by rw [← str_size]; exact h) := rfl

/-- What is known of the k-th pattern, as the walk wants it. -/
structure PatK (zs : List Int) (s : ByteArray) : Prop where
  size : s.size = zs.length
  vee : 2 * vees s.data.toList = zs.length + 2 ∨ 2 * vees s.data.toList + 2 = zs.length
  flat : ∀ b : ByteArray, b.data.toList = swapB s.data.toList → patB b zs.length = true ∧ flatV zs b = true


set_option maxRecDepth 200000 in
set_option maxHeartbeats 8000000 in
theorem FoldKawasaki_plain (n1 cap1 m : Nat) (mo : Int) (a1 : Option Addr) (xs : List Int) (w : World) (hn1 : xs.length = n1) (hm1 : n1 ≤ 9223372036854775807) (hx : Ints w a1 xs) (hi : ∀ z ∈ xs, -9223372036854775808 ≤ z ∧ z ≤ 9223372036854775807)
    (h0 : 0 ≤ mo) (h255 : mo ≤ 255) (hmo : mo % 3 + 1 = (m : Int)) :
    Calls Try.prog 11 #[.slice a1 n1 cap1, .int .u8 mo, .bool false] w fun e w' => e = .returned (.bool true) ∧ Below w.heap.size w w' := by
  have hm1' : 1 ≤ m := by omega
  have hm3 : m ≤ 3 := by omega
  have HC := Lib.hid (closed_any a1 n1 cap1 m mo xs w hn1 hm1 hx hi h0 h255 hmo)
  obtain ⟨ok1, ok2⟩ := closeZ_ok xs m hm1' hm3
  obtain ⟨zs, hzs⟩ : ∃ zs, closeZ xs m = zs := ⟨_, rfl⟩
  have hzl : zs.length = 2 * m := by rw [← hzs]; exact closeZ_length xs m
  rw [hzs] at ok1 ok2 HC
  have h246 : zs.length = 2 ∨ zs.length = 4 ∨ zs.length = 6 := by omega
  have hpv : patsV zs = patsOf zs := by rw [patsV, if_pos ok2]
  have hpos : 0 < (patsOf zs).length := by
    obtain ⟨O, hO⟩ := kaw_some ok1 ok2 h246
    exact List.length_pos_of_mem ((mem_patsOf zs _).2 (List.mem_map_of_mem (f := patB' zs) hO))
  have hple := patsV_le zs ok1
  rw [hpv] at hple
  have HK := Lib.hid (fun k (hk : k < (patsOf zs).length) => pat_facts ok1 ok2 h246 hk)
  have HU := Lib.hid (pats_up zs)
  have HOK := Lib.hid (And.intro ok1 (And.intro hpv h246))
  have HV := Lib.hid lives_any
  have hzl1 : 1 ≤ zs.length := by omega
  have hzl9 : zs.length ≤ 6 := by omega
  clear hzs hzl ok1 ok2 hx hi hn1 hmo h0 h255 hpv h246
  go_enter Try.func11, Try.ntmps11
  go_wp2_with fail
  refine HC.out.mono ?_
  rintro e w1 ⟨v, rfl, ⟨g, cap, rfl, hg, hr⟩, hb1⟩
  have H1 := Lib.hid (And.intro (Ints.of_owns hr) hb1)
  clear hr hb1 hg
  go_wp2_with fail
  refine (Patterns_vertex _ zs.length cap zs _ rfl H1.out.1 HOK.out.1).mono ?_
  rw [HOK.out.2.1]
  rintro e w2 ⟨v2, rfl, hr2, hb2⟩
  obtain ⟨a2, c2, rfl⟩ := ownsRow_slice hr2
  have H2 := Lib.hid (And.intro (H1.out.1.below hb2) (And.intro hr2 (H1.out.2.trans (hb2.mono H1.out.2.size))))
  clear hb2 hr2
  obtain ⟨N, hN⟩ : ∃ N, (patsOf zs).length = N := ⟨_, rfl⟩
  have HN := Lib.hid hN
  rw [hN] at hpos hple ⊢
  clear hN
  go_wp2_with fail
  refine ((callsIn_wide (n := 0)).1 (HV.out _ _)).mono ?_
  rintro e w3 ⟨rfl, hb3⟩
  have H3 := Lib.hid (And.intro (H2.out.1.below hb3) (And.intro (row_str (by have := ownsRow_kept H2.out.2.1 hb3; rw [HN.out] at this; exact this)) (H2.out.2.2.trans (hb3.mono H2.out.2.2.size))))
  clear hb3
  rcases H3.out.2.1 with h | ⟨g2, rfl, hg2, hcs⟩
  · have := HN.out; rw [h] at this; simp at this; omega
  have HCS := Lib.hid hcs
  clear hcs
  go_wp2
  go_loopw [10] (fun i wr => ∃ k : Nat, k ≤ N ∧ i = .int .i64 k ∧ Below w3.heap.size w3 wr) (fun i _ => N - (intOf i).toNat)
  case atStart => exact ⟨0, Nat.zero_le _, rfl, Below.refl _ _⟩
  case round =>
    obtain ⟨k, hk, rfl, hb⟩ := hrel
    have HB := Lib.hid hb
    clear hb
    by_cases hlt : k < N
    · have hkL : k < (patsOf zs).length := by rw [HN.out]; exact hlt
      have ck := (HB.out.cell (p := ⟨g2, k, none⟩) hg2).trans (HCS.out k hkL)
      have hf := HK.out k hkL
      have hprev : Hid (0 < k → ∃ t : ByteArray, wr.cell? ⟨g2, k - 1, none⟩ = some (.string t) ∧ Op.bytesLess t.toList (⟨(patsOf zs)[k].toArray⟩ : ByteArray).toList = true) := Lib.hid fun h0 => by
        have hk1 : k - 1 < (patsOf zs).length := by omega
        refine ⟨_, (HB.out.cell (p := ⟨g2, k - 1, none⟩) hg2).trans (HCS.out (k - 1) hk1), ?_⟩
        rw [less_bytes, decide_eq_true_eq]
        exact List.pairwise_iff_getElem.1 HU.out (k - 1) k hk1 hkL (by omega)
      obtain ⟨s, hs⟩ : ∃ s : ByteArray, (⟨(patsOf zs)[k].toArray⟩ : ByteArray) = s := ⟨_, rfl⟩
      have hsd : s.data.toList = (patsOf zs)[k] := by rw [← hs]
      have HP : Hid (PatK zs s) := Lib.hid ⟨by rw [str_size, hsd]; exact hf.1, by rw [hsd]; exact hf.2.1, by rw [hsd]; exact hf.2.2.2⟩
      rw [hs] at ck hprev
      have hss : s.size ≤ 6 := by rw [HP.out.size]; exact hzl9
      clear hf hs hsd hkL
      go_wp2
      go_loop [11, 12, 13] (fun v o i => ∃ (q u : Nat) (b : ByteArray), q ≤ s.size ∧ i = .int .i64 q ∧ v = .int .i64 u ∧ u ≤ q ∧ o = .string b ∧ Hid (u = vees (s.data.toList.take q)) ∧ Hid (b.size = q) ∧ Hid (b.data.toList = swapB (s.data.toList.take q))) (fun _ _ i => s.size - (intOf i).toNat)
      case atStart => exact ⟨0, 0, ⟨#[]⟩, Nat.zero_le _, rfl, rfl, Nat.le_refl _, rfl, Lib.hid rfl, Lib.hid rfl, Lib.hid rfl⟩
      case round =>
        obtain ⟨q, u, b, hq, rfl, rfl, hu, rfl, hU, hb1, hb2⟩ := hrel
        have hb3 : b.size ≤ 1000 := by rw [hb1.out]; omega
        by_cases hql : q < s.size
        · have hqd : q < s.data.toList.length := by rw [← str_size]; exact hql
          have HVs := Lib.hid (vees_succ _ q hqd)
          have HSw := Lib.hid (swap_succ _ q hqd)
          have HG := Lib.hid (str_get s q hql)
          go_wp2
          all_goals go_round
          case rel =>
            obtain ⟨x1, x2⟩ := bytes_push b 77 _ _ hb1.out hb2.out
            have h86 : s.data.toList[q] = 86 := by
              rw [← HG.out]
              refine UInt8.toNat_inj.1 ?_
              have : (s[q].toNat : Int) = 86 := by first | assumption | (apply eq_of_beq; assumption)
              show s[q].toNat = 86
              omega
            exact ⟨q + 1, u + 1, _, by omega, by go_num, by go_num, by omega, rfl, Lib.hid (by rw [HVs.out, if_pos h86, hU.out]), Lib.hid x1, Lib.hid (by rw [x2, HSw.out, swap1, if_pos h86])⟩
          case measure => simp [intOf]; omega
          case rel =>
            obtain ⟨x1, x2⟩ := bytes_push b 86 _ _ hb1.out hb2.out
            have h86 : ¬ s.data.toList[q] = 86 := by
              rw [← HG.out]
              intro e
              have : ¬ (s[q].toNat : Int) = 86 := by first | assumption | (apply ne_of_beq_false; assumption)
              rw [e] at this
              exact this rfl
            exact ⟨q + 1, u, _, by omega, by go_num, rfl, by omega, rfl, Lib.hid (by rw [HVs.out, if_neg h86, hU.out]; rfl), Lib.hid x1, Lib.hid (by rw [x2, HSw.out, swap1, if_neg h86])⟩
          case measure => simp [intOf]; omega
        · have hqe : q = s.size := by omega
          have HT : Hid (s.data.toList.take q = s.data.toList) := Lib.hid (List.take_of_length_le (by rw [← str_size]; omega))
          have HFl := Lib.hid (HP.out.flat b (by rw [hb2.out, HT.out]))
          have hvv : 2 * u = zs.length + 2 ∨ 2 * u + 2 = zs.length := by rw [hU.out, HT.out]; exact HP.out.vee
          have g1 : ((s.size : Int) != (zs.length : Int)) = false := by rw [HP.out.size]; simp
          have i1 : IntKind.i64.wrap (2 * (u : Int)) = 2 * (u : Int) := IntWalk.i64_in _ (by omega)
          have i2 : IntKind.i64.wrap (2 * (u : Int) - (zs.length : Int)) = 2 * (u : Int) - (zs.length : Int) := IntWalk.i64_in _ (by omega)
          clear hqe HT
          have hsplit : ((2 * (u : Int) - (zs.length : Int) != 2) = false ∧ k = 0) ∨ ((2 * (u : Int) - (zs.length : Int) != 2) = false ∧ 0 < k) ∨ ((2 * (u : Int) - (zs.length : Int) != 2) = true ∧ (2 * (u : Int) - (zs.length : Int) != -2) = false ∧ k = 0) ∨ ((2 * (u : Int) - (zs.length : Int) != 2) = true ∧ (2 * (u : Int) - (zs.length : Int) != -2) = false ∧ 0 < k) := by
            rcases hvv with h | h
            · have e : (2 * (u : Int) - (zs.length : Int) != 2) = false := by rw [bne_eq_false_iff_eq]; omega
              by_cases h0 : k = 0
              · exact .inl ⟨e, h0⟩
              · exact .inr (.inl ⟨e, by omega⟩)
            · have e : (2 * (u : Int) - (zs.length : Int) != 2) = true := by rw [bne_iff_ne]; omega
              have e2 : (2 * (u : Int) - (zs.length : Int) != -2) = false := by rw [bne_eq_false_iff_eq]; omega
              by_cases h0 : k = 0
              · exact .inr (.inr (.inl ⟨e, e2, h0⟩))
              · exact .inr (.inr (.inr ⟨e, e2, by omega⟩))
          clear hvv
          rcases hsplit with ⟨g2', hk0⟩ | ⟨g2', hk0⟩ | ⟨g2', g3', hk0⟩ | ⟨g2', g3', hk0⟩
          · have g4 : decide ((0 : Int) < (k : Int)) = false := by rw [decide_eq_false_iff_not]; omega
            have g5 : decide (0 < k) = false := by rw [decide_eq_false_iff_not]; omega
            clear hk0
            go_wp2
            refine wp_region_quiet_lit (by kernel_rfl) (by kernel_rfl) ?_
            repeat (any_goals (first | go_big_quiet_step (fail) | quiet_step (fail)))
            all_goals (refine wpQuiet_nil ?_; intro _ hw'; obtain ⟨nq, hw''⟩ := hw'; subst hw'')
            clear g1 i1 i2 g2' g4 g5
            have hB5 := below_drewN HB.out nq
            obtain ⟨w5, hw5⟩ : ∃ w5, wr.drewN nq = w5 := ⟨_, rfl⟩
            rw [hw5] at hB5 ⊢
            have H5 := Lib.hid (And.intro (H3.out.1.below hB5) hB5)
            clear hB5 hw5
            go_wp2_with fail
            refine (Flat_vertex _ zs.length cap zs b w5 rfl H5.out.1 HOK.out.1 HFl.out.1).mono ?_
            rw [HFl.out.2]
            rintro e w6 ⟨rfl, hb6⟩
            have H6 := Lib.hid (H5.out.2.trans (hb6.mono H5.out.2.size))
            clear hb6
            go_wp2
            go_roundw
            case rel => exact ⟨k + 1, by omega, by go_num, H6.out⟩
            case measure => simp [intOf]; omega
          · have g4 : decide ((0 : Int) < (k : Int)) = true := by rw [decide_eq_true_eq]; omega
            have g5 : decide (0 < k) = true := by rw [decide_eq_true_eq]; omega
            obtain ⟨t, ct, ht⟩ := hprev.out hk0
            have i3 : IntKind.i64.wrap ((k : Int) - 1) = (k : Int) - 1 := IntWalk.i64_in _ (by omega)
            have i4 : ((k : Int) - 1).toNat = k - 1 := by omega
            have i5 : (0 : Int) ≤ (k : Int) - 1 := by omega
            have i6 : (k : Int) - 1 < (N : Int) := by omega
            clear hk0
            go_wp2
            refine wp_region_quiet_lit (by kernel_rfl) (by kernel_rfl) ?_
            repeat (any_goals (first | go_big_quiet_step (fail) | quiet_step (fail)))
            all_goals (refine wpQuiet_nil ?_; intro _ hw'; obtain ⟨nq, hw''⟩ := hw'; subst hw'')
            clear g1 i1 i2 g2' g4 g5 i3 i4 i5 i6 ct ht
            have hB5 := below_drewN HB.out nq
            obtain ⟨w5, hw5⟩ : ∃ w5, wr.drewN nq = w5 := ⟨_, rfl⟩
            rw [hw5] at hB5 ⊢
            have H5 := Lib.hid (And.intro (H3.out.1.below hB5) hB5)
            clear hB5 hw5
            go_wp2_with fail
            refine (Flat_vertex _ zs.length cap zs b w5 rfl H5.out.1 HOK.out.1 HFl.out.1).mono ?_
            rw [HFl.out.2]
            rintro e w6 ⟨rfl, hb6⟩
            have H6 := Lib.hid (H5.out.2.trans (hb6.mono H5.out.2.size))
            clear hb6
            go_wp2
            go_roundw
            case rel => exact ⟨k + 1, by omega, by go_num, H6.out⟩
            case measure => simp [intOf]; omega
          · have g4 : decide ((0 : Int) < (k : Int)) = false := by rw [decide_eq_false_iff_not]; omega
            have g5 : decide (0 < k) = false := by rw [decide_eq_false_iff_not]; omega
            clear hk0
            go_wp2
            refine wp_region_quiet_lit (by kernel_rfl) (by kernel_rfl) ?_
            repeat (any_goals (first | go_big_quiet_step (fail) | quiet_step (fail)))
            all_goals (refine wpQuiet_nil ?_; intro _ hw'; obtain ⟨nq, hw''⟩ := hw'; subst hw'')
            clear g1 i1 i2 g2' g3' g4 g5
            have hB5 := below_drewN HB.out nq
            obtain ⟨w5, hw5⟩ : ∃ w5, wr.drewN nq = w5 := ⟨_, rfl⟩
            rw [hw5] at hB5 ⊢
            have H5 := Lib.hid (And.intro (H3.out.1.below hB5) hB5)
            clear hB5 hw5
            go_wp2_with fail
            refine (Flat_vertex _ zs.length cap zs b w5 rfl H5.out.1 HOK.out.1 HFl.out.1).mono ?_
            rw [HFl.out.2]
            rintro e w6 ⟨rfl, hb6⟩
            have H6 := Lib.hid (H5.out.2.trans (hb6.mono H5.out.2.size))
            clear hb6
            go_wp2
            go_roundw
            case rel => exact ⟨k + 1, by omega, by go_num, H6.out⟩
            case measure => simp [intOf]; omega
          · have g4 : decide ((0 : Int) < (k : Int)) = true := by rw [decide_eq_true_eq]; omega
            have g5 : decide (0 < k) = true := by rw [decide_eq_true_eq]; omega
            obtain ⟨t, ct, ht⟩ := hprev.out hk0
            have i3 : IntKind.i64.wrap ((k : Int) - 1) = (k : Int) - 1 := IntWalk.i64_in _ (by omega)
            have i4 : ((k : Int) - 1).toNat = k - 1 := by omega
            have i5 : (0 : Int) ≤ (k : Int) - 1 := by omega
            have i6 : (k : Int) - 1 < (N : Int) := by omega
            clear hk0
            go_wp2
            refine wp_region_quiet_lit (by kernel_rfl) (by kernel_rfl) ?_
            repeat (any_goals (first | go_big_quiet_step (fail) | quiet_step (fail)))
            all_goals (refine wpQuiet_nil ?_; intro _ hw'; obtain ⟨nq, hw''⟩ := hw'; subst hw'')
            clear g1 i1 i2 g2' g3' g4 g5 i3 i4 i5 i6 ct ht
            have hB5 := below_drewN HB.out nq
            obtain ⟨w5, hw5⟩ : ∃ w5, wr.drewN nq = w5 := ⟨_, rfl⟩
            rw [hw5] at hB5 ⊢
            have H5 := Lib.hid (And.intro (H3.out.1.below hB5) hB5)
            clear hB5 hw5
            go_wp2_with fail
            refine (Flat_vertex _ zs.length cap zs b w5 rfl H5.out.1 HOK.out.1 HFl.out.1).mono ?_
            rw [HFl.out.2]
            rintro e w6 ⟨rfl, hb6⟩
            have H6 := Lib.hid (H5.out.2.trans (hb6.mono H5.out.2.size))
            clear hb6
            go_wp2
            go_roundw
            case rel => exact ⟨k + 1, by omega, by go_num, H6.out⟩
            case measure => simp [intOf]; omega
    · go_wp2
      go_ret
      exact ⟨rfl, H3.out.2.2.trans (HB.out.mono H3.out.2.2.size)⟩

open Go.ChangeShapes Go.WideShapes Go.ChangeAt Go.RowKit Go.ChangeMaps

theorem FoldKawasaki_any (n1 cap1 : Nat) (mo : Int) (sp : Bool) (a1 : Option Addr) (xs : List Int) (w : World) (hn1 : xs.length = n1) (hm1 : n1 ≤ 9223372036854775807) (hx : Ints w a1 xs) (hi : ∀ z ∈ xs, -9223372036854775808 ≤ z ∧ z ≤ 9223372036854775807)
    (h0 : 0 ≤ mo) (h255 : mo ≤ 255) :
    Calls Try.prog 11 #[.slice a1 n1 cap1, .int .u8 mo, .bool sp] w fun e w' => e = .returned (.bool true) ∧ Below w.heap.size w w' := by
  obtain ⟨m, hm⟩ : ∃ m : Nat, mo % 3 + 1 = (m : Int) := ⟨(mo % 3 + 1).toNat, by omega⟩
  cases sp
  · exact FoldKawasaki_plain n1 cap1 m mo a1 xs w hn1 hm1 hx hi h0 h255 hm
  · exact FoldKawasaki_spoil n1 cap1 m mo a1 xs w hn1 hm1 hx hi h0 h255 hm

namespace foldKawasaki
set_option maxRecDepth 100000 in
theorem lifted (os : Os) (started : os.Started) (H : Type) (enc : TypeId × Value → H) :
    ReturnsInHanded {} Try.checked os 11 .any (Rows.foldKawasakiSpec.pre6 enc Try.prog Try.f11 Rows.foldKawasakiRow.domain false) (Rows.foldKawasakiSpec.post enc Try.prog Try.f11 false true false false) := by
  refine returnsInHanded_of_change (C := Try.checked) own_knob started (by kernel_rfl) Try.func11
    (ChangeSpec.witness6 (enc := enc) (C := Try.checked) false ⟨#[], #[.slice none 0 0, .int .u8 0, .bool false], []⟩ 8 (by kernel_rfl) (by kernel_rfl) (by kernel_rfl) (by kernel_rfl)) ?_
  intro W base args ds gs before hval0 hW hcnd _
  have hval : ∀ (j : Nat) t v, Try.f11.params[j]? = some t → args[j]? = some v → Value.okWide Try.prog W .any base t v := hval0
  have hW' := hW
  obtain ⟨p, q, hA0, hV, rfl, hfz, hnd⟩ := hW
  have hA : DataW.TrodAll enc Try.prog W 0 (fun _ => true) true Try.f11.params.toList args.toList ds p := hA0
  rw [Try.params11] at hA hval
  obtain ⟨v0, vs0, d0, ds0, p0, q0, hargs, rfl, rfl, h0, r0⟩ := trodAll_cons hA
  obtain ⟨v1, vs1, d1, ds1, p1, q1, rfl, rfl, rfl, h1, r1⟩ := trodAll_cons r0
  obtain ⟨v2, vs2, d2, ds2, p2, q2, rfl, rfl, rfl, h2, r2⟩ := trodAll_cons r1
  obtain ⟨rfl, rfl, rfl⟩ := trodAll_nil r2
  obtain rfl : args = #[v0, v1, v2] := by cases args; simp_all
  obtain ⟨rfl, rfl⟩ := trodVars_none hV
  obtain ⟨a, n, cap, zs, rfl, hn, hm, hz, hi, hkeep⟩ := arg_ints (hval 0 22 v0 rfl rfl) h0
  obtain ⟨a1, rfl, rfl, rfl, w1⟩ := open_int Try.underlying5 (hval 1 5 v1 rfl rfl) h1
  obtain ⟨b2, rfl, rfl, rfl⟩ := open_bool Try.underlying4 (hval 2 4 v2 rfl rfl) h2
  clear hA0 hval0
  obtain ⟨c0, c1⟩ := u8_bd w1
  refine (FoldKawasaki_any n cap a1 b2 a zs W hn hm hz hi c0 c1).mono fun e W' ⟨he, hg⟩ => ?_
  subst he
  exact ⟨_, rfl, law_post (pv := []) hW' (fun _ _ _ => trodAll_cons_mk (shut_bool Try.underlying4 _) trodAll_mk0) (trodAll_cons_mk (hkeep W' hg) (trodAll_cons_mk (shut_int Try.underlying5 w1) (trodAll_cons_mk (shut_bool Try.underlying4 _) trodAll_mk0))) rfl rfl hg⟩

theorem proved : Rows.FoldKawasakiSaid :=
  OpenClaim.holds_of_wide 11 Try.f11 rfl rfl rfl rfl rfl rfl rfl ⟨rfl, rfl, rfl, rfl, rfl⟩ rfl rfl rfl rfl rfl (by kernel_rfl) Try.func11 (by kernel_rfl)
    (of_decide_eq_true (by kernel_rfl)) (by unfold Func.isWrapper; first | (rw [if_pos (by decide +kernel)]; kernel_rfl) | (rw [if_neg (by decide +kernel)]; exact ⟨rfl, rfl⟩))
    (fun os started H enc _ => lifted os started H enc)
#print axioms proved
end foldKawasaki
end Go.Proofs.Yteankhgikpejhaa
