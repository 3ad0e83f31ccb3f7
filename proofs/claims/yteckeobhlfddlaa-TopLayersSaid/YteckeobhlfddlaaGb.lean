/-
  Orders, Folds and Creases, strips backwards.
-/
import Derived.Test.YteckeobhlfddlaaFm
import Derived.Test.YteckeobhlfddlaaGa
namespace Go.Proofs.Yteckeobhlfddlaa

section
open Go.RowKit Go.Sort

/-- Which numbers were met among the first k. -/
def seenTo (zs : List Int) (n : Nat) : Nat → List Bool
  | 0 => List.replicate n false
  | k + 1 => (seenTo zs n k).set (zs[k]?.getD 0).toNat true
@[simp] theorem seenTo_length (zs : List Int) (n : Nat) : ∀ k, (seenTo zs n k).length = n
  | 0 => by simp [seenTo]
  | k + 1 => by simp [seenTo, seenTo_length zs n k]
/-- Whether the number at k is one of n, and new. -/
def newAt (zs : List Int) (n k : Nat) : Bool := decide (0 ≤ zs[k]?.getD 0) && decide (zs[k]?.getD 0 < n) && !((seenTo zs n k)[(zs[k]?.getD 0).toNat]?.getD false)
def orderB (zs : List Int) (n : Nat) : Bool := decide (zs.length = n) && (List.range n).all (newAt zs n)

theorem range_all_false (p : Nat → Bool) (n k : Nat) (h : k < n) (hp : p k = false) : (List.range n).all p = false := by
  rw [Bool.eq_false_iff]; intro hc
  rw [List.all_eq_true] at hc
  have := hc k (List.mem_range.2 h)
  rw [hp] at this; cases this
theorem range_all_next (p : Nat → Bool) (k : Nat) (h : (List.range k).all p = true) (hp : p k = true) : (List.range (k + 1)).all p = true := by
  rw [List.range_succ, List.all_append, h]; simp [hp]

theorem boolInfo : (Try.prog.info? 4).map (fun i => (i.zero, i.size, i.bytes)) = some (some (.bool false), 1, 1) := by kernel_rfl

theorem made_bools (n : Nat) : madeCells #[Value.bool false] n = ((List.replicate n false).map Value.bool).toArray := by
  rw [← Array.toList_inj, toList_madeCells_one]
  simp
theorem bool_at {w : World} {g j : Nat} {L : List Bool} {t : TypeId} (h : w.heap[g]? = some (.cells (L.map Value.bool).toArray t (0, 0))) (hj : j < L.length) : w.cell? ⟨g, j, none⟩ = some (.bool (L[j]?.getD false)) := by
  simp [World.cell?, h, hj]

set_option maxRecDepth 100000 in
set_option maxHeartbeats 2000000 in
theorem isOrder_any (a : Option Addr) (m cap n : Nat) (zs : List Int) (w : World) (hm : zs.length = m) (hm2 : m ≤ 9223372036854775807) (hn1 : 1 ≤ n) (hn : n ≤ 1000) (hz : Ints w a zs) :
    Calls Try.prog 25 #[.slice a m cap, .int .i64 n] w fun e w' => e = .returned (.bool (orderB zs n)) ∧ Below w.heap.size w w' := by
  by_cases hnm : m = n
  · subst hnm
    have HX := Lib.hid hz.at
    have HM := Lib.hid hm
    obtain ⟨i0, hi, hz0, hz1, hz2⟩ := info_parts boolInfo
    have hmk : ∀ u : World, (Instr.makeSlice 88 (.int .i64 (m : Int)) (.int .i64 (m : Int))).run Try.prog u = .ok (.slice (some ⟨u.heap.size, 0, none⟩) m m) (u.alloc (.cells ((List.replicate m false).map Value.bool).toArray 4)) := fun u => by
      have h := run_make (P := Try.prog) u 88 4 i0 (.bool false) Try.underlying88 hi hz0 .i64 .i64 m m (by omega) (Int.le_refl _) (by rw [hz2]; omega) (by omega)
      rw [← made_bools]
      simpa [hz1, Value.cells] using h
    clear hz hm hi hz0 hz1 hz2
    go_enter Try.func25, Try.ntmps25
    go_wp2_with (fail)
    clear hmk
    go_loopw [16] (fun i wr => ∃ k : Nat, k ≤ m ∧ i = .int .i64 k ∧ (List.range k).all (newAt zs m) = true ∧ Hid (wr.heap[w.heap.size]? = some (.cells ((seenTo zs m k).map Value.bool).toArray 4 (0, 0))) ∧ Below w.heap.size w wr) (fun i _ => m - (intOf i).toNat)
    case atStart => exact ⟨0, Nat.zero_le _, rfl, rfl, Lib.hid ((heap_alloc_new w _).trans (by simp [seenTo])), (Below.refl _ _).alloc (Nat.le_refl _) _⟩
    case round =>
      obtain ⟨k, hk, rfl, hall, hL, hb⟩ := hrel
      have HA := Lib.hid hall
      have HB := Lib.hid hb
      clear hall hb
      by_cases hlt : k < m
      · rcases HX.out with h | ⟨b, off, rfl, hc⟩
        · have := HM.out; subst h; simp at this; omega
        have hkz : k < zs.length := by have := HM.out; omega
        have c0 := (HB.out.cell (p := ⟨b, off + k, none⟩) (World.block_lt_of_cell? w _ (hc k hkz))).trans (hc k hkz)
        clear hc
        have HN : Hid (newAt zs m k = (decide (0 ≤ zs[k]?.getD 0) && decide (zs[k]?.getD 0 < m) && !((seenTo zs m k)[(zs[k]?.getD 0).toNat]?.getD false))) := Lib.hid rfl
        have HS : Hid (seenTo zs m (k + 1) = (seenTo zs m k).set (zs[k]?.getD 0).toNat true) := Lib.hid rfl
        generalize zs[k]?.getD 0 = z at *
        by_cases h0 : z < 0
        · go_wp2
          go_ret
          refine ⟨ret_bool (Eq.symm ?_), HB.out⟩
          rw [orderB, range_all_false _ _ _ hlt (by rw [HN.out, decide_eq_false (by omega : ¬ 0 ≤ z)]; rfl), Bool.and_false]
        · by_cases h1 : (m : Int) ≤ z
          · go_wp2
            go_ret
            refine ⟨ret_bool (Eq.symm ?_), HB.out⟩
            rw [orderB, range_all_false _ _ _ hlt (by rw [HN.out, decide_eq_false (by omega : ¬ z < m), Bool.and_false]; rfl), Bool.and_false]
          · obtain ⟨q, rfl⟩ : ∃ q : Nat, z = q := ⟨z.toNat, by omega⟩
            have hq : q < m := by omega
            have cs := bool_at hL.out (j := q) (by simpa using hq)
            have fs : wr.frozen? ⟨w.heap.size, q, none⟩ = false := row_free hL.out q
            have Hset := Lib.hid (heap_setCell_self hL.out (i := q) (.bool true))
            have HN2 := Lib.hid (show newAt zs m k = !((seenTo zs m k)[q]?.getD false) by rw [HN.out, decide_eq_true (by omega : (0 : Int) ≤ q), decide_eq_true (by omega : (q : Int) < m)]; simp)
            rcases Bool.eq_false_or_eq_true ((seenTo zs m k)[q]?.getD false) with hb | hb
            · rw [hb] at cs HN2
              clear hb
              go_wp2
              go_ret
              refine ⟨ret_bool (Eq.symm ?_), HB.out⟩
              rw [orderB, range_all_false _ _ _ hlt (by rw [HN2.out]; rfl), Bool.and_false]
            · rw [hb] at cs HN2
              clear hb
              go_wp2
              go_roundw
              case rel =>
                refine ⟨k + 1, by omega, by go_num, range_all_next _ _ HA.out (by rw [HN2.out]; rfl), ?_, HB.out.setCell (by simp) _⟩
                refine Lib.hid ?_
                rw [Hset.out, HS.out, Int.toNat_natCast]
                congr 2
                rw [← Array.toList_inj]
                simp [List.map_set]
              case measure => simp [intOf]; omega
      · go_wp2
        go_ret
        have hk' : k = m := by omega
        subst hk'
        refine ⟨ret_bool (Eq.symm ?_), HB.out⟩
        rw [orderB, HM.out, HA.out]; simp
  · have HM := Lib.hid hm
    have hne : ((m : Int) != (n : Int)) = true := by rw [bne_iff_ne]; omega
    clear hz hm
    go_enter Try.func25, Try.ntmps25
    go_wp2
    go_ret
    refine ⟨ret_bool (Eq.symm ?_), Below.refl _ _⟩
    rw [orderB, decide_eq_false (by rw [HM.out]; exact hnm), Bool.false_and]

theorem orderB_len {zs : List Int} {n : Nat} (h : orderB zs n = true) : zs.length = n := by
  simp [orderB] at h; exact h.1

/-- An order as a list of numbers. -/
theorem orderB_nat {zs : List Int} {n : Nat} (h : orderB zs n = true) : ∃ O : List Nat, zs = O.map (fun (x : Nat) => (x : Int)) ∧ O.Nodup ∧ (∀ x ∈ O, x < n) ∧ O.length = n := by
  have hl := orderB_len h
  have hall : ∀ k, k < n → newAt zs n k = true := by
    simp only [orderB, Bool.and_eq_true, List.all_eq_true, List.mem_range] at h
    exact h.2
  have hin : ∀ k, k < n → 0 ≤ zs[k]?.getD 0 ∧ zs[k]?.getD 0 < n ∧ (seenTo zs n k)[(zs[k]?.getD 0).toNat]?.getD false = false := by
    intro k hk
    have := hall k hk
    simp only [newAt, Bool.and_eq_true, decide_eq_true_eq, Bool.not_eq_true'] at this
    exact ⟨this.1.1, this.1.2, this.2⟩
  have hseen : ∀ k, k ≤ n → ∀ j, j < k → (seenTo zs n k)[(zs[j]?.getD 0).toNat]?.getD false = true := by
    intro k
    induction k with
    | zero => intro _ j hj; omega
    | succ k ih =>
      intro hk j hj
      rw [seenTo, List.getElem?_set]
      by_cases e : (zs[k]?.getD 0).toNat = (zs[j]?.getD 0).toNat
      · have := hin k (by omega)
        rw [if_pos e, if_pos (by rw [seenTo_length]; omega)]; rfl
      · rw [if_neg e]
        refine ih (by omega) j ?_
        have : j ≠ k := fun h => e (by rw [h])
        omega
  refine ⟨zs.map Int.toNat, ?_, ?_, ?_, by simpa using hl⟩
  · refine List.ext_getElem (by simp) fun i h1 h2 => ?_
    have := hin i (by omega)
    simp only [List.getElem?_eq_getElem h1, Option.getD_some] at this
    simp; omega
  · rw [List.nodup_iff_pairwise_ne, List.pairwise_iff_getElem]
    intro i j hi hj hij e
    simp at hi hj
    have h1 := hseen j (by omega) i hij
    have h2 := (hin j (by omega)).2.2
    have e' : (zs[i]?.getD 0).toNat = (zs[j]?.getD 0).toNat := by
      simpa [hi, hj] using e
    rw [e', h2] at h1
    cases h1
  · intro x hx
    rw [List.mem_map] at hx
    obtain ⟨z, hz, rfl⟩ := hx
    obtain ⟨i, hi, e⟩ := List.getElem_of_mem hz
    have := hin i (by omega)
    simp only [List.getElem?_eq_getElem hi, Option.getD_some, e] at this
    omega
end

section
open Go.RowKit Go.Sort

theorem okAll_step (c : Cl) (n : Nat) (O : List Nat) : okFrom c n O 0 = (List.range n).all (stepB c n O) := by
  simp [okFrom]

set_option maxRecDepth 100000 in
set_option maxHeartbeats 2000000 in
theorem foldedBy_any (al ah ac aO : Option Addr) (cl ch cc cO n : Nat) (c : Cl) (O : List Nat) (w : World) (h1 : 1 ≤ n) (h9 : n ≤ 9) (hc9 : c.crs.length ≤ 9) (hlO : O.length = n)
    (hl : w.ownsRow 0 3 1 (.slice al n cl) n (c.low.map (Value.int .i64))) (hh : w.ownsRow 0 3 1 (.slice ah n ch) n (c.high.map (Value.int .i64)))
    (hc : w.ownsRow 0 87 3 (.slice ac c.crs.length cc) c.crs.length (crCells c.crs)) (hO : Ints w aO (O.map fun (x : Nat) => (x : Int))) (hOn : ∀ x ∈ O, x < n)
    (hcn : ∀ f ∈ c.crs, f.first < n ∧ f.second < n) :
    Calls Try.prog 26 #[.agg #[.slice al n cl, .slice ah n ch, .slice ac c.crs.length cc], .slice aO n cO] w
      fun e w' => e = .returned (.bool (okFrom c n O 0)) ∧ Below w.heap.size w w' := by
  have HO := Lib.hid hO.at
  have HlO := Lib.hid hlO
  have HX := Lib.hid (And.intro hl (And.intro hh hc))
  have HN : Hid (∀ w0 : World, Calls Try.prog 40 #[.agg #[.slice al n cl, .slice ah n ch, .slice ac c.crs.length cc]] w0
      (Gives (fun v w' => ∃ g, v = .slice (some ⟨g, 0, none⟩) n n ∧ w0.heap.size ≤ g ∧ w'.heap[g]? = some (.cells (List.replicate n (Value.int .i64 (-1))).toArray 3 (0, 0))) w0)) :=
    Lib.hid fun w0 => noLayers_any al cl n _ _ w0 h1 (by omega)
  clear hl hh hc hO hlO
  go_enter Try.func26, Try.ntmps26
  go_wp2_with (go_at_call 40; refine (HN.out _).mono ?_; rintro e w1 ⟨u, rfl, ⟨g, rfl, hg1, hg2⟩, hb1⟩; have H1 := Lib.hid (And.intro hg1 (And.intro hg2 hb1)); clear hg1 hg2 hb1)
  have hgw := H1.out.1
  have hb1 := H1.out.2.2
  simp at hgw hb1
  have HW1 := Lib.hid (((Below.refl _ w).alloc (Nat.le_refl _) _).trans (hb1.mono (show w.heap.size ≤ w.heap.size + 1 by omega)))
  have Hbx := Lib.hid (show Trip w1 w.heap.size 63 (.slice al n cl) (.slice ah n ch) (.slice ac c.crs.length cc) from (Trip.new w _ _ _ _).below hb1 (by omega))
  clear hb1
  go_loopw [12] (fun i wr => ∃ k : Nat, k ≤ n ∧ i = .int .i64 k ∧ (List.range k).all (stepB c n O) = true ∧ Hid (wr.heap[g]? = some (.cells ((layersTo O n k).map (Value.int .i64)).toArray 3 (0, 0))) ∧ Below g w1 wr) (fun i _ => n - (intOf i).toNat)
  case atStart => exact ⟨0, Nat.zero_le _, rfl, rfl, (by refine Lib.hid ?_; rw [H1.out.2.1]; simp [layersTo]), Below.refl _ _⟩
  case round =>
    obtain ⟨k, hk, rfl, hall, hL, hb⟩ := hrel
    have HA := Lib.hid hall
    have Hb := Lib.hid hb
    clear hall hb
    by_cases hlt : k < n
    · rcases HO.out with h | ⟨b, off, rfl, hcO⟩
      · have := HlO.out; simp at h; subst h; simp at this; omega
      have hkO : k < O.length := by have := HlO.out; omega
      have hx : O[k]?.getD 0 < n := hOn _ (by simp [hkO])
      have e0 : (O.map fun (x : Nat) => (x : Int))[k]?.getD 0 = ((O[k]?.getD 0 : Nat) : Int) := by simp [hkO]
      have cO' := hcO k (by simpa using hkO)
      rw [e0] at cO'
      have hbw := World.block_lt_of_cell? w _ cO'
      have c0 := (Hb.out.cell (p := ⟨b, off + k, none⟩) (by simp at hbw ⊢; omega)).trans ((HW1.out.cell (p := ⟨b, off + k, none⟩) hbw).trans cO')
      clear hcO cO' e0
      have HS : Hid (stepB c n O k = fitsB c (layersTo O n k) (O[k]?.getD 0)) := Lib.hid rfl
      have HT : Hid (layersTo O n (k + 1) = (layersTo O n k).set (O[k]?.getD 0) k) := Lib.hid rfl
      generalize O[k]?.getD 0 = q at *
      have hbox := Hbx.out.below Hb.out (by omega)
      have x0 := hbox.c0
      have x1 := hbox.c1
      have x2 := hbox.c2
      have hcell := row_at hL.out (j := q) (by simpa using hx)
      have hfree : wr.frozen? ⟨g, q, none⟩ = false := by simp [World.frozen?, hL.out]
      have Hww : Hid (Below w.heap.size w wr) := Lib.hid (HW1.out.trans (Hb.out.mono (by omega)))
      have HF : Hid (Calls Try.prog 43 #[.agg #[.slice al n cl, .slice ah n ch, .slice ac c.crs.length cc], .slice (some ⟨g, 0, none⟩) n n, .int .i64 q] wr
        (Gives (fun v _ => v = .bool (stepB c n O k)) wr)) := Lib.hid (by
          rw [HS.out]
          exact fits_any al ah ac (some ⟨g, 0, none⟩) cl ch cc n n q c (layersTo O n k) wr (by simp) h9 hc9 (ownsRow_kept HX.out.1 Hww.out) (ownsRow_kept HX.out.2.1 Hww.out) (ownsRow_kept HX.out.2.2 Hww.out)
            ⟨by simp, .inr ⟨g, n, _, rfl, Nat.zero_le _, hL.out, Nat.le_refl _, by unfold maxLen; omega, by simp, by simp [List.take_of_length_le]⟩⟩ hx hcn)
      have Hgl := Lib.hid (lt_of_block hL.out)
      clear hbox
      rcases Bool.eq_false_or_eq_true (stepB c n O k) with hs | hs
      all_goals
        rw [hs] at HF
        have HSS := Lib.hid hs
        clear hs
        go_wp2_with (go_at_call 43; refine HF.out.mono ?_; rintro e w2 ⟨v, rfl, rfl, hb2⟩; have HL2 := Lib.hid (row_below hL.out hb2 Hgl.out); have hfree2 : w2.frozen? ⟨g, q, none⟩ = false := row_free HL2.out q; have hcell2 := row_at HL2.out (j := q) (by simpa using hx); have H2 := Lib.hid hb2; clear hb2)
      · have Hset := Lib.hid (heap_setCell_self HL2.out (i := q) (.int .i64 (k : Int)))
        go_roundw
        case rel =>
          refine ⟨k + 1, by omega, by go_num, range_all_next _ _ HA.out HSS.out, ?_, (Hb.out.trans (H2.out.mono (by have := Hgl.out; omega))).setCell (by simp) _⟩
          refine Lib.hid ?_
          rw [Hset.out, HT.out]
          congr 2
          rw [← Array.toList_inj]
          simp [List.map_set]
        case measure => simp [intOf]; omega
      · go_ret
        refine ⟨ret_bool (Eq.symm ?_), Hww.out.trans (H2.out.mono Hww.out.size)⟩
        rw [okAll_step, range_all_false _ _ _ hlt HSS.out]
    · obtain rfl : k = n := by omega
      go_wp2
      go_ret
      exact ⟨ret_bool (by rw [okAll_step, HA.out]), HW1.out.trans (Hb.out.mono (by omega))⟩

/-- What 'Folds' answers. -/
def foldsZ (zs os : List Int) : Bool × Int := if stripB zs = true then (if orderB os zs.length = true then (okFrom (layCl zs) zs.length (os.map Int.toNat) 0, 0) else (false, 2)) else (false, 1)
/-- What 'Creases' answers. -/
def creasesZ (zs os : List Int) : ByteArray × Int := if (foldsZ zs os).2 = 0 then (if (foldsZ zs os).1 = true then (crsOf zs (os.map Int.toNat), 0) else (⟨#[]⟩, 5)) else (⟨#[]⟩, (foldsZ zs os).2)

theorem toNat_back (O : List Nat) : (O.map fun (x : Nat) => (x : Int)).map Int.toNat = O := by
  rw [List.map_map]
  conv => rhs; rw [← List.map_id O]
  exact List.map_congr_left fun x _ => Int.toNat_natCast x

set_option maxRecDepth 100000 in
set_option maxHeartbeats 1000000 in
theorem Folds_any (a aO : Option Addr) (n cap m cO : Nat) (zs os : List Int) (w : World) (b : Bool) (err : Int) (hn : zs.length = n) (hm : n ≤ 9223372036854775807) (hz : Ints w a zs)
    (hnO : os.length = m) (hmO : m ≤ 9223372036854775807) (hO : Ints w aO os) (h : foldsZ zs os = (b, err)) :
    Calls Try.prog 12 #[.slice a n cap, .slice aO m cO] w (Gives2 (.bool b) (.int .i64 err) w) := by
  have his := isStrip_any a n cap zs w hn hm hz
  rcases Bool.eq_false_or_eq_true (stripB zs) with hs | hs
  · rw [hs] at his
    obtain ⟨p1, p9, ps⟩ := strip_parts hs
    have hio := isOrder_any aO m cO n os w hnO hmO (by omega) (by omega) hO
    have Hcl := Lib.hid (clothOfStrip_any a n cap zs · hn (by omega) ps)
    rcases Bool.eq_false_or_eq_true (orderB os zs.length) with ho | ho
    · rw [← hn, ho, hn] at hio
      have h' : okFrom (layCl zs) zs.length (os.map Int.toNat) 0 = b ∧ 0 = err := by
        rw [foldsZ, if_pos hs, if_pos ho] at h
        exact ⟨congrArg Prod.fst h, congrArg Prod.snd h⟩
      obtain ⟨O, rfl, _, hv, hl⟩ := orderB_nat ho
      rw [toNat_back] at h'
      obtain ⟨rfl, rfl⟩ := h'
      have His := Lib.hid his
      have Hio := Lib.hid hio
      have HZ := Lib.hid (And.intro hz (And.intro hO (And.intro hv (And.intro hl hn))))
      have Hm : Hid (m = n) := Lib.hid (by rw [← hnO, List.length_map, hl, hn])
      clear his hio hz hO hl hs ho h hnO hn
      go_enter Try.func12, Try.ntmps12
      go_wp2_with (first
        | (go_at_call 21; refine His.out.mono ?_; rintro e w1 ⟨rfl, rfl⟩)
        | (go_at_call 25; refine Hio.out.mono ?_; rintro e w1 ⟨rfl, hb1⟩; have H1 := Lib.hid hb1; clear hb1)
        | (go_at_call 22; refine (Hcl.out w1 (HZ.out.1.below H1.out)).mono ?_; rintro e w2 ⟨v, rfl, hv2, hb2⟩; obtain ⟨al, cl, ah, ch, ac, cc, rfl, hl, hh, hc⟩ := hv2.slices; have H2 := Lib.hid (And.intro hb2 (And.intro hl (And.intro hh hc))); clear hb2 hl hh hc hv2))
      have hbw : Below w.heap.size w w2 := H1.out.trans (H2.out.1.mono H1.out.size)
      have hf := foldedBy_any al ah ac aO cl ch cc cO zs.length (layCl zs) O w2 p1 p9 (by simp; omega) HZ.out.2.2.2.1 (ownsRow_weaken (by have := H2.out.2.1; rwa [layCl_low] at this) (Nat.zero_le _)) (ownsRow_weaken (by have := H2.out.2.2.1; rwa [layCl_high] at this) (Nat.zero_le _)) (ownsRow_weaken H2.out.2.2.2 (Nat.zero_le _)) (HZ.out.2.1.below hbw) HZ.out.2.2.1 (layCl_in zs)
      rw [layCl_crs] at hf
      obtain rfl : m = zs.length := by rw [Hm.out, HZ.out.2.2.2.2]
      refine hf.mono ?_
      rintro e w3 ⟨rfl, hb3⟩
      have H3 := Lib.hid (hbw.trans (hb3.mono hbw.size))
      clear hf hb3 hbw
      go_wp2
      go_ret2
      exact ⟨rfl, H3.out⟩
    · rw [← hn, ho, hn] at hio
      have h' : false = b ∧ 2 = err := by
        rw [foldsZ, if_pos hs, if_neg (by rw [ho]; exact Bool.false_ne_true)] at h
        exact ⟨congrArg Prod.fst h, congrArg Prod.snd h⟩
      obtain ⟨rfl, rfl⟩ := h'
      have His := Lib.hid his
      have Hio := Lib.hid hio
      clear his hio hz hO hs ho h hnO hn
      go_enter Try.func12, Try.ntmps12
      go_wp2_with (first
        | (go_at_call 21; refine His.out.mono ?_; rintro e w1 ⟨rfl, rfl⟩)
        | (go_at_call 25; refine Hio.out.mono ?_; rintro e w1 ⟨rfl, hb1⟩; have H1 := Lib.hid hb1; clear hb1))
      go_ret2
      exact ⟨rfl, H1.out⟩
  · rw [hs] at his
    have h' : false = b ∧ 1 = err := by
      rw [foldsZ, if_neg (by rw [hs]; exact Bool.false_ne_true)] at h
      exact ⟨congrArg Prod.fst h, congrArg Prod.snd h⟩
    obtain ⟨rfl, rfl⟩ := h'
    have His := Lib.hid his
    clear his hz hO hn h hnO hs
    go_enter Try.func12, Try.ntmps12
    go_wp2_with (go_at_call 21; refine His.out.mono ?_; rintro e w1 ⟨rfl, rfl⟩)
    go_ret2
    exact ⟨rfl, Below.refl _ _⟩

theorem foldsZ_parts {zs os : List Int} {b : Bool} (h : foldsZ zs os = (b, 0)) : stripB zs = true ∧ ∃ O : List Nat, os = O.map (fun (x : Nat) => (x : Int)) ∧ O.Nodup ∧ (∀ x ∈ O, x < zs.length) ∧ O.length = zs.length ∧ okFrom (layCl zs) zs.length O 0 = b := by
  unfold foldsZ at h
  split at h
  · rename_i hs
    split at h
    · rename_i ho
      obtain ⟨O, rfl, h1, h2, h3⟩ := orderB_nat ho
      rw [toNat_back] at h
      exact ⟨hs, O, rfl, h1, h2, h3, congrArg Prod.fst h⟩
    · cases congrArg Prod.snd h
  · cases congrArg Prod.snd h

set_option maxRecDepth 100000 in
set_option maxHeartbeats 1000000 in
theorem Creases_any (a aO : Option Addr) (n cap m cO : Nat) (zs os : List Int) (w : World) (t : ByteArray) (err : Int) (hn : zs.length = n) (hm : n ≤ 9223372036854775807) (hz : Ints w a zs)
    (hnO : os.length = m) (hmO : m ≤ 9223372036854775807) (hO : Ints w aO os) (h : creasesZ zs os = (t, err)) :
    Calls Try.prog 11 #[.slice a n cap, .slice aO m cO] w (Gives2 (.string t) (.int .i64 err) w) := by
  obtain ⟨b, e1, hf⟩ : ∃ b e1, foldsZ zs os = (b, e1) := ⟨_, _, rfl⟩
  have hc := Lib.hid (Folds_any a aO n cap m cO zs os w b e1 hn hm hz hnO hmO hO hf)
  unfold creasesZ at h
  rw [hf] at h
  by_cases h0 : e1 = 0
  · subst h0
    rw [if_pos rfl] at h
    cases b with
    | true =>
      rw [if_pos rfl] at h
      obtain ⟨hs, O, rfl, _, hv, hl, _⟩ := foldsZ_parts hf
      rw [toNat_back] at h
      obtain ⟨rfl, rfl⟩ : crsOf zs O = t ∧ 0 = err := ⟨congrArg Prod.fst h, congrArg Prod.snd h⟩
      obtain ⟨p1, p9, ps⟩ := strip_parts hs
      have Hcl := Lib.hid (clothOfStrip_any a n cap zs · hn (by omega) ps)
      have HZ := Lib.hid (And.intro hz (And.intro hO (And.intro hv (And.intro hl hn))))
      have Hm : Hid (m = zs.length) := Lib.hid (by rw [← hnO, List.length_map, hl])
      clear hz hO hl hs h hnO hn hf
      go_enter Try.func11, Try.ntmps11
      go_wp2_with (first
        | (go_at_call 12; refine hc.out.mono ?_; rintro e w1 ⟨rfl, hb1⟩; have H1 := Lib.hid hb1; clear hb1)
        | (go_at_call 22; refine (Hcl.out w1 (HZ.out.1.below H1.out)).mono ?_; rintro e w2 ⟨v, rfl, hv2, hb2⟩; obtain ⟨al, cl, ah, ch, ac, cc, rfl, hl, hh, hc⟩ := hv2.slices; have H2 := Lib.hid (And.intro hb2 (And.intro hl (And.intro hh hc))); clear hb2 hl hh hc hv2))
      have hbw : Below w.heap.size w w2 := H1.out.trans (H2.out.1.mono H1.out.size)
      have hf := letters_any al ac aO cl cc cO zs.length (.slice ah zs.length ch) (layCl zs).crs O w2 p1 p9 (by simp; omega) (ownsRow_weaken H2.out.2.2.2 (Nat.zero_le _)) HZ.out.2.2.2.1 (HZ.out.2.1.below hbw) HZ.out.2.2.1 (layCl_in zs)
      rw [layCl_crs] at hf
      obtain rfl : m = zs.length := Hm.out
      refine hf.mono ?_
      rintro e w3 ⟨rfl, hb3⟩
      have H3 := Lib.hid (hbw.trans (hb3.mono hbw.size))
      clear hf hb3 hbw
      go_wp2
      go_ret2
      exact ⟨rfl, H3.out⟩
    | false =>
      rw [if_neg Bool.false_ne_true] at h
      obtain ⟨rfl, rfl⟩ : (⟨#[]⟩ : ByteArray) = t ∧ 5 = err := ⟨congrArg Prod.fst h, congrArg Prod.snd h⟩
      clear hz hO h hnO hn hf
      go_enter Try.func11, Try.ntmps11
      go_wp2_with (go_at_call 12; refine hc.out.mono ?_; rintro e w1 ⟨rfl, hb1⟩; have H1 := Lib.hid hb1; clear hb1)
      go_ret2
      exact ⟨rfl, H1.out⟩
  · rw [if_neg h0] at h
    obtain ⟨rfl, rfl⟩ : (⟨#[]⟩ : ByteArray) = t ∧ e1 = err := ⟨congrArg Prod.fst h, congrArg Prod.snd h⟩
    have h1 : (e1 != 0) = true := by rw [bne_iff_ne]; exact h0
    clear hz hO h hnO hn hf h0
    go_enter Try.func11, Try.ntmps11
    go_wp2_with (go_at_call 12; refine hc.out.mono ?_; rintro e w1 ⟨rfl, hb1⟩; have H1 := Lib.hid hb1; clear hb1)
    go_ret2
    exact ⟨rfl, H1.out⟩
end

section
theorem permsAll_mem (n : Nat) (P : List Nat) (hn : P.Nodup) (hv : ∀ x ∈ P, x < n) (hl : P.length = n) : ∀ (k : Nat) (O : List Nat), O.length + k = n → O <+: P → P ∈ permsAll n k O
  | 0, O, h, hp => by
    obtain ⟨t, rfl⟩ := hp
    rw [List.length_append] at hl
    have : t = [] := List.eq_nil_of_length_eq_zero (by omega)
    subst this
    simp [permsAll]
  | k + 1, O, h, hp => by
    have hp' := hp
    obtain ⟨t, rfl⟩ := hp'
    cases t with
    | nil => simp at hl; omega
    | cons s t =>
      rw [permsAll, List.mem_flatMap]
      refine ⟨s, List.mem_range.2 (hv s (by simp)), ?_⟩
      have hs : O.contains s = false := by
        rw [List.nodup_append] at hn
        have := hn.2.2
        rw [Bool.eq_false_iff, Ne, List.contains_iff_mem]
        exact fun hm => this s hm s (by simp) rfl
      rw [hs, if_neg Bool.false_ne_true]
      exact permsAll_mem n _ hn hv hl k (O ++ [s]) (by simp; omega) ⟨t, by simp⟩

theorem mem_orders {c : Cl} {n : Nat} {P : List Nat} : P ∈ ordersOf c n ↔ P.Nodup ∧ (∀ x ∈ P, x < n) ∧ P.length = n ∧ okFrom c n P 0 = true := by
  rw [ordersOf, orders_filter, List.mem_filter]
  constructor
  · rintro ⟨h1, h2⟩
    obtain ⟨e1, e2, e3, _⟩ := permsAll_ok n n [] List.nodup_nil (by simp) P h1
    exact ⟨e2, e3, by simpa using e1, h2⟩
  · rintro ⟨h1, h2, h3, h4⟩
    exact ⟨permsAll_mem n P h1 h2 h3 n [] (by simp) List.nil_prefix, h4⟩

/-- The side of a crease of a strip. -/
def rightS (f : Cr) : Bool := decide (f.second % 2 = 0)
theorem mem_crs {zs : List Int} {f : Cr} (h : f ∈ (layCl zs).crs) : ∃ i, i + 1 < zs.length ∧ f = ⟨i, i + 1, posAt zs (i + 1)⟩ := by
  simp only [layCl, crsTo, List.mem_map, List.mem_range] at h
  obtain ⟨i, hi, rfl⟩ := h
  exact ⟨i, by omega, rfl⟩
theorem strip_fair (zs : List Int) : Fair zs.length (posAt zs) (layCl zs) rightS where
  low := fun i hi => by simp [layCl, lowsTo, hi]
  high := fun i hi => by simp [layCl, highsTo, hi]
  ends := fun f hf => by obtain ⟨i, hi, rfl⟩ := mem_crs hf; exact ⟨by show i < _; omega, hi, by show i ≠ i + 1; omega⟩
  at1 := fun f hf => by obtain ⟨i, hi, rfl⟩ := mem_crs hf; exact .inr rfl
  at2 := fun f hf => by obtain ⟨i, hi, rfl⟩ := mem_crs hf; exact .inl rfl
  side := fun f _ g _ => by
    simp only [Cr.beside, rightS, Bool.and_eq_true, decide_eq_true_eq, decide_eq_decide]
    omega

theorem NoCross.congr {n : Nat} {p : Nat → Int} {crs : List Cr} {right : Cr → Bool} {A B : Nat → Int} (he : ∀ f ∈ crs, f.first < n ∧ f.second < n) (h : ∀ s, s < n → A s = B s) (hA : NoCross n p crs right A) : NoCross n p crs right B := by
  refine ⟨fun f hf i hi => ?_, fun f hf g hg h1 h2 => ?_⟩
  · obtain ⟨a, b⟩ := he f hf
    rw [← h i hi, ← h _ a, ← h _ b]
    exact hA.seg f hf i hi
  · obtain ⟨a, b⟩ := he f hf
    obtain ⟨c, d⟩ := he g hg
    rw [← h _ a, ← h _ b, ← h _ c, ← h _ d]
    exact hA.cr f hf g hg h1 h2
theorem btwB_flip (m x a b : Int) : btwB (m - x) (m - a) (m - b) = btwB x a b := by
  rw [Bool.eq_iff_iff, btwB_iff, btwB_iff]
  omega
theorem NoCross.flip {n : Nat} {p : Nat → Int} {crs : List Cr} {right : Cr → Bool} {A : Nat → Int} (m : Int) (hA : NoCross n p crs right A) : NoCross n p crs right (fun s => m - A s) := by
  refine ⟨fun f hf i hi => ?_, fun f hf g hg h1 h2 => ?_⟩
  · rw [btwB_flip]; exact hA.seg f hf i hi
  · rw [btwB_flip, btwB_flip]; exact hA.cr f hf g hg h1 h2

theorem nodup_rev {P : List Nat} (h : P.Nodup) : P.reverse.Nodup := by
  rw [List.nodup_iff_pairwise_ne, List.pairwise_reverse]
  exact (List.nodup_iff_pairwise_ne.1 h).imp fun h e => h e.symm

theorem layerN_reverse {n : Nat} {P : List Nat} (hn : P.Nodup) (hv : ∀ x ∈ P, x < n) (hl : P.length = n) {s : Nat} (hs : s < n) : layerN P.reverse s = n - 1 - layerN P s := by
  have h1 := layerN_lt hn hv hl hs
  have h2 := layerN_at hn hv hl hs
  have hj : n - 1 - layerN P s < P.reverse.length := by rw [List.length_reverse]; omega
  have := layerN_of (nodup_rev hn) (n - 1 - layerN P s) hj
  rw [List.getElem_reverse] at this
  have e : P.length - 1 - (n - 1 - layerN P s) = layerN P s := by omega
  simp only [e] at this
  rw [List.getElem?_eq_getElem (by omega : layerN P s < P.length)] at h2
  simp only [Option.getD_some] at h2
  rwa [h2] at this

theorem ok_reverse {zs : List Int} {P : List Nat} (hn : P.Nodup) (hv : ∀ x ∈ P, x < zs.length) (hl : P.length = zs.length) (h : okFrom (layCl zs) zs.length P 0 = true) : okFrom (layCl zs) zs.length P.reverse 0 = true := by
  rw [okFrom_iff (strip_fair zs) (nodup_rev hn) (fun x hx => hv x (List.mem_reverse.1 hx)) (by simpa using hl)]
  have h1 := ((okFrom_iff (strip_fair zs) hn hv hl).1 h).flip ((zs.length : Int) - 1)
  refine h1.congr (fun f hf => ⟨((strip_fair zs).ends f hf).1, ((strip_fair zs).ends f hf).2.1⟩) (fun s hs => ?_)
  rw [layerN_reverse hn hv hl hs]
  have := layerN_lt hn hv hl hs
  omega

/-- The plain order folds every strip. -/
theorem layerN_range {n s : Nat} (hs : s < n) : layerN (List.range n) s = s := by
  have := layerN_of (List.nodup_range (n := n)) s (by simpa using hs)
  simpa using this
theorem ok_range (zs : List Int) : okFrom (layCl zs) zs.length (List.range zs.length) 0 = true := by
  rw [okFrom_iff (strip_fair zs) List.nodup_range (by simp) (by simp)]
  have none : ∀ f ∈ (layCl zs).crs, ∀ s : Nat, s < zs.length → btwB (layerN (List.range zs.length) s : Int) (layerN (List.range zs.length) f.first : Int) (layerN (List.range zs.length) f.second : Int) = false := by
    intro f hf s hs
    obtain ⟨i, hi, rfl⟩ := mem_crs hf
    rw [layerN_range hs, layerN_range (show i < zs.length by omega), layerN_range hi, Bool.eq_false_iff, Ne, btwB_iff]
    omega
  refine ⟨fun f hf i hi h => ?_, fun f hf g hg _ _ => ?_⟩
  · have := none f hf i hi
    rw [h.2] at this
    cases this
  · obtain ⟨a, b, _⟩ := (strip_fair zs).ends g hg
    rw [none f hf _ a, none f hf _ b]
theorem count_pos (zs : List Int) : 1 ≤ countOf zs := by
  have : List.range zs.length ∈ ordersOf (layCl zs) zs.length := mem_orders.2 ⟨List.nodup_range, by simp, by simp, ok_range zs⟩
  exact List.length_pos_of_mem this

/-- A strip, stretched. -/
theorem posAt_scale (zs : List Int) (t : Int) : ∀ k, posAt (zs.map (· * t)) k = posAt zs k * t
  | 0 => by simp [posAt]
  | k + 1 => by
    have e : (zs.map (· * t))[k]?.getD 0 = zs[k]?.getD 0 * t := by
      rw [List.getElem?_map]
      cases zs[k]? <;> simp
    rw [posAt, posAt, posAt_scale zs t k, e]
    split
    · rw [Int.add_mul]
    · rw [Int.sub_mul]
theorem lt_scale {t a b : Int} (ht : 0 < t) : a * t < b * t ↔ a < b := by
  constructor
  · intro h; exact Int.lt_of_mul_lt_mul_right h (by omega)
  · intro h; exact Int.mul_lt_mul_of_pos_right h ht
theorem btwB_scale {t : Int} (ht : 0 < t) (x a b : Int) : btwB (x * t) (a * t) (b * t) = btwB x a b := by
  rw [Bool.eq_iff_iff, btwB_iff, btwB_iff]
  have h1 := lt_scale ht (a := a) (b := x)
  have h2 := lt_scale ht (a := b) (b := x)
  have h3 := lt_scale ht (a := x) (b := a)
  have h4 := lt_scale ht (a := x) (b := b)
  omega
def Cr.stretch (t : Int) (f : Cr) : Cr := ⟨f.first, f.second, f.pos * t⟩
theorem crs_scale (zs : List Int) (t : Int) : (layCl (zs.map (· * t))).crs = (layCl zs).crs.map (Cr.stretch t) := by
  simp only [layCl, crsTo, List.length_map, List.map_map]
  refine List.map_congr_left fun i _ => ?_
  simp [Cr.stretch, posAt_scale]
theorem mul_inj {t a b : Int} (ht : 0 < t) (h : a * t = b * t) : a = b := Int.eq_of_mul_eq_mul_right (by omega) h
theorem noCross_scale (zs : List Int) {t : Int} (ht : 0 < t) (A : Nat → Int) : NoCross zs.length (posAt (zs.map (· * t))) (layCl (zs.map (· * t))).crs rightS A ↔ NoCross zs.length (posAt zs) (layCl zs).crs rightS A := by
  rw [crs_scale]
  constructor
  · rintro ⟨h1, h2⟩
    refine ⟨fun f hf i hi => ?_, fun f hf g hg e1 e2 => ?_⟩
    · have := h1 _ (List.mem_map_of_mem (f := Cr.stretch t) hf) i hi
      rw [posAt_scale, posAt_scale] at this
      simp only [Cr.stretch, btwB_scale ht] at this
      exact this
    · exact h2 (f.stretch t) (List.mem_map_of_mem hf) (g.stretch t) (List.mem_map_of_mem hg) (by simp only [Cr.stretch, e1]) e2
  · rintro ⟨h1, h2⟩
    refine ⟨fun f hf i hi => ?_, fun f hf g hg e1 e2 => ?_⟩
    · obtain ⟨f', hf', rfl⟩ := List.mem_map.1 hf
      rw [posAt_scale, posAt_scale]
      simp only [Cr.stretch, btwB_scale ht]
      exact h1 f' hf' i hi
    · obtain ⟨f', hf', rfl⟩ := List.mem_map.1 hf
      obtain ⟨g', hg', rfl⟩ := List.mem_map.1 hg
      exact h2 f' hf' g' hg' (mul_inj ht e1) e2
theorem ok_scale {zs : List Int} {t : Int} (ht : 0 < t) {P : List Nat} (hn : P.Nodup) (hv : ∀ x ∈ P, x < zs.length) (hl : P.length = zs.length) :
    okFrom (layCl (zs.map (· * t))) zs.length P 0 = okFrom (layCl zs) zs.length P 0 := by
  have hF := strip_fair (zs.map (· * t))
  rw [List.length_map] at hF
  rw [Bool.eq_iff_iff, okFrom_iff hF hn hv hl, okFrom_iff (strip_fair zs) hn hv hl]
  exact noCross_scale zs ht _
theorem orders_scale (zs : List Int) {t : Int} (ht : 0 < t) : ordersOf (layCl (zs.map (· * t))) zs.length = ordersOf (layCl zs) zs.length := by
  rw [ordersOf, ordersOf, orders_filter, orders_filter]
  refine List.filter_congr fun P hP => ?_
  obtain ⟨e1, e2, e3, _⟩ := permsAll_ok zs.length zs.length [] List.nodup_nil (by simp) P hP
  exact ok_scale ht e2 e3 (by simpa using e1)
theorem count_scale (zs : List Int) {t : Int} (ht : 0 < t) : countOf (zs.map (· * t)) = countOf zs := by
  rw [countOf, countOf, List.length_map, orders_scale zs ht]
theorem letters_scale (zs : List Int) (t : Int) (O : List Nat) : crsOf (zs.map (· * t)) O = crsOf zs O := by
  rw [crsOf, crsOf, crs_scale, List.length_map, lettersZ, lettersZ, List.map_map]
  rfl

/-- Every list of all numbers is an order. -/
theorem orderB_of {O : List Nat} {n : Nat} (hn : O.Nodup) (hv : ∀ x ∈ O, x < n) (hl : O.length = n) : orderB (O.map fun (x : Nat) => (x : Int)) n = true := by
  have hg : ∀ k (hk : k < O.length), (O.map fun (x : Nat) => (x : Int))[k]?.getD 0 = (O[k] : Int) := fun k hk => by simp [hk]
  have hs : ∀ k, k ≤ n → ∀ s, s < n → ((seenTo (O.map fun (x : Nat) => (x : Int)) n k)[s]?.getD false = true → ∃ j, ∃ h : j < O.length, j < k ∧ O[j] = s) := by
    intro k
    induction k with
    | zero => intro _ s hsn h; simp [seenTo, hsn] at h
    | succ k ih =>
      intro hk s hsn h
      rw [seenTo, hg k (by omega), Int.toNat_natCast, List.getElem?_set] at h
      by_cases e : O[k] = s
      · exact ⟨k, by omega, by omega, e⟩
      · rw [if_neg e] at h
        obtain ⟨j, h1, h2, h3⟩ := ih (by omega) s hsn h
        exact ⟨j, h1, by omega, h3⟩
  simp only [orderB, List.length_map, hl, decide_true, Bool.true_and, List.all_eq_true, List.mem_range]
  intro k hk
  have hkv := hv _ (List.getElem_mem (show k < O.length by omega))
  rw [newAt, hg k (by omega), Int.toNat_natCast, decide_eq_true (by omega : (0 : Int) ≤ (O[k] : Int)), decide_eq_true (by omega : (O[k] : Int) < n), Bool.true_and, Bool.true_and, Bool.not_eq_true']
  rw [Bool.eq_false_iff]
  intro h
  obtain ⟨j, h1, h2, h3⟩ := hs k (by omega) _ hkv h
  have := (List.getElem_inj hn).1 h3
  omega

/-- Creases' answer at an order that folds. -/
theorem creasesZ_of {zs : List Int} {O : List Nat} (hs : stripB zs = true) (hO : O ∈ ordersOf (layCl zs) zs.length) : creasesZ zs (O.map fun (x : Nat) => (x : Int)) = (crsOf zs O, 0) := by
  obtain ⟨h1, h2, h3, h4⟩ := mem_orders.1 hO
  have hf : foldsZ zs (O.map fun (x : Nat) => (x : Int)) = (true, 0) := by
    rw [foldsZ, if_pos hs, if_pos (orderB_of h1 h2 h3), toNat_back, h4]
  rw [creasesZ, hf, if_pos rfl, if_pos rfl, toNat_back]
end

end Go.Proofs.Yteckeobhlfddlaa
