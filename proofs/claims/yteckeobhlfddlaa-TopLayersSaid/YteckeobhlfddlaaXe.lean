/-
  The walks of 'rowOf', 'IndexFunc' and 'spansIn'.
-/
import Derived.Test.YteckeobhlfddlaaXb
import Derived.Test.YteckeobhlfddlaaRy
namespace Go.Proofs.Yteckeobhlfddlaa.Rib
open Go.RowKit Go.Sort

theorem RowV.weaken {so : Option (List Nat)} {w0 w : World} {e : Ending} {w' : World} (h : RowV so w e w') (hs : w0.heap.size ≤ w.heap.size) : RowV so w0 e w' := by
  cases so with
  | none => exact h
  | some r =>
    obtain ⟨a, c, h1, h2, h3⟩ := h
    exact ⟨a, c, h1, h2, ownsRow_weaken h3 hs⟩

set_option maxRecDepth 100000 in
set_option maxHeartbeats 2000000 in
theorem rowOf_any (a : Option Addr) (k cap : Nat) (cs : List Nat) (w : World) (hk : cs.length = k) (hk1 : 1 ≤ k) (hk12 : k ≤ 12) (h16 : ∀ x ∈ cs, x < 2 ^ 16) (hz : Sets w a cs) :
    Calls Try.prog 18 #[.slice a k cap] w fun e w' => Below w.heap.size w w' ∧ RowV (searchN cs k 0) w e w' := by
  have hm : MapW cs w.heap.size 0 (w.alloc (.map #[] 0)) := ⟨_, World.ownsMap_made w Try.prog 68 _, fun S h => by simp [DataW.atKey] at h⟩
  have hb1 : Below w.heap.size w (w.alloc (.map #[] 0)) := (Below.refl _ w).alloc (Nat.le_refl _) _
  have h0 : cntN 0 = 0 := by decide
  have hab : ∀ bl off, a = some ⟨bl, off, none⟩ → bl ≠ w.heap.size := fun bl off e hbl => by
    obtain ⟨bl', off', e', hc⟩ := hz 0 (by omega)
    have := World.block_lt_of_cell? w _ hc
    rw [e] at e'; cases e'; subst hbl; simp at this
  have HA : Hid (Calls Try.prog 31 #[.agg #[.slice a k cap, .map (some w.heap.size)], .int .u16 0] (w.alloc (.map #[] 0)) fun e w' => Below w.heap.size w w' ∧ RowV (searchN cs k 0) w e w') := Lib.hid (by
    refine (after_any a k cap w.heap.size cs hk hk12 h16 hab k 0 0 _ (Nat.pow_pos (by omega)) (by omega) (by rw [Nat.zero_add]; exact Nat.pow_le_pow_right (by omega) hk12) (hz.below hb1) hm).mono ?_
    rintro e w' ⟨hg, _, hr⟩
    exact ⟨hb1.trans (below_of_grown hg (Nat.le_refl _) hb1.size), hr.weaken hb1.size⟩)
  obtain ⟨so, hso⟩ : ∃ so, searchN cs k 0 = so := ⟨_, rfl⟩
  rw [hso] at HA ⊢
  clear hz h16 hk hm hab hso
  have hmm := @run_makeMap Try.prog
  cases so with
  | none =>
    go_enter Try.func18, Try.ntmps18
    go_wp2_with (go_at_call 31; refine HA.out.mono ?_; rintro e w' ⟨hb, rfl⟩; have HB := Lib.hid hb; clear hb)
    go_ret2
    exact ⟨HB.out, rfl⟩
  | some r =>
    go_enter Try.func18, Try.ntmps18
    go_wp2_with (go_at_call 31; refine HA.out.mono ?_; rintro e w' ⟨hb, a1, c1, rfl, hl, hrow⟩; have HB := Lib.hid (And.intro hb (And.intro hl hrow)); clear hb hl hrow)
    go_ret2
    exact ⟨HB.out.1, a1, c1, rfl, HB.out.2.1, HB.out.2.2⟩

/-- The first of the sets that contains a number; -1 if there is none. -/
def idxN (rs : List Nat) (v : Nat) : Int := match (List.range rs.length).find? fun i => (atC rs i).testBit v with
  | some i => i
  | none => -1
theorem inner_any (z v bv : Nat) (w : World) (hz : z < 65536) (hv : v < 16) (hc : w.cell? ⟨bv, 0, none⟩ = some (.int .i64 (v : Int))) :
    Calls Try.prog 36 #[.int .u16 z, .pointer (some ⟨bv, 0, none⟩)] w fun e w' => e = .returned (.bool (z.testBit v)) ∧ w = w' := by
  have H1 := Lib.hid (has_any z v w hz hv)
  go_enter Try.func36, Try.ntmps36
  go_wp2_with (go_at_call 28; refine H1.out.mono ?_; rintro e w' ⟨rfl, rfl⟩)
  go_ret
  exact ⟨rfl, rfl⟩

set_option maxRecDepth 100000 in
set_option maxHeartbeats 2000000 in
theorem IndexFunc_any (a : Option Addr) (k cap bv v : Nat) (rs : List Nat) (w : World) (hk : rs.length = k) (hk16 : k ≤ 1000) (h16 : ∀ x ∈ rs, x < 65536) (hv : v < 16) (hz : Sets w a rs) (hcv : w.cell? ⟨bv, 0, none⟩ = some (.int .i64 (v : Int))) :
    Calls Try.prog 35 #[.slice a k cap, .func (.func 36) #[] #[.pointer (some ⟨bv, 0, none⟩)]] w fun e w' => e = .returned (.int .i64 (idxN rs v)) ∧ w = w' := by
  have HZ := Lib.hid hz.at
  have HK := Lib.hid hk
  have HC : Hid (∀ j, atC rs j < 65536) := Lib.hid (atC_lt (by omega) h16)
  have HI := Lib.hid (fun z hz => inner_any z v bv w hz hv hcv)
  have HV : Hid (idxN rs v = match (List.range k).find? fun i => (atC rs i).testBit v with
    | some i => (i : Int)
    | none => -1) := Lib.hid (by rw [idxN, hk])
  clear hz h16 hk hcv
  go_enter Try.func35, Try.ntmps35
  go_wp2
  go_loopw [8, 5] (fun i _ wr => ∃ j : Nat, j ≤ k ∧ i = .int .i64 j ∧ Hid ((List.range j).find? (fun i => (atC rs i).testBit v) = none) ∧ w = wr) (fun i _ _ => k - (intOf i).toNat)
  case atStart => exact ⟨0, Nat.zero_le _, rfl, Lib.hid rfl, rfl⟩
  case round =>
    obtain ⟨j, hj, rfl, HN, rfl⟩ := hrel
    by_cases hlt : j < k
    · rcases HZ.out with h | ⟨bz, oz, rfl, hc⟩
      · have := HK.out; subst h; simp at this; omega
      have c0 := hc j (by rw [HK.out]; exact hlt)
      change _ = some (Value.int IntKind.u16 ((atC rs j : Nat) : Int)) at c0
      have HJ := Lib.hid (HI.out _ (HC.out j))
      have HY := Lib.hid (fun h => find_here (fun i => (atC rs i).testBit v) k j HN.out hlt h)
      have HX := Lib.hid (fun h => find_next (fun i => (atC rs i).testBit v) j HN.out h)
      have hjk : (j : Int) < (k : Int) := by omega
      clear hc
      obtain ⟨z, hz⟩ : ∃ z, atC rs j = z := ⟨_, rfl⟩
      obtain ⟨t, ht⟩ : ∃ t, (atC rs j).testBit v = t := ⟨_, rfl⟩
      simp only [ht] at HY HX
      rw [ht] at HJ
      rw [hz] at c0 HJ
      clear hz ht
      cases t with
      | true =>
        have HY2 := Lib.hid (HY.out rfl)
        clear HY HX
        go_wp2_with (go_at_call 36; refine HJ.out.mono ?_; rintro e w' ⟨rfl, rfl⟩)
        go_ret
        refine ⟨?_, rfl⟩
        rw [HV.out, HY2.out]
        rfl
      | false =>
        have HX2 := Lib.hid (HX.out rfl)
        clear HY HX
        go_wp2_with (go_at_call 36; refine HJ.out.mono ?_; rintro e w' ⟨rfl, rfl⟩)
        go_roundw
        case rel => exact ⟨j + 1, by omega, by go_num, HX2, by trivial⟩
        case measure => simp [intOf]; omega
    · obtain rfl : j = k := by omega
      go_wp2
      go_ret
      refine ⟨?_, rfl⟩
      rw [HV.out, HN.out]
      rfl

/-! ### spansIn -/
theorem Try.infoSpan : (Try.prog.info? 29).map (fun i => (i.zero, i.size, i.bytes)) = some (some (.agg #[.int .i64 0, .int .i64 0]), 2, 16) := by kernel_rfl
theorem zeros_spans (n : Nat) : prCells (List.replicate n ((0 : Int), (0 : Int))) = List.replicate (n * 2) (Value.int .i64 0) := by
  rw [List.eq_replicate_iff]
  refine ⟨by rw [prCells_length, List.length_replicate], fun b hb => ?_⟩
  simp only [prCells, List.mem_flatMap, List.mem_replicate] at hb
  obtain ⟨e, ⟨_, rfl⟩, he⟩ := hb
  simpa using he
theorem made_spans (n : Nat) : madeCells #[Value.int .i64 0, Value.int .i64 0] (n * 2) = (prCells (List.replicate n ((0 : Int), (0 : Int)))).toArray := by
  rw [← Array.toList_inj, zeros_spans, List.eq_replicate_iff]
  refine ⟨by simp [madeCells], fun b hb => ?_⟩
  simp only [madeCells, Array.toList_map, List.mem_map] at hb
  obtain ⟨i, _, rfl⟩ := hb
  have h2 : i % (#[Value.int .i64 0, Value.int .i64 0] : Array Value).size < 2 := Nat.mod_lt _ (by simp)
  obtain ⟨x, hx⟩ : ∃ x, i % (#[Value.int .i64 0, Value.int .i64 0] : Array Value).size = x := ⟨_, rfl⟩
  rw [hx] at h2 ⊢
  match x, h2 with
  | 0, _ => rfl
  | 1, _ => rfl
theorem make_spans (n : Nat) (h : n ≤ 1000) (w : World) :
    (Instr.makeSlice 25 (.int .i64 (n : Int)) (.int .i64 (n : Int))).run Try.prog w = .ok (.slice (some ⟨w.heap.size, 0, none⟩) n n) (w.alloc (.cells (prCells (List.replicate n ((0 : Int), (0 : Int)))).toArray 29)) := by
  obtain ⟨i0, hi, hz0, hz1, hz2⟩ := info_parts Try.infoSpan
  have hr := run_make (P := Try.prog) w 25 29 i0 (.agg #[.int .i64 0, .int .i64 0]) Try.underlying25 hi hz0 .i64 .i64 n n (by omega) (Int.le_refl _) (by rw [hz2]; omega) (by omega)
  rw [hz1, Int.toNat_natCast] at hr
  rw [hr, ← made_spans]
  rfl
/-- A block that holds spans. -/
def RowP (w : World) (g : Nat) (L : List (Int × Int)) : Prop := w.heap[g]? = some (.cells (prCells L).toArray 29 (0, 0))
theorem prCells_set (L : List (Int × Int)) (i : Nat) (p : Int × Int) : prCells (L.set i p) = ((prCells L).set (i * 2) (.int .i64 p.1)).set (i * 2 + 1) (.int .i64 p.2) := by
  induction L generalizing i with
  | nil => simp [prCells]
  | cons e L ih =>
    cases i with
    | zero => simp [prCells]
    | succ i =>
      have := ih i
      simp only [prCells, List.flatMap_cons, List.set_cons_succ, List.cons_append, List.nil_append] at this ⊢
      rw [this, show (i + 1) * 2 = i * 2 + 1 + 1 by omega]
      simp

theorem RowP.at {w : World} {g : Nat} {L : List (Int × Int)} (h : RowP w g L) {i : Nat} (hi : i < L.length) : w.cell? ⟨g, i * 2, none⟩ = some (.int .i64 (L[i]?.getD (0, 0)).1) ∧ w.cell? ⟨g, i * 2 + 1, none⟩ = some (.int .i64 (L[i]?.getD (0, 0)).2) := by
  have hp := prCells_get L i hi
  unfold RowP at h
  exact ⟨by simp [World.cell?, h, hp.1], by simp [World.cell?, h, hp.2]⟩
theorem RowP.free {w : World} {g : Nat} {L : List (Int × Int)} (h : RowP w g L) (j : Nat) : w.frozen? ⟨g, j, none⟩ = false := row_free h j
theorem RowP.put {w : World} {g : Nat} {L : List (Int × Int)} (h : RowP w g L) (i : Nat) (p : Int × Int) : RowP ((w.setCell ⟨g, i * 2, none⟩ (.int .i64 p.1)).setCell ⟨g, i * 2 + 1, none⟩ (.int .i64 p.2)) g (L.set i p) := by
  have h1 := heap_setCell_self (i := i * 2) h (.int .i64 p.1)
  have h2 := heap_setCell_self (i := i * 2 + 1) h1 (.int .i64 p.2)
  unfold RowP
  rw [h2, prCells_set]
  simp
theorem RowP.high {w : World} {g : Nat} {L : List (Int × Int)} (h : RowP w g L) (i : Nat) (z : Int) : RowP (w.setCell ⟨g, i * 2 + 1, none⟩ (.int .i64 z)) g (L.set i ((L[i]?.getD (0, 0)).1, z)) := by
  have h2 := heap_setCell_self (i := i * 2 + 1) h (.int .i64 z)
  unfold RowP
  rw [h2, prCells_set]
  by_cases hi : i < L.length
  · have hp := (prCells_get L i hi).1
    have e : (prCells L).set (i * 2) (.int .i64 (L[i]?.getD (0, 0)).1) = prCells L := by
      have hl : i * 2 < (prCells L).length := by rw [prCells_length]; omega
      rw [List.getElem?_eq_getElem hl] at hp
      have := Option.some.inj hp
      rw [← this, List.set_getElem_self]
    rw [e]
    simp
  · have hl : (prCells L).length ≤ i * 2 := by rw [prCells_length]; omega
    rw [List.set_eq_of_length_le hl]
    simp
theorem RowP.edges {w : World} {g : Nat} {L : List (Int × Int)} (h : RowP w g L) : Edges w (some ⟨g, 0, none⟩) L := .inr ⟨g, 0, rfl, fun i hi => by rw [Nat.zero_add]; exact h.at hi⟩

/-- The last of the sets that contains a number, up to the j-th one. -/
def lastTo (rs : List Nat) (v : Nat) : Nat → Int
  | 0 => idxN rs v
  | j + 1 => if (atC rs j).testBit v = true then (j : Int) else lastTo rs v j
def spanN (rs : List Nat) (v : Nat) : Int × Int := (idxN rs v, lastTo rs v rs.length)
def spansTo (rs : List Nat) (n k : Nat) : List (Int × Int) := (List.range n).map fun v => if v < k then spanN rs v else (0, 0)
theorem spansTo_len (rs : List Nat) (n k : Nat) : (spansTo rs n k).length = n := by simp [spansTo]
theorem spansTo_zero (rs : List Nat) (n : Nat) : spansTo rs n 0 = List.replicate n ((0 : Int), (0 : Int)) := by
  rw [List.eq_replicate_iff]
  exact ⟨spansTo_len rs n 0, fun b hb => by simp [spansTo] at hb; exact hb.2.symm⟩
theorem spansTo_next {rs : List Nat} {n k : Nat} : (spansTo rs n k).set k (spanN rs k) = spansTo rs n (k + 1) := by
  refine List.ext_getElem (by simp [spansTo]) fun i h1 h2 => ?_
  rw [List.getElem_set]
  simp only [spansTo, List.getElem_map, List.getElem_range]
  by_cases e : k = i
  · subst e; simp
  · rw [if_neg e]
    by_cases h : i < k
    · rw [if_pos h, if_pos (by omega)]
    · rw [if_neg h, if_neg (by omega)]

set_option maxRecDepth 100000 in
set_option maxHeartbeats 4000000 in
theorem spansIn_any (a aR : Option Addr) (n cap k cR : Nat) (rs : List Nat) (w : World) (hn : n ≤ 12) (hk : rs.length = k) (hk16 : k ≤ 1000) (h16 : ∀ x ∈ rs, x < 65536) (hz : Sets w aR rs) :
    Calls Try.prog 20 #[.slice a n cap, .slice aR k cR] w fun e w' => e = .returned (.slice (some ⟨w.heap.size, 0, none⟩) n n) ∧ RowP w' w.heap.size (spansTo rs n n) ∧ Below w.heap.size w w' := by
  have HIX := Lib.hid (fun (wx : World) (bv v : Nat) (hb : Below w.heap.size w wx) (hv : v < 16) (hc : wx.cell? ⟨bv, 0, none⟩ = some (.int .i64 (v : Int))) => IndexFunc_any aR k cR bv v rs wx hk hk16 h16 hv (hz.below hb) hc)
  have HZ := Lib.hid hz.at
  have HK := Lib.hid hk
  have HC : Hid (∀ j, atC rs j < 65536) := Lib.hid (atC_lt (by omega) h16)
  have hmk := make_spans n (by omega) w
  have hb0 : Below w.heap.size w (w.alloc (.cells (prCells (spansTo rs n 0)).toArray 29)) := (Below.refl _ w).alloc (Nat.le_refl _) _
  have hr0 : RowP (w.alloc (.cells (prCells (spansTo rs n 0)).toArray 29)) w.heap.size (spansTo rs n 0) := heap_alloc_new w _
  rw [← spansTo_zero rs n] at hmk
  have HR0 := Lib.hid (And.intro hr0 hb0)
  obtain ⟨L0, hL0⟩ : ∃ L0, (prCells (spansTo rs n 0)).toArray = L0 := ⟨_, rfl⟩
  rw [hL0] at hmk HR0
  clear hz h16 hk hb0 hr0 hL0
  go_enter Try.func20, Try.ntmps20
  go_wp2
  go_loopw [15, 6, 7, 8, 9] (fun i _ _ _ _ wr => ∃ j : Nat, j ≤ n ∧ i = .int .i64 j ∧ Hid (RowP wr w.heap.size (spansTo rs n j) ∧ Below w.heap.size w wr) ∧ w.heap.size < wr.heap.size) (fun i _ _ _ _ _ => n - (intOf i).toNat)
  case atStart => exact ⟨0, Nat.zero_le _, rfl, HR0, by simp⟩
  case round =>
    obtain ⟨j, hj, rfl, HR, hsz⟩ := hrel
    by_cases hlt : j < n
    · have HI := Lib.hid (HIX.out (wr.alloc (.cells #[.int .i64 (j : Int)] 3)) wr.heap.size j (HR.out.2.alloc HR.out.2.size _) (by omega) (by simp))
      have HN : Hid ((spansTo rs n j).set j (spanN rs j) = spansTo rs n (j + 1)) := Lib.hid spansTo_next
      have HRA : Hid (RowP (wr.alloc (.cells #[.int .i64 (j : Int)] 3)) w.heap.size (spansTo rs n j)) := Lib.hid ((Below.heap_alloc wr _ _ hsz).trans HR.out.1)
      have hll := spansTo_len rs n j
      have hjn : (j : Int) < (n : Int) := by omega
      have HSP : Hid (spanN rs j = (idxN rs j, lastTo rs j k)) := Lib.hid (by rw [spanN, HK.out])
      have HL0 : Hid (lastTo rs j 0 = idxN rs j) := Lib.hid rfl
      obtain ⟨L, hL⟩ : ∃ L, spansTo rs n j = L := ⟨_, rfl⟩
      rw [hL] at HN HRA hll
      obtain ⟨ix, hix⟩ : ∃ ix, idxN rs j = ix := ⟨_, rfl⟩
      rw [hix] at HI HSP HL0
      obtain ⟨c0, c1⟩ := HRA.out.at (i := j) (by omega)
      have f0 := HRA.out.free (j * 2)
      have f1 := HRA.out.free (j * 2 + 1)
      clear hL
      have cb : (wr.alloc (.cells #[.int .i64 (j : Int)] 3)).cell? ⟨wr.heap.size, 0, none⟩ = some (.int .i64 (j : Int)) := by simp
      have HBA : Hid (Below w.heap.size w (wr.alloc (.cells #[.int .i64 (j : Int)] 3))) := Lib.hid (HR.out.2.alloc HR.out.2.size _)
      go_wp2_with (go_at_call 35; refine HI.out.mono ?_; rintro e w2 ⟨rfl, hw⟩; rw [hw] at c0 c1 f0 f1 HRA cb HBA; clear hw)
      have hr3 := HRA.out.put j (ix, ix)
      have hb3 := (HBA.out.setCell (p := ⟨w.heap.size, j * 2, none⟩) (Nat.le_refl _) (.int .i64 ix)).setCell (p := ⟨w.heap.size, j * 2 + 1, none⟩) (Nat.le_refl _) (.int .i64 ix)
      have hc3 : ((w2.setCell ⟨w.heap.size, j * 2, none⟩ (.int .i64 ix)).setCell ⟨w.heap.size, j * 2 + 1, none⟩ (.int .i64 ix)).cell? ⟨wr.heap.size, 0, none⟩ = some (.int .i64 (j : Int)) := by
        rw [World.cell?_setCell_far _ _ _ _ (by simp; omega), World.cell?_setCell_far _ _ _ _ (by simp; omega)]
        exact cb
      simp only [] at hr3
      generalize (w2.setCell ⟨w.heap.size, j * 2, none⟩ (.int .i64 ix)).setCell ⟨w.heap.size, j * 2 + 1, none⟩ (.int .i64 ix) = w3 at hr3 hb3 hc3 ⊢
      clear c0 c1 f0 f1 cb
      have HS0 : Hid (RowP w3 w.heap.size (L.set j (ix, lastTo rs j 0)) ∧ Below w.heap.size w w3 ∧ w3.cell? ⟨wr.heap.size, 0, none⟩ = some (.int .i64 (j : Int))) := Lib.hid ⟨by rw [HL0.out]; exact hr3, hb3, hc3⟩
      clear hr3 hb3 hc3
      go_loopw [29, 8, 9] (fun i _ _ wi => ∃ c : Nat, c ≤ k ∧ i = .int .i64 c ∧ Hid (RowP wi w.heap.size (L.set j (ix, lastTo rs j c)) ∧ Below w.heap.size w wi ∧ wi.cell? ⟨wr.heap.size, 0, none⟩ = some (.int .i64 (j : Int)))) (fun i _ _ _ => k - (intOf i).toNat)
      case atStart => exact ⟨0, Nat.zero_le _, rfl, HS0⟩
      case round =>
        rename World => w6
        obtain ⟨c, hc, rfl, HI6⟩ := hrel
        have hbx := HI6.out.2.2
        by_cases hltc : c < k
        · rcases HZ.out with h | ⟨bz, oz, rfl, hcz⟩
          · have := HK.out; subst h; simp at this; omega
          have e0 := hcz c (by rw [HK.out]; exact hltc)
          replace e0 := (HI6.out.2.1.cell (p := ⟨bz, oz + c, none⟩) (World.block_lt_of_cell? w _ e0)).trans e0
          change _ = some (Value.int IntKind.u16 ((atC rs c : Nat) : Int)) at e0
          have HH := Lib.hid (fun (wx : World) => has_any (atC rs c) j wx (HC.out c) (by omega))
          have HNL : Hid (lastTo rs j (c + 1) = if (atC rs c).testBit j = true then (c : Int) else lastTo rs j c) := Lib.hid rfl
          have hck : (c : Int) < (k : Int) := by omega
          have hls : (L.set j (ix, lastTo rs j c)).length = n := by rw [List.length_set, hll]
          obtain ⟨g0, g1⟩ := HI6.out.1.at (i := j) (by omega)
          have h1 := HI6.out.1.free (j * 2 + 1)
          have HHI : Hid (∀ z : Int, RowP (w6.setCell ⟨w.heap.size, j * 2 + 1, none⟩ (.int .i64 z)) w.heap.size (L.set j (ix, z))) := Lib.hid (fun z => by
            have := HI6.out.1.high j z
            rwa [show ((L.set j (ix, lastTo rs j c))[j]?.getD (0, 0)).1 = ix by rw [List.getElem?_set_self (by omega)]; rfl, List.set_set] at this)
          obtain ⟨z, hz⟩ : ∃ z, atC rs c = z := ⟨_, rfl⟩
          rw [hz] at e0 HH HNL
          clear hcz hz g0 hls
          cases hbit : z.testBit j with
          | true =>
            rw [hbit, if_pos rfl] at HNL
            rw [hbit] at HH
            clear hbit
            go_wp2_with (go_at_call 28; refine (HH.out _).mono ?_; rintro e w' ⟨rfl, rfl⟩)
            go_roundw
            case rel => exact ⟨c + 1, by omega, by go_num, Lib.hid ⟨by rw [HNL.out]; exact HHI.out _, HI6.out.2.1.setCell (Nat.le_refl _) _, by rw [World.cell?_setCell_far _ _ _ _ (by simp; omega)]; exact hbx⟩⟩
            case measure => simp [intOf]; omega
          | false =>
            rw [hbit, if_neg (by simp)] at HNL
            rw [hbit] at HH
            clear hbit
            go_wp2_with (go_at_call 28; refine (HH.out _).mono ?_; rintro e w' ⟨rfl, rfl⟩)
            go_roundw
            case rel => exact ⟨c + 1, by omega, by go_num, by rw [HNL.out]; exact HI6⟩
            case measure => simp [intOf]; omega
        · obtain rfl : c = k := by omega
          have hsz6 := HI6.out.2.1.size
          have hlt6 := World.block_lt_of_cell? w6 _ hbx
          go_wp2
          go_roundw
          case rel => exact ⟨j + 1, by omega, by go_num, Lib.hid ⟨by rw [← HN.out, HSP.out]; exact HI6.out.1, HI6.out.2.1⟩, by simp at hlt6; omega⟩
          case measure => simp [intOf]; omega
    · obtain rfl : j = n := by omega
      go_wp2
      go_ret
      exact ⟨rfl, HR.out.1, HR.out.2⟩

/-- What 'Spans' hands back of a valid graph. -/
def SpansV (n : Nat) (gs : List Nat) (w : World) (e : Ending) (w' : World) : Prop := Below w.heap.size w w' ∧
  (if (ordI n gs).length < n then e = .returned (.tuple #[.slice none 0 0, .int .i64 5])
   else match searchN (srtN (cliquesN gs)) (srtN (cliquesN gs)).length 0 with
    | none => e = .returned (.tuple #[.slice none 0 0, .int .i64 5])
    | some r => ∃ g, e = .returned (.tuple #[.slice (some ⟨g, 0, none⟩) n n, .int .i64 0]) ∧ w.heap.size ≤ g ∧ RowP w' g (spansTo r n n))

end Go.Proofs.Yteckeobhlfddlaa.Rib
