/-
  The walk of 'colors'.
-/
import Derived.Test.YthlbedhjekbfpaaDoorZg
import Derived.Test.YthlbedhjekbfpaaDoorWg
import Derived.Shelf.RegionOpen
namespace Go.Proofs.YthlbedhjekbfpaaDoor
open Go.RowKit Go.Sort Go.Shelf
attribute [local go_sem] Oper.semAt_some

theorem madeN_ints (n : Nat) : madeCells #[Value.int .i64 0] n = (List.replicate n (Value.int .i64 0)).toArray := by
  rw [← Array.toList_inj, toList_madeCells_one]
theorem makeN_ints (n : Nat) (h : n ≤ 1000) (w : World) :
    (Instr.makeSlice 26 (.int .i64 (n : Int)) (.int .i64 (n : Int))).run Tryd.prog w = .ok (.slice (some ⟨w.heap.size, 0, none⟩) n n) (w.alloc (.cells (List.replicate n (Value.int .i64 0)).toArray 3)) := by
  obtain ⟨i0, hi, hz0, hz1, hz2⟩ := info_parts Tryd.info3
  have hr := run_make (P := Tryd.prog) w 26 3 i0 (.int .i64 0) Tryd.underlying26 hi hz0 .i64 .i64 n n (by omega) (Int.le_refl _) (by rw [hz2]; omega) (by omega)
  rw [hz1, Nat.mul_one, Int.toNat_natCast] at hr
  rw [hr, ← madeN_ints]
  rfl
/-- The colours as cells. -/
def clCells (cl : List Nat) : List Value := cl.map fun (x : Nat) => Value.int .i64 x
/-- What the loop of 'colors' keeps in its own blocks. -/
def CK (B : Nat) (a : Option Addr) (n cap : Nat) (st : List Nat × Nat) (W : World) : Prop :=
  W.heap[B]? = some (.cells #[.slice a n cap] 60 (0, 0)) ∧ W.heap[B + 1]? = some (.cells (clCells st.1).toArray 3 (0, 0)) ∧
    W.heap[B + 1 + 1]? = some (.cells #[.slice (some ⟨B + 1, 0, none⟩) n n] 26 (0, 0)) ∧ W.heap[B + 1 + 1 + 1]? = some (.cells #[.int .u16 st.2] 67 (0, 0))
theorem cells_kept {A B : World} {row : Option Nat} {k : Nat} {cs : Array Value} {t : TypeId} {fr : Nat × Nat} (h : A.heap[k]? = some (.cells cs t fr)) (hg : A.grownBy B row) (hr : ∀ r, row = some r → ∃ o : Obj, A.heap[r]? = some o ∧ o.isCells = false) : B.heap[k]? = some (.cells cs t fr) :=
  (hg.block k (Array.getElem?_eq_some_iff.1 h).1 (fun e => by obtain ⟨o, ho, hc⟩ := hr k e.symm; rw [h] at ho; cases ho; cases hc)).trans h
theorem CK.kept {B : Nat} {a : Option Addr} {n cap : Nat} {st : List Nat × Nat} {W W' : World} {row : Option Nat} (h : CK B a n cap st W) (hg : W.grownBy W' row) (hr : ∀ r, row = some r → ∃ o : Obj, W.heap[r]? = some o ∧ o.isCells = false) : CK B a n cap st W' :=
  ⟨cells_kept h.1 hg hr, cells_kept h.2.1 hg hr, cells_kept h.2.2.1 hg hr, cells_kept h.2.2.2 hg hr⟩
theorem CK.below {B : Nat} {a : Option Addr} {n cap : Nat} {st : List Nat × Nat} {W W' : World} (h : CK B a n cap st W) (hb : Below W.heap.size W W') : CK B a n cap st W' := by
  obtain ⟨h1, h2, h3, h4⟩ := h
  exact ⟨(hb.block _ (Array.getElem?_eq_some_iff.1 h1).1).trans h1, (hb.block _ (Array.getElem?_eq_some_iff.1 h2).1).trans h2, (hb.block _ (Array.getElem?_eq_some_iff.1 h3).1).trans h3, (hb.block _ (Array.getElem?_eq_some_iff.1 h4).1).trans h4⟩
theorem CK.color {B : Nat} {a : Option Addr} {n cap : Nat} {st : List Nat × Nat} {W : World} (h : CK B a n cap st W) {u : Nat} (hu : u < st.1.length) : W.cell? ⟨B + 1, u, none⟩ = some (.int .i64 ((st.1[u]?.getD 0 : Nat) : Int)) := by
  simp [World.cell?, h.2.1, clCells, hu]
theorem CK.row {B : Nat} {a : Option Addr} {n cap : Nat} {st : List Nat × Nat} {W : World} (h : CK B a n cap st W) : W.cell? ⟨B + 1 + 1, 0, none⟩ = some (.slice (some ⟨B + 1, 0, none⟩) n n) := by simp [World.cell?, h.2.2.1]
theorem CK.set {B : Nat} {a : Option Addr} {n cap : Nat} {st : List Nat × Nat} {W : World} (h : CK B a n cap st W) : W.cell? ⟨B + 1 + 1 + 1, 0, none⟩ = some (.int .u16 ((st.2 : Nat) : Int)) := by simp [World.cell?, h.2.2.2]
theorem setOf_1 (y : Nat) (hy : y < 16) (wx : World) : Calls Tryd.prog 57 #[.slice (some ⟨wx.heap.size, 0, none⟩) 1 1] (wx.alloc (.cells #[.int .i64 (y : Int)] 3)) fun e w' => e = .returned (.int .u16 ((2 ^ y : Nat) : Int)) ∧ (wx.alloc (.cells #[.int .i64 (y : Int)] 3)) = w' := by
  have := setOf_any (some ⟨wx.heap.size, 0, none⟩) 1 1 [y] (wx.alloc (.cells #[.int .i64 (y : Int)] 3)) rfl (by omega) (by simp; omega) (fun i hi => ⟨wx.heap.size, 0, rfl, by
    have : i = 0 := by simpa using hi
    subst this
    show (wx.alloc (.cells #[.int .i64 (y : Int)] 3)).cell? _ = _
    exact World.cell?_alloc_at _ _ _ _ rfl⟩)
  rwa [show setN' [y] = 2 ^ y by simp [setN']] at this
theorem CK.paint {B : Nat} {a : Option Addr} {n cap : Nat} {cl : List Nat} {C : Nat} {W : World} (h : CK B a n cap (cl, C) W) (v t : Nat) : CK B a n cap (cl.set v t, C) (W.setCell ⟨B + 1, v, none⟩ (.int .i64 (t : Int))) := by
  obtain ⟨h1, h2, h3, h4⟩ := h
  refine ⟨(Below.heap_setCell W _ _ _ (by show B ≠ B + 1; omega)).trans h1, ?_, (Below.heap_setCell W _ _ _ (by show B + 1 + 1 ≠ B + 1; omega)).trans h3, (Below.heap_setCell W _ _ _ (by show B + 1 + 1 + 1 ≠ B + 1; omega)).trans h4⟩
  rw [heap_setCell_self h2]
  simp [clCells]
theorem CK.cover {B : Nat} {a : Option Addr} {n cap : Nat} {cl : List Nat} {C : Nat} {W : World} (h : CK B a n cap (cl, C) W) (D : Nat) : CK B a n cap (cl, D) (W.setCell ⟨B + 1 + 1 + 1, 0, none⟩ (.int .u16 (D : Int))) := by
  obtain ⟨h1, h2, h3, h4⟩ := h
  refine ⟨(Below.heap_setCell W _ _ _ (by show B ≠ B + 1 + 1 + 1; omega)).trans h1, (Below.heap_setCell W _ _ _ (by show B + 1 ≠ B + 1 + 1 + 1; omega)).trans h2, (Below.heap_setCell W _ _ _ (by show B + 1 + 1 ≠ B + 1 + 1 + 1; omega)).trans h3, ?_⟩
  rw [heap_setCell_self h4]
  simp
theorem keeps_below {W W' : World} (h : Below W.heap.size W W') : KeepsOthers W W' := ⟨h.size, fun k _ hk _ => (h.block k (Array.getElem?_eq_some_iff.1 hk).1).trans hk⟩
theorem KpB.below {n₀ Bs : Nat} {W W' : World} (hn : n₀ ≤ W.heap.size) (hB : Bs < W.heap.size) (h : Below W.heap.size W W') : KpB n₀ Bs W W' := ⟨h.mono hn, h.block _ hB⟩
theorem KpB.setCell {n₀ Bs : Nat} (W : World) (p : Addr) (v : Value) (h1 : n₀ ≤ p.block) (h2 : Bs ≠ p.block) : KpB n₀ Bs W (W.setCell p v) := ⟨(Below.refl _ _).setCell h1 v, Below.heap_setCell W p v Bs h2⟩
theorem KpB.drew {n₀ Bs : Nat} {A W : World} (h : KpB n₀ Bs A W) : KpB n₀ Bs A W.drew := ⟨h.1.drew, h.2⟩
/-- What a stretch of the round keeps. -/
structure Keeps (n₀ Bs : Nat) (W W' : World) : Prop where
  others : KeepsOthers W W'
  kp : KpB n₀ Bs W W'
  size : W.heap.size ≤ W'.heap.size
theorem Keeps.trans {n₀ Bs : Nat} {A B C : World} (h : Keeps n₀ Bs A B) (k : Keeps n₀ Bs B C) : Keeps n₀ Bs A C := ⟨h.others.trans k.others, h.kp.trans k.kp, Nat.le_trans h.size k.size⟩
theorem Keeps.below {n₀ Bs : Nat} {W W' : World} (hn : n₀ ≤ W.heap.size) (hB : Bs < W.heap.size) (h : Below W.heap.size W W') : Keeps n₀ Bs W W' := ⟨keeps_below h, KpB.below hn hB h, h.size⟩
theorem Keeps.setCell {n₀ Bs : Nat} (W : World) (p : Addr) (v : Value) (h1 : n₀ ≤ p.block) (h2 : Bs ≠ p.block) : Keeps n₀ Bs W (W.setCell p v) := ⟨KeepsOthers.setCell _ _ _, KpB.setCell W p v h1 h2, by show _ ≤ (W.heap.modify _ _).size; rw [Array.size_modify]; exact Nat.le_refl _⟩
theorem Keeps.drew {n₀ Bs : Nat} {A W : World} (h : Keeps n₀ Bs A W) : Keeps n₀ Bs A W.drew := ⟨h.others.trans (KeepsOthers.drew _), h.kp.drew, h.size⟩
theorem CK.drew {B : Nat} {a : Option Addr} {n cap : Nat} {st : List Nat × Nat} {W : World} (h : CK B a n cap st W) : CK B a n cap st W.drew := h
theorem xor_full {T : Nat} (hT : T < 65536) : bits .xor .u16 IntKind.u16.max (T : Int) = ((65535 - T : Nat) : Int) := by
  rw [show IntKind.u16.max = ((65535 : Nat) : Int) by decide, u16_xor_nat _ _ (by decide) hT]
  congr 1
  refine Nat.eq_of_testBit_eq fun i => ?_
  rw [Nat.testBit_xor, testBit_comp hT, show (65535 : Nat) = 2 ^ 16 - 1 by decide, Nat.testBit_two_pow_sub_one]
  by_cases hi : i < 16
  · rw [decide_eq_true hi]; simp
  · have : T.testBit i = false := by
      rw [Bool.eq_false_iff]; intro e
      exact hi (bit_lt (n := 16) hT e)
    rw [decide_eq_false hi, this]; rfl
theorem ints_block {W : World} {g : Nat} {cl : List Nat} (h : W.heap[g]? = some (.cells (clCells cl).toArray 3 (0, 0))) : Ints W (some ⟨g, 0, none⟩) (cl.map fun (x : Nat) => (x : Int)) := fun i hi => by
  have hi' : i < cl.length := by simpa using hi
  exact ⟨g, 0, rfl, by simp [World.cell?, h, clCells, hi']⟩
/-- What the call hands back. -/
def ColV (n : Nat) (cl : List Nat) (w : World) (e : Ending) (w' : World) : Prop := ∃ g, e = .returned (.slice (some ⟨g, 0, none⟩) n n) ∧ Ints w' (some ⟨g, 0, none⟩) (cl.map fun (x : Nat) => (x : Int)) ∧ Below w.heap.size w w'

set_option maxRecDepth 100000 in
set_option maxHeartbeats 4000000 in
theorem colors_any (a : Option Addr) (n cap : Nat) (gs : List Nat) (bL oL : Nat) (cL : Nat) (L : List Nat) (w : World) (hn : gs.length = n) (h1 : 1 ≤ n) (hm : n ≤ 12) (hg : ∀ i, i < n → gs[i]?.getD 0 < 65536) (hs : Sets w a gs) (hL : ∀ v ∈ L, v < n) (hl : L.length ≤ 1000)
    (hz : ∀ j, j < L.length → w.cell? ⟨bL, oL + j, none⟩ = some (.int .i64 ((L[j]?.getD 0 : Nat) : Int))) (hbL : bL < w.heap.size) (hT : TabW w) :
    Calls Tryd.prog 42 #[.slice a n cap, .slice (some ⟨bL, oL, none⟩) L.length cL] w (ColV n (colTo gs n L.reverse).1 w) := by
  have h12 : ∀ i : Nat, L[i]?.getD 0 < n := fun i => by
    by_cases hi : i < L.length
    · rw [List.getElem?_eq_getElem hi]; exact hL _ (List.getElem_mem hi)
    · rw [List.getElem?_eq_none (by omega)]; exact h1
  have hmk := fun w => makeN_ints n (by omega) w
  have HT := Lib.hid hT
  refine (callsIn_wide (n := 5)).1 ?_
  refine callsIn_of_wp_marks Tryd.func42 rfl trivial ?_ rfl
  simp only [Tryd.ntmps42, List.size_toArray, List.length_cons, List.length_nil, Nat.reduceAdd, Nat.reduceSub, Array.replicate_succ, Array.replicate_zero, List.push_toArray, List.append_toArray, List.nil_append, List.cons_append]
  gi_wp2_with (refine ⟨trivial, ?_⟩; gi_at_call 61; refine (callsIn_wide.2 (backward_any _ _ _ _)).mono ?_; rintro e w2 ⟨rfl, rfl⟩)
  obtain ⟨w0, hw0⟩ : ∃ w0, (((((w.alloc (.cells #[.slice a n cap] 60)).alloc (.cells (Array.replicate n (.int .i64 0)) 3)).alloc (.cells #[.slice (some ⟨w.heap.size + 1, 0, none⟩) n n] 26)).alloc (.cells #[.int .u16 0] 67)).alloc (.cells #[.slice (some ⟨bL, oL, none⟩) L.length cL] 26)) = w0 := ⟨_, rfl⟩
  have hsz : w0.heap.size = w.heap.size + 1 + 1 + 1 + 1 + 1 := by rw [← hw0]; simp
  have hb0 : Below w.heap.size w w0 := by rw [← hw0]; exact (((((Below.refl _ w).alloc (Nat.le_refl _) _).alloc (by simp only [sz_alloc]; omega) _).alloc (by simp only [sz_alloc]; omega) _).alloc (by simp only [sz_alloc]; omega) _).alloc (by simp only [sz_alloc]; omega) _
  have hbx : w0.cell? ⟨w.heap.size + 1 + 1 + 1 + 1, 0, none⟩ = some (.slice (some ⟨bL, oL, none⟩) L.length cL) := by
    rw [← hw0]
    exact World.cell?_alloc_at _ _ _ _ (by simp only [sz_alloc])
  have hck : CK w.heap.size a n cap (colTo gs n []) w0 := by
    rw [← hw0]
    refine ⟨?_, ?_, ?_, ?_⟩
    · exact ((((Below.heap_alloc _ _ _ (by simp only [sz_alloc]; omega)).trans (Below.heap_alloc _ _ _ (by simp only [sz_alloc]; omega))).trans (Below.heap_alloc _ _ _ (by simp only [sz_alloc]; omega))).trans (Below.heap_alloc _ _ _ (by simp only [sz_alloc]; omega))).trans (heap_alloc_new w _)
    · refine (((Below.heap_alloc _ _ _ (by simp only [sz_alloc]; omega)).trans (Below.heap_alloc _ _ _ (by simp only [sz_alloc]; omega))).trans (Below.heap_alloc _ _ _ (by simp only [sz_alloc]; omega))).trans ?_
      have := heap_alloc_new (w.alloc (.cells #[.slice a n cap] 60)) (.cells (Array.replicate n (.int .i64 0)) 3)
      rw [sz_alloc] at this
      rw [this]
      simp [clCells, colTo]
    · refine ((Below.heap_alloc _ _ _ (by simp only [sz_alloc]; omega)).trans (Below.heap_alloc _ _ _ (by simp only [sz_alloc]; omega))).trans ?_
      have := heap_alloc_new ((w.alloc (.cells #[.slice a n cap] 60)).alloc (.cells (Array.replicate n (.int .i64 0)) 3)) (.cells #[.slice (some ⟨w.heap.size + 1, 0, none⟩) n n] 26)
      rw [sz_alloc, sz_alloc] at this
      exact this
    · refine (Below.heap_alloc _ _ _ (by simp only [sz_alloc]; omega)).trans ?_
      have := heap_alloc_new (((w.alloc (.cells #[.slice a n cap] 60)).alloc (.cells (Array.replicate n (.int .i64 0)) 3)).alloc (.cells #[.slice (some ⟨w.heap.size + 1, 0, none⟩) n n] 26)) (.cells #[.int .u16 0] 67)
      rw [sz_alloc, sz_alloc, sz_alloc] at this
      exact this
  rw [hw0]
  clear hw0 hmk
  refine wpIn_rangeFunc_ownF rfl (by omega) (gf := 80) (lb := #[.pointer (some ⟨w.heap.size + 1 + 1 + 1 + 1, 0, none⟩)]) rfl trivial (enters_of Tryd.func80 (by kernel_rfl) rfl)
    (back_stops w0 (5 - 1) (by omega) (w.heap.size + 1 + 1 + 1 + 1) w.heap.size bL oL cL L h12 hl hbL (by omega) (by omega) hbx (fun j hj => (hb0.cell (p := ⟨bL, oL + j, none⟩) hbL).trans (hz j hj)))
    KpB.trans (KpB.putObj (by omega) (by omega)) (Below.refl _ _) (fun _ => rfl)
    (fun (pre : List (BkE n)) W => (CK w.heap.size a n cap (colTo gs n (bkN pre)) W ∧ w0.heap.size ≤ W.heap.size) ∧ Below w.heap.size w W) (fun _ _ _ => False)
    (OwnFrom.and (Own.from (I := fun (pre : List (BkE n)) W => CK w.heap.size a n cap (colTo gs n (bkN pre)) W ∧ w0.heap.size ≤ W.heap.size) (fun s A B row h hg hr => ⟨CK.kept h.1 hg hr, Nat.le_trans h.2 hg.size⟩) _) (ownFrom_below (Nat.le_refl _) (by omega))) (fun _ _ _ _ _ h _ _ => h) ⟨⟨hck, Nat.le_refl _⟩, hb0⟩
    (fun x => { tmps := #[.slice a n cap, .slice (some ⟨bL, oL, none⟩) L.length cL, .pointer (some ⟨w.heap.size, 0, none⟩), undef, .slice none 0 0, .pointer (some ⟨w.heap.size + 1 + 1, 0, none⟩), .pointer (some ⟨w.heap.size + 1 + 1 + 1, 0, none⟩), undef, .int .i64 x.1.2, undef, undef, undef, .slice a n cap, .int .i64 n, .slice (some ⟨w.heap.size + 1, 0, none⟩) n n, .slice (some ⟨bL, oL, none⟩) L.length cL, .func (.func 80) #[] #[.pointer (some ⟨w.heap.size + 1 + 1 + 1 + 1, 0, none⟩)], .int .i64 x.1.1, .int .i64 x.1.2, undef, undef, undef, undef, undef, undef, undef, undef, undef, undef, undef, undef, undef, undef, undef, undef, undef, undef, undef, undef, undef, undef, undef, undef, undef, undef, undef, undef, undef, undef, undef, undef, undef], defers := [] }) ?assign ?body ?done ?stop
  case assign =>
    intro l x W K hK
    unfold bkEnc
    gi_wp2
    simpa using hK
  case stop =>
    rintro D c pre W _ _ h _
    exact h.elim
  case done =>
    rintro D ys W hD rfl ⟨⟨hc, _⟩, hB⟩ hK
    rw [bkTo_nodes] at hc
    have c0 : W.cell? ⟨w.heap.size + 1 + 1, 0, none⟩ = some (.slice (some ⟨w.heap.size + 1, 0, none⟩) n n) := by simp [World.cell?, hc.2.2.1]
    gi_wp2
    refine ⟨by simp, .inl ⟨_, _, rfl, run_takeDeferred hK, ?_⟩⟩
    refine ⟨_, results_tmp rfl _ _ _, w.heap.size + 1, rfl, ints_block ((World.putObj_heap_other (by omega)).trans hc.2.1), hB.trans (belowK_b (w := w) (Nat.le_refl _) W D _ _ (by omega) hK rfl rfl)⟩
  case body =>
    rintro l pre ⟨⟨ix, v⟩, hv⟩ W ⟨⟨hc, hsW⟩, hB⟩ hlen
    simp only [] at hv
    have hgv := hg v hv
    obtain ⟨bg, og, rfl, hgc⟩ := hs v (by omega)
    have c1 := (hB.cell (p := ⟨bg, og + v, none⟩) (World.block_lt_of_cell? w _ hgc)).trans hgc
    have hcl := col_len gs n (bkN pre)
    have hc16 := col_lt gs n (bkN pre)
    have hC := col_set (gs := gs) (n := n) (bkN pre) (fun u hu => Nat.lt_of_lt_of_le (bkN_lt pre u hu) (by omega))
    have HBN : Hid (∀ u, (colTo gs n (bkN pre)).2.testBit u = true → u < n) := Lib.hid (fun u hu => bkN_lt pre u ((col_bits gs n (bkN pre) u).1 hu))
    have hstep := colTo_snoc gs n (bkN pre) v
    unfold colStep at hstep
    obtain ⟨st, hst⟩ : ∃ st, colTo gs n (bkN pre) = st := ⟨_, rfl⟩
    rw [hst] at hc hcl hc16 hC hstep HBN
    obtain ⟨cl, C⟩ := st
    simp only [] at hcl hc16 hC hstep HBN
    obtain ⟨gv, hgv'⟩ : ∃ gv, gs[v]?.getD 0 = gv := ⟨_, rfl⟩
    rw [hgv'] at hgv c1 hstep
    have c0 : W.cell? ⟨w.heap.size, 0, none⟩ = some (.slice (some ⟨bg, og, none⟩) n cap) := by simp [World.cell?, hc.1]
    have c2 : W.cell? ⟨w.heap.size + 1 + 1 + 1, 0, none⟩ = some (.int .u16 C) := by simp [World.cell?, hc.2.2.2]
    have hsC : gv &&& C < 65536 := Nat.lt_of_le_of_lt Nat.and_le_left hgv
    have HLI : Hid (∀ wx : World, Calls Tryd.prog 52 #[.int .u16 (bits .and .u16 (gv : Int) (C : Int))] wx (GivesN ((listN (gv &&& C)).map fun (x : Nat) => (x : Int)) wx)) := Lib.hid (fun (wx : World) => by rw [u16_and_nat _ _ hgv hC]; exact list_any (gv &&& C) wx hsC)
    have hvn : (v : Int) < (n : Int) := by omega
    have HCK := Lib.hid (And.intro hc hB)
    have HST := Lib.hid hstep
    clear hc hB hstep hst hgv' hgc hL hz
    have hmx : Tryd.prog.follows .mixedOrders = true := by kernel_rfl
    obtain ⟨K, hK⟩ : ∃ K, (listN (gv &&& C)).length = K := ⟨_, rfl⟩
    gi_wp2
    obtain ⟨Q6, hQ6⟩ : ∃ Q6 : Exit → Act → World → Prop, Q6 = fun e a' w' => e = .normal ∧ ∃ (u19 u20 u21 u22 u23 u24 : Value) (a3 : Option Addr) (c3 : Nat), a' = { tmps := #[.slice (some ⟨bg, og, none⟩) n cap, .slice (some ⟨bL, oL, none⟩) L.length cL, .pointer (some ⟨w.heap.size, 0, none⟩), undef, .slice none 0 0, .pointer (some ⟨w.heap.size + 1 + 1, 0, none⟩), .pointer (some ⟨w.heap.size + 1 + 1 + 1, 0, none⟩), undef, .int .i64 v, .int .u16 0, undef, undef, .slice (some ⟨bg, og, none⟩) n cap, .int .i64 n, .slice (some ⟨w.heap.size + 1, 0, none⟩) n n, .slice (some ⟨bL, oL, none⟩) L.length cL, .func (.func 80) #[] #[.pointer (some ⟨w.heap.size + 1 + 1 + 1 + 1, 0, none⟩)], .int .i64 ix, .int .i64 v, u19, u20, u21, u22, u23, u24, .slice a3 K c3, .int .i64 K, .int .i64 0, undef, undef, undef, undef, undef, undef, undef, undef, undef, undef, undef, undef, undef, undef, undef, undef, undef, undef, undef, undef, undef, undef, undef, undef], defers := [] } ∧ Below W.heap.size W w' ∧ Ints w' a3 ((listN (gv &&& C)).map fun (x : Nat) => (x : Int)) := ⟨_, rfl⟩
    have HQ6 := Lib.hid hQ6
    clear hQ6
    refine wpIn_mono (Q := Q6) ?_ ?_
    · gi_region_with_o (refine ⟨trivial, ?_⟩; gi_at_call 52; refine (CallsIn.inRound l (callsIn_wide.2 (HLI.out _))).mono ?_; rintro e w3 ⟨a3, c3, rfl, hcoll⟩)
      all_goals rw [HQ6.out]
      all_goals exact ⟨rfl, _, _, _, _, _, _, a3, c3, rfl, ((Below.refl _ W).drew).trans hcoll.1, Ints.of_owns hcoll.2.2⟩
    · rw [HQ6.out]
      rintro e a' w3 ⟨rfl, u19, u20, u21, u22, u23, u24, a3, c3, rfl, hb3, hi3⟩
      have hKl : (listN (gv &&& C)).length ≤ 12 := listN_len _
      obtain ⟨Ls, hLs⟩ : ∃ Ls, listN (gv &&& C) = Ls := ⟨_, rfl⟩
      rw [hLs] at hi3 hK HST hKl
      have HLs : Hid (∀ u ∈ Ls, u < n) := Lib.hid (fun u hu => by
        rw [← hLs, listN_bit, Nat.testBit_and, Bool.and_eq_true] at hu
        have := HBN.out u hu.2.2
        exact this)
      have HI3 := Lib.hid (And.intro hi3 hb3)
      have HKL := Lib.hid hK
      clear hi3 hb3 hK hLs HLI c0 c1 c2
      gi_wp2
      gi_loopw [27, 9, 11] (fun i tk _ wr => ∃ k : Nat, k ≤ K ∧ i = .int .i64 k ∧ tk = .int .u16 ((takN cl (Ls.take k) : Nat) : Int) ∧ Hid (Below w3.heap.size w3 wr)) (fun i _ _ _ => K - (intOf i).toNat)
      case atStart => exact ⟨0, Nat.zero_le _, rfl, rfl, Lib.hid (Below.refl _ _)⟩
      case round =>
        obtain ⟨k, hk, rfl, rfl, HW⟩ := hrel
        by_cases hlt : k < K
        · have hkL : k < Ls.length := by rw [HKL.out]; exact hlt
          obtain ⟨b3, o3, rfl, hc3⟩ := HI3.out.1 k (by simpa using hkL)
          have e3 := (HW.out.cell (p := ⟨b3, o3 + k, none⟩) (World.block_lt_of_cell? w3 _ hc3)).trans hc3
          have hun := HLs.out _ (List.getElem_mem hkL)
          have hgt : ((Ls.map fun (x : Nat) => (x : Int))[k]?.getD 0) = ((Ls[k] : Nat) : Int) := by rw [List.getElem?_map, List.getElem?_eq_getElem hkL]; rfl
          rw [hgt] at e3
          have HBw := HI3.out.2.trans (HW.out.mono HI3.out.2.size)
          have ck := HCK.out.1.below HBw
          have e5 := ck.row
          have e6 := ck.color (u := Ls[k]) (by show _ < cl.length; rw [hcl]; exact hun)
          have hy16 := hc16 Ls[k]
          simp only [] at e6
          have HTN : Hid (takN cl (Ls.take (k + 1)) = takN cl (Ls.take k) ||| 2 ^ (cl[Ls[k]]?.getD 0)) := Lib.hid (by rw [List.take_succ_eq_append_getElem hkL, takN_snoc])
          have HTL := Lib.hid (takN_lt cl (Ls.take k) hc16)
          obtain ⟨u, hu⟩ : ∃ u, Ls[k] = u := ⟨_, rfl⟩
          rw [hu] at e3 hun e6 hy16 HTN
          obtain ⟨y, hy⟩ : ∃ y, cl[u]?.getD 0 = y := ⟨_, rfl⟩
          rw [hy] at e6 hy16 HTN
          have HP2 : Hid (2 ^ y < 65536) := Lib.hid (Nat.pow_lt_pow_right (m := y) (n := 16) (by omega) (by omega))
          have HSO := Lib.hid (fun (wx : World) => setOf_1 y hy16 wx)
          have hkK : (k : Int) < (K : Int) := by omega
          have huI : (u : Int) < (n : Int) := by omega
          clear hc3 hgt HBw ck hu hy
          gi_wp2_with (refine ⟨trivial, ?_⟩; gi_at_call 57; refine (CallsIn.inRound l (callsIn_wide.2 (HSO.out _))).mono ?_; rintro e w4 ⟨rfl, rfl⟩)
          go_roundw
          case rel => exact ⟨k + 1, by omega, by go_num, by rw [HTN.out, ← u16_or_nat _ _ HTL.out HP2.out, Int.natCast_pow]; rfl, Lib.hid (HW.out.alloc HW.out.size _)⟩
          case measure => simp [intOf]; omega
        · obtain rfl : k = K := by omega
          have htk : Ls.take k = Ls := List.take_of_length_le (by rw [HKL.out]; exact Nat.le_refl _)
          rw [htk]
          have HBw := HI3.out.2.trans (HW.out.mono HI3.out.2.size)
          have ck := HCK.out.1.below HBw
          have e5 := ck.row
          have e8 := ck.set
          have f1 : wr.frozen? ⟨w.heap.size + 1, v, none⟩ = false := row_free ck.2.1 v
          have e6 := ck.color (u := v) (by show _ < cl.length; rw [hcl]; exact hv)
          simp only [] at e6 e8
          have HT16 : takN cl Ls < 65536 := takN_lt cl Ls hc16
          have HTW := HT.out.next (HCK.out.2.trans (HBw.mono HCK.out.2.size))
          have HLE : Hid (∀ wx : World, Below wr.heap.size wr wx → Calls Tryd.prog 62 #[.int .u16 (bits .xor .u16 IntKind.u16.max ((takN cl Ls : Nat) : Int))] wx fun e w' => e = .returned (.int .i64 ((tzN (65535 - takN cl Ls) : Nat) : Int)) ∧ wx = w') := Lib.hid (fun wx hx => by rw [xor_full HT16]; exact least_any _ wx (by omega) (HTW.next hx))
          obtain ⟨t, ht⟩ : ∃ t, tzN (65535 - takN cl Ls) = t := ⟨_, rfl⟩
          rw [ht] at HLE HST
          obtain ⟨tk, htk'⟩ : ∃ tk, takN cl Ls = tk := ⟨_, rfl⟩
          rw [htk'] at HLE ⊢
          have HSZ : Hid (w.heap.size + 1 + 1 + 1 + 1 + 1 ≤ W.heap.size) := Lib.hid (by omega)
          have HK1 : Hid (Keeps w.heap.size (w.heap.size + 1 + 1 + 1 + 1) W wr) := Lib.hid (Keeps.below (by have := HSZ.out; omega) (by have := HSZ.out; omega) HBw)
          have HC5 := Lib.hid ck
          clear ck HBw HI3 HW HTW ht htk' htk HLs HKL
          gi_wp2
          obtain ⟨Q11, hQ11⟩ : ∃ Q11 : Exit → Act → World → Prop, Q11 = fun e a' w' => e = .normal ∧ ∃ (u9 u11 u19 u20 u21 u22 u23 u24 u25 u26 u27 u28 u29 u30 u31 u32 u33 u34 u35 u36 u37 u38 u39 u40 u41 u42 u43 u44 u45 : Value), a' = { tmps := #[.slice (some ⟨bg, og, none⟩) n cap, .slice (some ⟨bL, oL, none⟩) L.length cL, .pointer (some ⟨w.heap.size, 0, none⟩), undef, .slice none 0 0, .pointer (some ⟨w.heap.size + 1 + 1, 0, none⟩), .pointer (some ⟨w.heap.size + 1 + 1 + 1, 0, none⟩), undef, .int .i64 v, u9, undef, u11, .slice (some ⟨bg, og, none⟩) n cap, .int .i64 n, .slice (some ⟨w.heap.size + 1, 0, none⟩) n n, .slice (some ⟨bL, oL, none⟩) L.length cL, .func (.func 80) #[] #[.pointer (some ⟨w.heap.size + 1 + 1 + 1 + 1, 0, none⟩)], .int .i64 ix, .int .i64 v, u19, u20, u21, u22, u23, u24, u25, u26, u27, u28, u29, u30, u31, u32, u33, u34, u35, u36, u37, u38, u39, u40, u41, u42, u43, u44, u45, undef, undef, undef, undef, undef, undef], defers := [] } ∧ CK w.heap.size (some ⟨bg, og, none⟩) n cap (cl.set v t, C) w' ∧ Keeps w.heap.size (w.heap.size + 1 + 1 + 1 + 1) W w' := ⟨_, rfl⟩
          have HQ11 := Lib.hid hQ11
          clear hQ11
          refine wpIn_mono (Q := Q11) ?_ ?_
          · gi_region_with_o (refine ⟨trivial, ?_⟩; gi_at_call 62; refine (CallsIn.inRound l (callsIn_wide.2 (HLE.out _ ((Below.refl _ _).drew)))).mono ?_; rintro e w' ⟨rfl, rfl⟩)
            all_goals rw [HQ11.out]
            all_goals exact ⟨rfl, _, _, _, _, _, _, _, _, _, _, _, _, _, _, _, _, _, _, _, _, _, _, _, _, _, _, _, _, _, rfl, (HC5.out.paint v t).drew, (HK1.out.trans (Keeps.setCell wr _ _ (by show w.heap.size ≤ w.heap.size + 1; omega) (by show w.heap.size + 1 + 1 + 1 + 1 ≠ w.heap.size + 1; omega))).drew⟩
          · rw [HQ11.out]
            rintro e a' w5 ⟨rfl, u9, u11, u19, u20, u21, u22, u23, u24, u25, u26, u27, u28, u29, u30, u31, u32, u33, u34, u35, u36, u37, u38, u39, u40, u41, u42, u43, u44, u45, rfl, hc5, hk5⟩
            have HC6 := Lib.hid hc5
            have HK6 := Lib.hid hk5
            have e8 := hc5.set
            have f8 : w5.frozen? ⟨w.heap.size + 1 + 1 + 1, 0, none⟩ = false := row_free hc5.2.2.2 0
            simp only [] at e8
            have HSO := Lib.hid (fun (wx : World) => setOf_one v (by omega) wx)
            have hs5 : w.heap.size + 1 + 1 + 1 < w5.heap.size := World.block_lt_of_cell? w5 _ e8
            have HP2 : Hid (2 ^ v < 65536) := Lib.hid (Nat.pow_lt_pow_right (m := v) (n := 16) (by omega) (by omega))
            have HFC : Hid (CK w.heap.size (some ⟨bg, og, none⟩) n cap (colTo gs n (bkN (pre ++ [⟨(ix, v), hv⟩]))) ((w5.setCell ⟨w.heap.size + 1 + 1 + 1, 0, none⟩ (.int .u16 (bits .or .u16 (C : Int) (2 ^ v)))).alloc (.cells #[.int .i64 (v : Int)] 3)).drew) := Lib.hid (by
              rw [bkN_snoc, HST.out]
              have h := HC6.out.cover (C ||| 2 ^ v)
              rw [← u16_or_nat C (2 ^ v) hC HP2.out, Int.natCast_pow] at h
              exact (h.below ((Below.refl _ _).alloc (Nat.le_refl _) _)).drew)
            have HFK : Hid (Keeps w.heap.size (w.heap.size + 1 + 1 + 1 + 1) W ((w5.setCell ⟨w.heap.size + 1 + 1 + 1, 0, none⟩ (.int .u16 (bits .or .u16 (C : Int) (2 ^ v)))).alloc (.cells #[.int .i64 (v : Int)] 3)).drew) := Lib.hid (by
              have h5 := HK6.out.size
              have h6 := HSZ.out
              have h7 := Keeps.setCell (n₀ := w.heap.size) (Bs := w.heap.size + 1 + 1 + 1 + 1) w5 ⟨w.heap.size + 1 + 1 + 1, 0, none⟩ (.int .u16 (bits .or .u16 (C : Int) (2 ^ v))) (by show w.heap.size ≤ w.heap.size + 1 + 1 + 1; omega) (by show w.heap.size + 1 + 1 + 1 + 1 ≠ w.heap.size + 1 + 1 + 1; omega)
              have h8 := h7.size
              exact ((HK6.out.trans h7).trans (Keeps.below (by omega) (by omega) ((Below.refl _ _).alloc (Nat.le_refl _) _))).drew)
            clear hc5 hk5
            gi_wp2
            gi_region_with_o (refine ⟨trivial, ?_⟩; gi_at_call 57; refine (CallsIn.inRound l (callsIn_wide.2 (HSO.out _))).mono ?_; rintro e w' ⟨rfl, rfl⟩)
            all_goals gi_wp2
            all_goals exact ⟨HFK.out.others, HFK.out.kp, ⟨HFC.out, Nat.le_trans hsW HFK.out.size⟩, HCK.out.2.trans HFK.out.kp.1⟩

end Go.Proofs.YthlbedhjekbfpaaDoor
