/-
  Vertices: whether one is valid; its cloth; the walk of slices.Insert of one crease at the front.
-/
import Derived.Test.YteankhgikpejhaaFt
import Derived.Test.YteankhgikpejhaaHc
import Derived.Test.YteankhgikpejhaaJc
import Derived.Lib.Overlaps
import Derived.Lib.AppendZerosOnto
import Derived.Laws.Externs
namespace Go.Proofs.Yteankhgikpejhaa
open Go.RowKit Go.Sort

def vertexB (zs : List Int) : Bool := decide (2 ≤ zs.length) && decide (zs.length ≤ 8) && sizesB zs
theorem vertex_parts {zs : List Int} (h : vertexB zs = true) : 2 ≤ zs.length ∧ zs.length ≤ 8 ∧ sizesB zs = true := by
  simp [vertexB] at h
  exact ⟨h.1.1, h.1.2, h.2⟩

theorem isVertex_any (a : Option Addr) (n cap : Nat) (zs : List Int) (w : World) (hn : zs.length = n) (hm : n ≤ 9223372036854775807) (hz : Ints w a zs) :
    Calls Try.prog 65 #[.slice a n cap] w fun e w' => e = .returned (.bool (vertexB zs)) ∧ w = w' := by
  have hs := areSizes_any a n cap zs w hn hm hz
  have Hs := Lib.hid hs
  clear hs hz
  rcases (by omega : n < 2 ∨ (2 ≤ n ∧ n ≤ 8) ∨ (2 ≤ n ∧ 8 < n)) with h | ⟨h, h'⟩ | ⟨h, h'⟩
  all_goals
    have Hn := Lib.hid hn; clear hn
    go_enter Try.func65, Try.ntmps65
    go_wp2_with (go_at_call 69; refine Hs.out.mono ?_; rintro e w' ⟨rfl, rfl⟩)
    all_goals
      go_ret
      exact ⟨ret_bool (by rw [vertexB, Hn.out]; simp; omega), rfl⟩

theorem Vertex_any (a : Option Addr) (n cap : Nat) (zs : List Int) (w : World) (hn : zs.length = n) (hm : n ≤ 9223372036854775807) (hz : Ints w a zs) :
    Calls Try.prog 35 #[.slice a n cap] w fun e w' => e = .returned (.bool (vertexB zs)) ∧ w = w' := by
  have HS := Lib.hid (Sizes_any a n cap 2 8 zs w hn hm hz)
  have HE : Hid (vertexB zs = (sizesB zs && inB n 2 8)) := Lib.hid (by
    rw [vertexB, inB, hn, Bool.and_comm]
    congr 1
    rw [Bool.eq_iff_iff]
    simp only [Bool.and_eq_true, decide_eq_true_eq]
    omega)
  clear hz hn
  go_enter Try.func35, Try.ntmps35
  go_wp2_with (go_at_call 54; refine HS.out.mono ?_; rintro e w' ⟨rfl, rfl⟩)
  go_ret
  exact ⟨ret_bool HE.out.symm, rfl⟩

/-- Whether a vertex closes. -/
def closesB (zs : List Int) : Bool := decide (zs.length % 2 = 0) && decide (posAt zs zs.length = 0)
/-- What a vertex that closes has: crease 0 joins the last segment and the first one. -/
def vtxCl (zs : List Int) : Cl := ⟨(layCl zs).low, (layCl zs).high, ⟨zs.length - 1, 0, 0⟩ :: (layCl zs).crs⟩
theorem mem_vtx {zs : List Int} {f : Cr} (h : f ∈ (vtxCl zs).crs) : f = ⟨zs.length - 1, 0, 0⟩ ∨ ∃ i, i + 1 < zs.length ∧ f = ⟨i, i + 1, posAt zs (i + 1)⟩ := by
  rcases List.mem_cons.1 h with h | h
  · exact .inl h
  · exact .inr (mem_crs h)
theorem vtx_fair {zs : List Int} (h2 : 2 ≤ zs.length) (hc : posAt zs zs.length = 0) : Fair zs.length (posAt zs) (vtxCl zs) rightS where
  low := (strip_fair zs).low
  high := (strip_fair zs).high
  ends := fun f hf => by
    rcases mem_vtx hf with rfl | ⟨i, hi, rfl⟩
    · exact ⟨by show zs.length - 1 < zs.length; omega, by show 0 < zs.length; omega, by show zs.length - 1 ≠ 0; omega⟩
    · exact ⟨by show i < _; omega, hi, by show i ≠ i + 1; omega⟩
  at1 := fun f hf => by
    rcases mem_vtx hf with rfl | ⟨i, hi, rfl⟩
    · right; show (0 : Int) = posAt zs (zs.length - 1 + 1); rw [show zs.length - 1 + 1 = zs.length by omega, hc]
    · exact .inr rfl
  at2 := fun f hf => by
    rcases mem_vtx hf with rfl | ⟨i, hi, rfl⟩
    · left; rfl
    · exact .inl rfl
  side := fun f _ g _ => by
    simp only [Cr.beside, rightS, Bool.and_eq_true, decide_eq_true_eq, decide_eq_decide]
    omega

/-- copy within rows of elements of any size. -/
theorem run_copy_rows {P : Program} (w : World) (dT sT ty elem : TypeId) (g o dLen dCap k : Nat) (a : Addr) (sLen sCap : Nat) (cur : Array Value) (t : TypeId) (cs : List Value)
    (hu : P.underlying dT = some (.slice elem)) (hs : (P.info? elem).map (·.size) = some k)
    (hg : w.heap[g]? = some (.cells cur t (0, 0))) (hn : cs.length = Nat.min sLen dLen * k)
    (hsrc : ∀ j v, cs[j]? = some v → w.cell? (a.add j) = some v) (hfit : o + cs.length ≤ cur.size) (h1 : ∀ v ∈ cs, v.oneCell' = true) :
    (Builtin.copy_ #[dT, sT] ty #[.slice (some ⟨g, o, none⟩) dLen dCap, .slice (some a) sLen sCap]).run P w =
      .ok (goInt (Nat.min sLen dLen)) (w.setRow g (cur.toList.take o ++ cs ++ cur.toList.drop (o + cs.length)).toArray) := by
  have hl := run_loadCells_list (P := P) w a cs hsrc
  have hst := run_storeCells_at P g o t cs 0 cur w hg (by simpa using hfit) h1
  cases hq : P.info? elem with
  | none => simp [hq] at hs
  | some i =>
    have hi : i.size = k := by simpa [hq] using hs
    simp [Builtin.copy_, run_underlying hu, Builtin.lenOf, Builtin.firstCells, sizeOf, typeInfo, hq, hi, ← hn, hl, hst]


theorem crIs (l : List Cr) : ∀ v ∈ crCells l, v.oneCell' = true := by
  intro v hv
  simp only [crCells, List.mem_flatMap] at hv
  obtain ⟨f, _, hf⟩ := hv
  rcases List.mem_cons.1 hf with rfl | hf
  · rfl
  · rcases List.mem_cons.1 hf with rfl | hf
    · rfl
    · rcases List.mem_cons.1 hf with rfl | hf
      · rfl
      · cases hf
theorem crSize : (Try.prog.info? 101).map (·.size) = some 3 := by
  obtain ⟨i0, hi0, h0, h1, h2⟩ := info_parts Try.infoCr
  rw [hi0]; simp [h1]
theorem crSizeOf (w : World) : (Go.sizeOf 101).run Try.prog w = .ok 3 w := by
  obtain ⟨i0, hi0, h0, h1, h2⟩ := info_parts Try.infoCr
  simp [Go.sizeOf, typeInfo, hi0, h1]
theorem row_cell {w : World} {g : Nat} {cur : List Value} {t : TypeId} (hg : w.heap[g]? = some (.cells cur.toArray t (0, 0))) (i : Nat) (v : Value) (h : cur[i]? = some v) : w.cell? ⟨g, i, none⟩ = some v := by
  rw [cell_of_row' hg]; simpa using h

/-- There is room. -/
theorem insert_room_laws (g bv m cc : Nat) (l : List Cr) (f : Cr) (rest : List Value) (w : World) (hl : l.length = m) (h1 : 1 ≤ m) (hm : m ≤ 9) (hcc : m + 1 ≤ cc) (hrest : m * 3 + rest.length = cc * 3) (hne : bv ≠ g)
    (hg : w.heap[g]? = some (.cells (crCells l ++ rest).toArray 101 (0, 0))) (hb : w.heap[bv]? = some (.cells (crCells [f]).toArray 101 (0, 0))) :
    (∀ lb cb, (callFunc 88 #[.slice (some ⟨bv, 0, none⟩) 1 1, .slice (some ⟨g, 3, none⟩) lb cb]).run Try.prog w = .ok (.value (.bool false)) w) ∧
    ∃ W1 W2 : World, (∀ ty d s, (Builtin.copy_ #[71, 71] ty #[.slice (some ⟨g, 3, none⟩) m d, .slice (some ⟨g, 0, none⟩) (m + 1) s]).run Try.prog w.drew = .ok (goInt m) W1) ∧
      (∀ ty d s, (Builtin.copy_ #[71, 71] ty #[.slice (some ⟨g, 0, none⟩) (m + 1) d, .slice (some ⟨bv, 0, none⟩) 1 s]).run Try.prog W1 = .ok (goInt 1) W2) ∧
      (∃ rest', rest'.length + 3 = rest.length ∧ W2.heap[g]? = some (.cells (crCells (f :: l) ++ rest').toArray 101 (0, 0))) ∧ w.grownBy W2 (some g) := by
  have hlen : (crCells l).length = m * 3 := by rw [crCells_length, hl]
  have hov : ∀ lb cb, (callFunc 88 #[.slice (some ⟨bv, 0, none⟩) 1 1, .slice (some ⟨g, 3, none⟩) lb cb]).run Try.prog w = .ok (.value (.bool false)) w := fun lb cb => by
    rw [run_callFunc_extern Try.func88 (by kernel_rfl) (by kernel_rfl) (by kernel_rfl) (e := Extern.SlicesOverlaps.overlaps #[71, 71] #[4]) (by kernel_rfl),
      Lib.run_overlaps_apart w 71 4 101 Try.underlying71 3 crSizeOf ⟨bv, 0, none⟩ ⟨g, 3, none⟩ 1 1 lb cb hne 101 101 3 (cc * 3) (by simp [World.shape?, hb, crCells]) (by simp [World.shape?, hg, hlen]; omega) (by omega) (by simp [World.frozen?, hb]) (by simp [World.frozen?, hb])]
    rfl
  have hg1 : w.drew.heap[g]? = some (.cells (crCells l ++ rest).toArray 101 (0, 0)) := hg
  have hcp1 := fun ty d s => run_copy_rows (P := Try.prog) w.drew 71 71 ty 101 g 3 m d 3 ⟨g, 0, none⟩ (m + 1) s _ 101 (crCells l) Try.underlying71 crSize hg1
    (by rw [hlen]; congr 1; simp only [Nat.min_def]; split <;> omega) (fun j v hj => by
      have hj' : j < (crCells l).length := (List.getElem?_eq_some_iff.1 hj).1
      have : (⟨g, 0, none⟩ : Addr).add j = ⟨g, j, none⟩ := by unfold Addr.add; split <;> simp_all
      rw [this]
      exact row_cell hg1 j v (by rw [List.getElem?_append_left hj', hj])) (by simp [hlen]; omega) (crIs l)
  have e0 : Nat.min (m + 1) m = m := by simp only [Nat.min_def]; split <;> omega
  obtain ⟨a0, a1, a2, rest1, hr1⟩ : ∃ a0 a1 a2 rest1, rest = a0 :: a1 :: a2 :: rest1 := by
    match rest, hrest with
    | a0 :: a1 :: a2 :: r, _ => exact ⟨a0, a1, a2, r, rfl⟩
    | [a0, a1], h => simp at h; omega
    | [a0], h => simp at h; omega
    | [], h => simp at h; omega
  obtain ⟨W1, hW1⟩ : ∃ W1, w.drew.setRow g ((crCells l ++ rest).toArray.toList.take 3 ++ crCells l ++ (crCells l ++ rest).toArray.toList.drop (3 + (crCells l).length)).toArray = W1 := ⟨_, rfl⟩
  have e1 : (crCells l ++ rest).toArray.toList.drop (3 + (crCells l).length) = rest1 := by
    rw [List.toList_toArray, Nat.add_comm, List.drop_append, List.drop_of_length_le (by omega), show (crCells l).length + 3 - (crCells l).length = 3 by omega, hr1]; rfl
  obtain ⟨b0, b1, b2, hb3⟩ : ∃ b0 b1 b2, (crCells l ++ rest).toArray.toList.take 3 = [b0, b1, b2] := by
    have : ((crCells l ++ rest).toArray.toList.take 3).length = 3 := by rw [List.toList_toArray, List.length_take, List.length_append, hlen]; omega
    match (crCells l ++ rest).toArray.toList.take 3, this with
    | [b0, b1, b2], _ => exact ⟨b0, b1, b2, rfl⟩
  rw [hW1, e0] at hcp1
  rw [e1, hb3] at hW1
  have g1 : W1.heap[g]? = some (.cells ([b0, b1, b2] ++ crCells l ++ rest1).toArray 101 (0, 0)) := by rw [← hW1]; exact setRow_heap w.drew g _ _ _ _ hg1
  have gr1 : w.grownBy W1 (some g) := by rw [← hW1]; exact ⟨rfl, rfl, rfl, by simp [World.setRow], fun k _ hk => setRow_other w.drew g k _ (fun e => hk (by rw [e]))⟩
  have hb1 : W1.heap[bv]? = some (.cells (crCells [f]).toArray 101 (0, 0)) := (gr1.block bv (lt_of_block hb) (fun e => hne (by simpa using e))).trans hb
  have hcp2 := fun ty d s => run_copy_rows (P := Try.prog) W1 71 71 ty 101 g 0 (m + 1) d 3 ⟨bv, 0, none⟩ 1 s _ 101 (crCells [f]) Try.underlying71 crSize g1
    (by rw [crCells_length, show Nat.min 1 (m + 1) = 1 by simp only [Nat.min_def]; split <;> omega]; rfl) (fun j v hj => by
      have : (⟨bv, 0, none⟩ : Addr).add j = ⟨bv, j, none⟩ := by unfold Addr.add; split <;> simp_all
      rw [this]
      exact row_cell hb1 j v hj) (by simp [crCells_length]) (crIs [f])
  have e2 : Nat.min 1 (m + 1) = 1 := by simp only [Nat.min_def]; split <;> omega
  obtain ⟨W2, hW2⟩ : ∃ W2, W1.setRow g (([b0, b1, b2] ++ crCells l ++ rest1).toArray.toList.take 0 ++ crCells [f] ++ ([b0, b1, b2] ++ crCells l ++ rest1).toArray.toList.drop (0 + (crCells [f]).length)).toArray = W2 := ⟨_, rfl⟩
  rw [hW2, e2] at hcp2
  have g2 : W2.heap[g]? = some (.cells (crCells (f :: l) ++ rest1).toArray 101 (0, 0)) := by
    rw [← hW2, setRow_heap W1 g _ _ _ _ g1]
    simp [crCells]
  have gr2 : W1.grownBy W2 (some g) := by rw [← hW2]; exact ⟨rfl, rfl, rfl, by simp [World.setRow], fun k _ hk => setRow_other W1 g k _ (fun e => hk (by rw [e]))⟩
  exact ⟨hov, W1, W2, hcp1, hcp2, ⟨rest1, by rw [hr1]; rfl, g2⟩, World.grownBy.trans gr1 gr2⟩

set_option maxRecDepth 100000 in
set_option maxHeartbeats 1000000 in
theorem insert_room (g bv m cc : Nat) (l : List Cr) (f : Cr) (rest : List Value) (w : World) (hl : l.length = m) (h1 : 1 ≤ m) (hm : m ≤ 9) (hcc : m + 1 ≤ cc) (hcm : cc ≤ maxLen) (hrest : m * 3 + rest.length = cc * 3) (hne : bv ≠ g)
    (hg : w.heap[g]? = some (.cells (crCells l ++ rest).toArray 101 (0, 0))) (hb : w.heap[bv]? = some (.cells (crCells [f]).toArray 101 (0, 0))) :
    Calls Try.prog 78 #[.slice (some ⟨g, 0, none⟩) m cc, .int .i64 0, .slice (some ⟨bv, 0, none⟩) 1 1] w
      fun e w' => e = .returned (.slice (some ⟨g, 0, none⟩) (m + 1) cc) ∧ (∃ rest', rest'.length + 3 = rest.length ∧ w'.heap[g]? = some (.cells (crCells (f :: l) ++ rest').toArray 101 (0, 0))) ∧ w.grownBy w' (some g) := by
  obtain ⟨hov, W1, W2, r1, r2, q1, q2⟩ := insert_room_laws g bv m cc l f rest w hl h1 hm hcc hrest hne hg hb
  have HQ := Lib.hid (And.intro q1 q2)
  have Hov := Lib.hid hov
  have Hcp1 := Lib.hid r1
  have Hcp2 := Lib.hid r2
  unfold maxLen at hcm
  have hz2 : ¬ ((0 : Int) = (m : Int)) := by omega
  have hc1 : ¬ (cc = 1) := by omega
  have hc0 : ¬ (cc = 0) := by omega
  have hb3 : (m : Int) + 1 ≤ (cc : Int) := by omega
  have hb4 : ¬ ((cc : Int) < (m : Int) + 1) := by omega
  have hw1 : IntKind.i64.wrap 1 = 1 := rfl
  have hb5 : (1 : Int) ≤ (m : Int) + 1 := by omega
  have hb6 : (0 : Int) ≤ (m : Int) + 1 := by omega
  clear hov r1 r2 q1 q2 hg hb hrest hl
  go_enter Try.func78, Try.ntmps78
  go_wp2_with (simp only [Hov.out])
  go_region_law (refine step_copy_run rfl (.tmp 73) (.tmp 76) 71 71 rfl (.slice (some ⟨g, 3, none⟩) m (cc - 1)) (.slice (some ⟨g, 0, none⟩) (m + 1) cc) (goInt m) (w' := W1) (by simp [Act.eval, Act.put]) (by simp [Act.eval, Act.put]) (Hcp1.out _ _ _) ?_)
  go_wp2_with (refine wpList_copy_run rfl (.tmp 80) (.tmp 81) 71 71 rfl (.slice (some ⟨g, 0, none⟩) (m + 1) cc) (.slice (some ⟨bv, 0, none⟩) 1 1) (goInt 1) (w' := W2) rfl rfl (Hcp2.out _ _ _) ?_)
  go_ret
  exact ⟨rfl, HQ.out.1, HQ.out.2⟩


theorem zeroCr (k : Nat) : ∃ zs : List Value, Builtin.zeroCells (Value.agg #[.int .i64 0, .int .i64 0, .int .i64 0]).cells k = zs.toArray ∧ zs.length = k * 3 := by
  refine ⟨(Builtin.zeroCells (Value.agg #[.int .i64 0, .int .i64 0, .int .i64 0]).cells k).toList, by simp, ?_⟩
  rw [Array.length_toList, size_zeroCells]; rfl

/-- There is none. -/
theorem insert_grow_laws (g bv m : Nat) (l : List Cr) (f : Cr) (w : World) (hl : l.length = m) (h1 : 1 ≤ m) (hm : m ≤ 9)
    (hsrc : ∀ j v, (crCells l)[j]? = some v → w.cell? ⟨g, j, none⟩ = some v) (hb : w.heap[bv]? = some (.cells (crCells [f]).toArray 101 (0, 0))) :
    ∃ (G : Nat) (W0 W1 W2 : World), m + 1 ≤ G ∧ G ≤ maxLen ∧ (∀ ty, (Builtin.append_ #[71, 3] ty #[.slice (some ⟨g, 0, none⟩) 0 m, .int .i64 ((m : Int) + 1)]).run Try.prog w = .ok (.slice (some ⟨w.heap.size, 0, none⟩) (m + 1) G) W0) ∧
      (∀ ty d s, (Builtin.copy_ #[71, 71] ty #[.slice (some ⟨w.heap.size, 0, none⟩) (m + 1) d, .slice (some ⟨bv, 0, none⟩) 1 s]).run Try.prog W0 = .ok (goInt 1) W1) ∧
      (∀ ty d s, (Builtin.copy_ #[71, 71] ty #[.slice (some ⟨w.heap.size, 3, none⟩) m d, .slice (some ⟨g, 0, none⟩) m s]).run Try.prog W1.drew = .ok (goInt m) W2) ∧
      (∃ rest', rest'.length + (m + 1) * 3 = G * 3 ∧ W2.heap[w.heap.size]? = some (.cells (crCells (f :: l) ++ rest').toArray 101 (0, 0))) ∧ Below w.heap.size w W2 := by
  have hlen : (crCells l).length = m * 3 := by rw [crCells_length, hl]
  obtain ⟨i0, hi0, hz0, hz1, hz2⟩ := info_parts Try.infoCr
  have happ := fun ty => Lib.run_append_grow_zeros (P := Try.prog) w 71 3 ty 101 i0 _ .i64 .i64 Try.underlying71 Try.underlying3 hi0 hz0 (some ⟨g, 0, none⟩) 0 m []
    (by rw [hz1]; exact run_firstCells_some w.drew 3 0 ⟨g, 0, none⟩ 0 m [] rfl (fun j v hj => by simp at hj)) (m + 1) (by omega) (by omega) (by omega) (by omega) (by rw [hz2]; omega) (by rw [hz2]; exact growslice_fits (by omega) (by omega))
  rw [Nat.zero_add] at happ
  obtain ⟨G, hG⟩ : ∃ G, grownCap w (m + 1) m 101 = G := ⟨_, rfl⟩
  have hG1 : m + 1 ≤ G := by rw [← hG]; exact grownCap_ge w (m + 1) m _
  have hG2 : G ≤ maxLen := by rw [← hG]; exact grownCap_le_maxLen w (m + 1) m _ (by unfold maxLen; omega)
  rw [hG] at happ
  obtain ⟨z1, hz1', hl1⟩ := zeroCr (m + 1)
  obtain ⟨z2, hz2', hl2⟩ := zeroCr (G - (m + 1))
  rw [hz1', hz2'] at happ
  obtain ⟨W0, hW0⟩ : ∃ W0, w.drew.alloc (.cells (([] : List Value).toArray ++ z1.toArray ++ z2.toArray) 101) = W0 := ⟨_, rfl⟩
  rw [hW0] at happ
  have g0 : W0.heap[w.heap.size]? = some (.cells (z1 ++ z2).toArray 101 (0, 0)) := by
    rw [← hW0]
    have := heap_alloc_new w.drew (.cells (([] : List Value).toArray ++ z1.toArray ++ z2.toArray) 101)
    simpa using this
  have b0 : Below w.heap.size w W0 := by rw [← hW0]; exact ((Below.refl _ w).drew).alloc (Nat.le_refl _) _
  have hb0 : W0.heap[bv]? = some (.cells (crCells [f]).toArray 101 (0, 0)) := (b0.block bv (lt_of_block hb)).trans hb
  have hcp1 := fun ty d s => run_copy_rows (P := Try.prog) W0 71 71 ty 101 w.heap.size 0 (m + 1) d 3 ⟨bv, 0, none⟩ 1 s _ 101 (crCells [f]) Try.underlying71 crSize g0
    (by rw [crCells_length, show Nat.min 1 (m + 1) = 1 by simp only [Nat.min_def]; split <;> omega]; rfl) (fun j v hj => by
      have : (⟨bv, 0, none⟩ : Addr).add j = ⟨bv, j, none⟩ := by unfold Addr.add; split <;> simp_all
      rw [this]
      exact row_cell hb0 j v hj) (by simp [crCells_length]; omega) (crIs [f])
  have e1 : Nat.min 1 (m + 1) = 1 := by simp only [Nat.min_def]; split <;> omega
  obtain ⟨x0, x1, x2, r1, hr1⟩ : ∃ x0 x1 x2 r1, z1 ++ z2 = x0 :: x1 :: x2 :: r1 := by
    have : 3 ≤ (z1 ++ z2).length := by rw [List.length_append]; omega
    match z1 ++ z2, this with
    | a :: b :: c :: r, _ => exact ⟨a, b, c, r, rfl⟩
    | [a, b], h => simp at h
    | [a], h => simp at h
    | [], h => simp at h
  have hr1l : r1.length + 3 = G * 3 := by
    have := congrArg List.length hr1
    rw [List.length_append] at this
    simp at this
    omega
  obtain ⟨W1, hW1⟩ : ∃ W1, W0.setRow w.heap.size ((z1 ++ z2).toArray.toList.take 0 ++ crCells [f] ++ (z1 ++ z2).toArray.toList.drop (0 + (crCells [f]).length)).toArray = W1 := ⟨_, rfl⟩
  rw [hW1, e1] at hcp1
  have g1 : W1.heap[w.heap.size]? = some (.cells (crCells [f] ++ r1).toArray 101 (0, 0)) := by
    rw [← hW1, setRow_heap W0 w.heap.size _ _ _ _ g0, hr1]
    simp [crCells]
  have b1 : Below w.heap.size w W1 := by rw [← hW1]; exact below_setRow b0 (Nat.le_refl _) _
  have b1d : Below w.heap.size w W1.drew := Below.drew b1
  have hcp2 := fun ty d s => run_copy_rows (P := Try.prog) W1.drew 71 71 ty 101 w.heap.size 3 m d 3 ⟨g, 0, none⟩ m s _ 101 (crCells l) Try.underlying71 crSize (show W1.drew.heap[w.heap.size]? = _ from g1)
    (by rw [hlen, show Nat.min m m = m from Nat.min_self m]) (fun j v hj => by
      have : (⟨g, 0, none⟩ : Addr).add j = ⟨g, j, none⟩ := by unfold Addr.add; split <;> simp_all
      rw [this]
      have hc := hsrc j v hj
      exact (b1d.cell (p := ⟨g, j, none⟩) (World.block_lt_of_cell? w _ hc)).trans hc) (by simp [hlen, crCells_length]; omega) (crIs l)
  have e2 : Nat.min m m = m := Nat.min_self m
  obtain ⟨W2, hW2⟩ : ∃ W2, W1.drew.setRow w.heap.size ((crCells [f] ++ r1).toArray.toList.take 3 ++ crCells l ++ (crCells [f] ++ r1).toArray.toList.drop (3 + (crCells l).length)).toArray = W2 := ⟨_, rfl⟩
  rw [hW2, e2] at hcp2
  have g2 : W2.heap[w.heap.size]? = some (.cells (crCells (f :: l) ++ r1.drop (m * 3)).toArray 101 (0, 0)) := by
    rw [← hW2, setRow_heap W1.drew w.heap.size _ _ _ _ (show W1.drew.heap[w.heap.size]? = _ from g1), hlen, Nat.add_comm 3]
    simp [crCells]
  have b2 : Below w.heap.size w W2 := by rw [← hW2]; exact below_setRow b1d (Nat.le_refl _) _
  exact ⟨G, W0, W1, W2, hG1, hG2, happ, hcp1, hcp2, ⟨r1.drop (m * 3), by rw [List.length_drop]; omega, g2⟩, b2⟩

set_option maxRecDepth 100000 in
set_option maxHeartbeats 1000000 in
theorem insert_grow (g bv m : Nat) (l : List Cr) (f : Cr) (w : World) (hl : l.length = m) (h1 : 1 ≤ m) (hm : m ≤ 9)
    (hsrc : ∀ j v, (crCells l)[j]? = some v → w.cell? ⟨g, j, none⟩ = some v) (hb : w.heap[bv]? = some (.cells (crCells [f]).toArray 101 (0, 0))) :
    Calls Try.prog 78 #[.slice (some ⟨g, 0, none⟩) m m, .int .i64 0, .slice (some ⟨bv, 0, none⟩) 1 1] w
      fun e w' => ∃ G, e = .returned (.slice (some ⟨w.heap.size, 0, none⟩) (m + 1) G) ∧ (m + 1 ≤ G ∧ G ≤ maxLen) ∧ (∃ rest', rest'.length + (m + 1) * 3 = G * 3 ∧ w'.heap[w.heap.size]? = some (.cells (crCells (f :: l) ++ rest').toArray 101 (0, 0))) ∧ Below w.heap.size w w' := by
  obtain ⟨G, W0, W1, W2, hG1, hG2, r0, r1, r2, q1, q2⟩ := insert_grow_laws g bv m l f w hl h1 hm hsrc hb
  have HQ := Lib.hid (And.intro q1 (And.intro q2 (And.intro hG1 hG2)))
  have Happ := Lib.hid r0
  have Hcp1 := Lib.hid r1
  have Hcp2 := Lib.hid r2
  unfold maxLen at hG2
  have hz2 : ¬ ((0 : Int) = (m : Int)) := by omega
  have hw1 : IntKind.i64.wrap 1 = 1 := rfl
  have hb5 : (1 : Int) ≤ (m : Int) + 1 := by omega
  have hm0 : ¬ (m = 0) := by omega
  have hG0 : ¬ (G = 1) := by omega
  have hG3 : ¬ (G = 0) := by omega
  clear r0 r1 r2 q1 q2 hsrc hb hl
  go_enter Try.func78, Try.ntmps78
  go_wp2_with (first
    | (at_builtin; refine Lib.wpList_append_run _ rfl (.tmp 34) (.tmp 39) 71 3 rfl (.slice (some ⟨g, 0, none⟩) 0 m) (.int .i64 ((m : Int) + 1)) rfl rfl _ _ (Happ.out _) ?_)
    | (refine wpList_copy_run rfl (.tmp 43) (.tmp 44) 71 71 rfl (.slice (some ⟨w.heap.size, 0, none⟩) (m + 1) G) (.slice (some ⟨bv, 0, none⟩) 1 1) (goInt 1) (w' := W1) rfl rfl (Hcp1.out _ _ _) ?_))
  go_region_law (refine step_copy_run rfl (.tmp 50) (.tmp 53) 71 71 rfl (.slice (some ⟨w.heap.size, 3, none⟩) m (G - 1)) (.slice (some ⟨g, 0, none⟩) m m) (goInt m) (w' := W2) (by simp [Act.eval, Act.put]) (by simp [Act.eval, Act.put]) (Hcp2.out _ _ _) ?_)
  go_wp2
  go_ret
  exact ⟨G, rfl, HQ.out.2.2, HQ.out.1, HQ.out.2.1⟩


theorem insert_any (base bv m cc : Nat) (ac : Option Addr) (l : List Cr) (f : Cr) (w : World) (hl : l.length = m) (h1 : 1 ≤ m) (hm : m ≤ 9) (hown : w.ownsRow base 101 3 (.slice ac m cc) m (crCells l)) (hbase : base ≤ w.heap.size)
    (hb : w.heap[bv]? = some (.cells (crCells [f]).toArray 101 (0, 0))) (hne : ∀ q, ac = some q → q.block ≠ bv) :
    Calls Try.prog 78 #[.slice ac m cc, .int .i64 0, .slice (some ⟨bv, 0, none⟩) 1 1] w
      fun e w' => ∃ g c, e = .returned (.slice (some ⟨g, 0, none⟩) (m + 1) c) ∧ w'.ownsRow base 101 3 (.slice (some ⟨g, 0, none⟩) (m + 1) c) (m + 1) (crCells (f :: l)) ∧ w.grownBy w' (Value.slice ac m cc).ownBlock := by
  have hlf : (crCells (f :: l)).length = (m + 1) * 3 := by rw [crCells_length, List.length_cons, hl]
  rcases hown.2 with ⟨e, h0⟩ | ⟨g, c, cur, e, hbg, hg, hc1, hc2, hc3, hc4⟩
  · omega
  · cases e
    have hlen : (crCells l).length = m * 3 := by rw [crCells_length, hl]
    have hcur : cur = (crCells l ++ cur.toList.drop (m * 3)).toArray := by
      rw [← Array.toList_inj, List.toList_toArray]
      try rw [hlen] at hc4
      conv => lhs; rw [← List.take_append_drop (m * 3) cur.toList, hc4]
    by_cases hroom : m + 1 ≤ cc
    · have hbg' : bv ≠ g := fun e => hne _ rfl e.symm
      refine (insert_room g bv m cc l f (cur.toList.drop (m * 3)) w hl h1 hm hroom hc2 (by rw [List.length_drop, Array.length_toList, hc3]; omega) hbg' (by rw [← hcur]; exact hg) hb).mono ?_
      rintro e w' ⟨rfl, ⟨r', hr', hrow⟩, hgr⟩
      refine ⟨g, cc, rfl, ⟨hlf, .inr ⟨g, cc, _, rfl, hbg, hrow, hroom, hc2, ?_, ?_⟩⟩, hgr⟩
      · rw [List.size_toArray, List.length_append, hlf]
        have : (cur.toList.drop (m * 3)).length = cc * 3 - m * 3 := by rw [List.length_drop, Array.length_toList, hc3]
        omega
      · rw [List.toList_toArray, ← hlf, List.take_left]
    · have hce : cc = m := by omega
      subst hce
      refine (insert_grow g bv cc l f w hl h1 hm (fun j v hj => ?_) hb).mono ?_
      · have hj' : j < (crCells l).length := (List.getElem?_eq_some_iff.1 hj).1
        rw [hcur] at hg
        exact row_cell hg j v (by rw [List.getElem?_append_left hj', hj])
      · rintro e w' ⟨G, rfl, ⟨g1, g2⟩, ⟨r', hr', hrow⟩, hbl⟩
        refine ⟨w.heap.size, G, rfl, ⟨hlf, .inr ⟨w.heap.size, G, _, rfl, hbase, hrow, g1, g2, ?_, ?_⟩⟩, ⟨hbl.os, hbl.tape, hbl.output, hbl.size, fun k hk _ => hbl.block k hk⟩⟩
        · rw [List.size_toArray, List.length_append, hlf]; omega
        · rw [List.toList_toArray, ← hlf, List.take_left]

/-- What 'clothOfVertex' hands back. -/
def VtxPost (zs : List Int) (w : World) (e : Ending) (w' : World) : Prop := Below w.heap.size w w' ∧
  (match closesB zs with
   | true => ∃ v, e = .returned (.tuple #[v, .bool true]) ∧ ClothV w' w.heap.size (vtxCl zs) v
   | false => ∃ v, e = .returned (.tuple #[v, .bool false]))

end Go.Proofs.Yteankhgikpejhaa
