/-
  strap: permutations as lists of numbers: the walks of 'areStrands', 'check', 'identity', 'exchange', 'then', 'inverse'.
-/
import Derived.Test.YtbcggbmjbljnfaaRa
import Derived.Deep.RegionLaw
import Derived.Laws.BitsLemmas
namespace Go.Proofs.Ytbcggbmjbljnfaa
open Go.RowKit Go.Sort

/-! ### Pure -/
def idN (n : Nat) : List Nat := List.range n
def exchN (n k : Nat) : List Nat := ((List.range n).set (k - 1) k).set k (k - 1)
def thenN (p q : List Nat) : List Nat := p.map fun x => q[x]?.getD 0
/-- The inverse, number by number. -/
def invStep (p : List Nat) (r : List Nat) (i : Nat) : List Nat := r.set (p[i]?.getD 0) i
def invTo (p : List Nat) (k : Nat) : List Nat := (List.range k).foldl (invStep p) (List.replicate p.length 0)
theorem invTo_succ (p : List Nat) (k : Nat) : invTo p (k + 1) = invStep p (invTo p k) k := by simp [invTo, List.range_succ, List.foldl_append]
theorem invTo_len (p : List Nat) : ∀ k, (invTo p k).length = p.length
  | 0 => by simp [invTo]
  | k + 1 => by rw [invTo_succ, invStep, List.length_set, invTo_len p k]
/-- A list of n numbers below n. -/
def InN (n : Nat) (p : List Nat) : Prop := p.length = n ∧ ∀ x ∈ p, x < n
theorem InN.at {n : Nat} {p : List Nat} (h : InN n p) {i : Nat} (hi : i < n) : p[i]?.getD 0 < n := by
  rw [List.getElem?_eq_getElem (by rw [h.1]; exact hi), Option.getD_some]
  exact h.2 _ (List.getElem_mem _)
/-- A row of numbers in a block of its own. -/
def natC (p : List Nat) : Array Value := (p.map fun (x : Nat) => Value.int .i64 x).toArray
def RowN (w : World) (g : Nat) (p : List Nat) : Prop := w.heap[g]? = some (.cells (natC p) 3 (0, 0))
theorem RowN.at {w : World} {g : Nat} {p : List Nat} (h : RowN w g p) {i : Nat} (hi : i < p.length) : w.cell? ⟨g, i, none⟩ = some (.int .i64 ((p[i]?.getD 0 : Nat) : Int)) := by
  unfold RowN natC at h
  simp [World.cell?, h, hi]
theorem RowN.free {w : World} {g : Nat} {p : List Nat} (h : RowN w g p) (j : Nat) : w.frozen? ⟨g, j, none⟩ = false := row_free h j
theorem RowN.put {w : World} {g : Nat} {p : List Nat} (h : RowN w g p) (i v : Nat) : RowN (w.setCell ⟨g, i, none⟩ (.int .i64 (v : Int))) g (p.set i v) := by
  unfold RowN at h ⊢
  rw [heap_setCell_self h]
  simp [natC]
theorem RowN.new (w : World) (p : List Nat) : RowN (w.alloc (.cells (natC p) 3)) w.heap.size p := heap_alloc_new w _
theorem RowN.lt {w : World} {g : Nat} {p : List Nat} (h : RowN w g p) : g < w.heap.size := (Array.getElem?_eq_some_iff.1 h).1
theorem RowN.below {w w' : World} {g : Nat} {p : List Nat} (h : RowN w g p) (hb : Below w.heap.size w w') : RowN w' g p := (hb.block g h.lt).trans h
/-- Numbers, read. -/
def Nats (w : World) (a : Option Addr) (p : List Nat) : Prop := ∀ i, i < p.length → ∃ b off, a = some ⟨b, off, none⟩ ∧ w.cell? ⟨b, off + i, none⟩ = some (.int .i64 ((p[i]?.getD 0 : Nat) : Int))
theorem Nats.at {w : World} {a : Option Addr} {p : List Nat} (h : Nats w a p) : p = [] ∨ ∃ b off, a = some ⟨b, off, none⟩ ∧ ∀ i, i < p.length → w.cell? ⟨b, off + i, none⟩ = some (.int .i64 ((p[i]?.getD 0 : Nat) : Int)) := by
  cases p with
  | nil => exact .inl rfl
  | cons x p =>
    obtain ⟨b, off, rfl, _⟩ := h 0 (by simp)
    refine .inr ⟨b, off, rfl, fun i hi => ?_⟩
    obtain ⟨b', off', e, hc⟩ := h i hi
    cases e
    exact hc
theorem Nats.below {w w' : World} {a : Option Addr} {p : List Nat} (h : Nats w a p) (hb : Below w.heap.size w w') : Nats w' a p := fun i hi => by
  obtain ⟨b, off, e, hc⟩ := h i hi
  exact ⟨b, off, e, (hb.cell (p := ⟨b, off + i, none⟩) (World.block_lt_of_cell? w _ hc)).trans hc⟩
theorem RowN.nats {w : World} {g : Nat} {p : List Nat} (h : RowN w g p) : Nats w (some ⟨g, 0, none⟩) p := fun i hi => ⟨g, 0, rfl, by rw [Nat.zero_add]; exact h.at hi⟩

theorem madeN (n : Nat) : madeCells #[Value.int .i64 0] n = natC (List.replicate n 0) := by
  rw [← Array.toList_inj, toList_madeCells_one]
  simp [natC]
theorem make_perm (n : Nat) (h : n ≤ 1000) (w : World) :
    (Instr.makeSlice 80 (.int .i64 (n : Int)) (.int .i64 (n : Int))).run Try.prog w = .ok (.slice (some ⟨w.heap.size, 0, none⟩) n n) (w.alloc (.cells (natC (List.replicate n 0)) 3)) := by
  obtain ⟨i0, hi, hz0, hz1, hz2⟩ := info_parts Try.info3
  have hr := run_make (P := Try.prog) w 80 3 i0 (.int .i64 0) Try.underlying80 hi hz0 .i64 .i64 n n (by omega) (Int.le_refl _) (by rw [hz2]; omega) (by omega)
  rw [hz1, Nat.mul_one, Int.toNat_natCast] at hr
  rw [hr, ← madeN]
  rfl
/-- A permutation that is handed back in a block of its own. -/
def GivesP (p : List Nat) (w : World) (e : Ending) (w' : World) : Prop := ∃ g, e = .returned (.slice (some ⟨g, 0, none⟩) p.length p.length) ∧ w.heap.size ≤ g ∧ RowN w' g p ∧ Below w.heap.size w w'

theorem areStrands_any (n : Int) (w : World) : Calls Try.prog 63 #[.int .i64 n] w fun e w' => e = .returned (.bool (decide (2 ≤ n) && decide (n ≤ 8))) ∧ w = w' := by
  by_cases h1 : 2 ≤ n <;> by_cases h2 : n ≤ 8
  all_goals
    go_enter Try.func63, Try.ntmps63
    go_wp2
    go_ret
    exact ⟨ret_bool (by simp [h1, h2]), rfl⟩

/-- A row that is filled from the front. -/
def fillTo (f : Nat → Nat) (n k : Nat) : List Nat := (List.range n).map fun i => if i < k then f i else 0
theorem fillTo_len (f : Nat → Nat) (n k : Nat) : (fillTo f n k).length = n := by simp [fillTo]
theorem fillTo_zero (f : Nat → Nat) (n : Nat) : fillTo f n 0 = List.replicate n 0 := by
  rw [List.eq_replicate_iff]
  exact ⟨fillTo_len f n 0, fun b hb => by simp [fillTo] at hb; exact hb.2.symm⟩
theorem fillTo_next (f : Nat → Nat) {n k : Nat} : (fillTo f n k).set k (f k) = fillTo f n (k + 1) := by
  refine List.ext_getElem (by simp [fillTo]) fun i h1 h2 => ?_
  rw [List.getElem_set]
  simp only [fillTo, List.getElem_map, List.getElem_range]
  by_cases e : k = i
  · subst e; simp
  · rw [if_neg e]
    by_cases h : i < k
    · rw [if_pos h, if_pos (by omega)]
    · rw [if_neg h, if_neg (by omega)]
theorem fillTo_all (f : Nat → Nat) (n : Nat) : fillTo f n n = (List.range n).map f := List.map_congr_left fun i hi => by rw [if_pos (List.mem_range.1 hi)]
theorem idN_fill (n : Nat) : fillTo (fun i => i) n n = idN n := by rw [fillTo_all, idN]; simp
theorem thenN_fill (p q : List Nat) : fillTo (fun i => q[p[i]?.getD 0]?.getD 0) p.length p.length = thenN p q := by
  rw [fillTo_all, thenN]
  refine List.ext_getElem (by simp) fun i h1 h2 => ?_
  have hi : i < p.length := by simpa using h1
  simp [hi]

set_option maxRecDepth 100000 in
set_option maxHeartbeats 2000000 in
theorem identity_any (n : Nat) (w : World) (hn : n ≤ 1000) : Calls Try.prog 81 #[.int .i64 (n : Int)] w (GivesP (idN n) w) := by
  have hmk := make_perm n hn w
  have HR0 : Hid (RowN (w.alloc (.cells (natC (List.replicate n 0)) 3)) w.heap.size (fillTo (fun i => i) n 0) ∧ Below w.heap.size w (w.alloc (.cells (natC (List.replicate n 0)) 3))) := Lib.hid ⟨by rw [fillTo_zero]; exact RowN.new w _, (Below.refl _ w).alloc (Nat.le_refl _) _⟩
  go_enter Try.func81, Try.ntmps81
  go_wp2
  go_loopw [9, 4] (fun i _ wr => ∃ k : Nat, k ≤ n ∧ i = .int .i64 k ∧ Hid (RowN wr w.heap.size (fillTo (fun i => i) n k) ∧ Below w.heap.size w wr)) (fun i _ _ => n - (intOf i).toNat)
  case atStart => exact ⟨0, Nat.zero_le _, rfl, HR0⟩
  case round =>
    obtain ⟨k, hk, rfl, HR⟩ := hrel
    by_cases hlt : k < n
    · have hkn : (k : Int) < (n : Int) := by omega
      have c0 := HR.out.1.at (i := k) (by rw [fillTo_len]; exact hlt)
      have f0 := HR.out.1.free k
      have HN := Lib.hid (fillTo_next (fun i => i) (n := n) (k := k))
      have HP := Lib.hid (HR.out.1.put k k)
      go_wp2
      go_roundw
      case rel => exact ⟨k + 1, by omega, by go_num, Lib.hid ⟨by rw [← HN.out]; exact HP.out, HR.out.2.setCell (p := ⟨w.heap.size, k, none⟩) (Nat.le_refl _) _⟩⟩
      case measure => simp [intOf]; omega
    · obtain rfl : k = n := by omega
      go_wp2
      go_ret
      have h := HR.out.1
      rw [idN_fill] at h
      exact ⟨w.heap.size, by rw [idN, List.length_range]; rfl, Nat.le_refl _, h, HR.out.2⟩

set_option maxRecDepth 100000 in
set_option maxHeartbeats 2000000 in
theorem then_any (a b : Option Addr) (n cp cq : Nat) (p q : List Nat) (w : World) (hp : InN n p) (hq : q.length = n) (hn : n ≤ 1000) (hza : Nats w a p) (hzb : Nats w b q) :
    Calls Try.prog 84 #[.slice a n cp, .slice b n cq] w (GivesP (thenN p q) w) := by
  have hmk := make_perm n hn w
  have HA := Lib.hid hza.at
  have HB := Lib.hid hzb.at
  have HPN := Lib.hid (fun (i : Nat) (hi : i < n) => hp.at hi)
  have HPL := Lib.hid hp.1
  have HQL := Lib.hid hq
  have HR0 : Hid (RowN (w.alloc (.cells (natC (List.replicate n 0)) 3)) w.heap.size (fillTo (fun i => q[p[i]?.getD 0]?.getD 0) n 0) ∧ Below w.heap.size w (w.alloc (.cells (natC (List.replicate n 0)) 3))) := Lib.hid ⟨by rw [fillTo_zero]; exact RowN.new w _, (Below.refl _ w).alloc (Nat.le_refl _) _⟩
  clear hza hzb hp hq
  go_enter Try.func84, Try.ntmps84
  go_wp2
  go_loopw [12, 6] (fun i _ wr => ∃ k : Nat, k ≤ n ∧ i = .int .i64 k ∧ Hid (RowN wr w.heap.size (fillTo (fun i => q[p[i]?.getD 0]?.getD 0) n k) ∧ Below w.heap.size w wr)) (fun i _ _ => n - (intOf i).toNat)
  case atStart => exact ⟨0, Nat.zero_le _, rfl, HR0⟩
  case round =>
    obtain ⟨k, hk, rfl, HR⟩ := hrel
    by_cases hlt : k < n
    · have hkn : (k : Int) < (n : Int) := by omega
      have c0 := HR.out.1.at (i := k) (by rw [fillTo_len]; exact hlt)
      have f0 := HR.out.1.free k
      have HN := Lib.hid (fillTo_next (fun i => q[p[i]?.getD 0]?.getD 0) (n := n) (k := k))
      rcases HA.out with h | ⟨ba, oa, rfl, hca⟩
      · have := HPL.out; rw [h] at this; simp at this; omega
      rcases HB.out with h | ⟨bb, ob, rfl, hcb⟩
      · have := HQL.out; rw [h] at this; simp at this; omega
      have hx := HPN.out k hlt
      have c1 := (HR.out.2.cell (p := ⟨ba, oa + k, none⟩) (World.block_lt_of_cell? w _ (hca k (by rw [HPL.out]; exact hlt)))).trans (hca k (by rw [HPL.out]; exact hlt))
      obtain ⟨x, hx'⟩ : ∃ x, p[k]?.getD 0 = x := ⟨_, rfl⟩
      rw [hx'] at hx c1 HN
      have c2 := (HR.out.2.cell (p := ⟨bb, ob + x, none⟩) (World.block_lt_of_cell? w _ (hcb x (by rw [HQL.out]; exact hx)))).trans (hcb x (by rw [HQL.out]; exact hx))
      have HP := Lib.hid (HR.out.1.put k (q[x]?.getD 0))
      obtain ⟨y, hy⟩ : ∃ y, q[x]?.getD 0 = y := ⟨_, rfl⟩
      simp only [hx', hy] at c2 HN HP
      have hxn : (x : Int) < (n : Int) := by omega
      clear hca hcb
      go_wp2
      go_roundw
      case rel => exact ⟨k + 1, by omega, by go_num, Lib.hid ⟨by rw [← HN.out]; exact HP.out, HR.out.2.setCell (p := ⟨w.heap.size, k, none⟩) (Nat.le_refl _) _⟩⟩
      case measure => simp [intOf]; omega
    · obtain rfl : k = n := by omega
      go_wp2
      go_ret
      have h := HR.out.1
      have hpl := HPL.out
      subst hpl
      rw [thenN_fill] at h
      exact ⟨w.heap.size, by rw [thenN, List.length_map]; rfl, Nat.le_refl _, h, HR.out.2⟩

set_option maxRecDepth 100000 in
set_option maxHeartbeats 2000000 in
theorem inverse_any (a : Option Addr) (n cp : Nat) (p : List Nat) (w : World) (hp : InN n p) (hn : n ≤ 1000) (hza : Nats w a p) :
    Calls Try.prog 109 #[.slice a n cp] w (GivesP (invTo p n) w) := by
  have hmk := make_perm n hn w
  have HA := Lib.hid hza.at
  have HPN := Lib.hid (fun (i : Nat) (hi : i < n) => hp.at hi)
  have HPL := Lib.hid hp.1
  have HR0 : Hid (RowN (w.alloc (.cells (natC (List.replicate n 0)) 3)) w.heap.size (invTo p 0) ∧ Below w.heap.size w (w.alloc (.cells (natC (List.replicate n 0)) 3))) := Lib.hid ⟨by rw [show invTo p 0 = List.replicate n 0 by simp [invTo, hp.1]]; exact RowN.new w _, (Below.refl _ w).alloc (Nat.le_refl _) _⟩
  clear hza hp
  go_enter Try.func109, Try.ntmps109
  go_wp2
  go_loopw [10, 4] (fun i _ wr => ∃ k : Nat, k ≤ n ∧ i = .int .i64 k ∧ Hid (RowN wr w.heap.size (invTo p k) ∧ Below w.heap.size w wr)) (fun i _ _ => n - (intOf i).toNat)
  case atStart => exact ⟨0, Nat.zero_le _, rfl, HR0⟩
  case round =>
    obtain ⟨k, hk, rfl, HR⟩ := hrel
    by_cases hlt : k < n
    · have hkn : (k : Int) < (n : Int) := by omega
      rcases HA.out with h | ⟨ba, oa, rfl, hca⟩
      · have := HPL.out; rw [h] at this; simp at this; omega
      have hx := HPN.out k hlt
      have c1 := (HR.out.2.cell (p := ⟨ba, oa + k, none⟩) (World.block_lt_of_cell? w _ (hca k (by rw [HPL.out]; exact hlt)))).trans (hca k (by rw [HPL.out]; exact hlt))
      have HN := Lib.hid (invTo_succ p k)
      unfold invStep at HN
      obtain ⟨x, hx'⟩ : ∃ x, p[k]?.getD 0 = x := ⟨_, rfl⟩
      rw [hx'] at hx c1 HN
      have c0 := HR.out.1.at (i := x) (by rw [invTo_len, HPL.out]; exact hx)
      have f0 := HR.out.1.free x
      have HP := Lib.hid (HR.out.1.put x k)
      have hxn : (x : Int) < (n : Int) := by omega
      clear hca
      go_wp2
      go_roundw
      case rel => exact ⟨k + 1, by omega, by go_num, Lib.hid ⟨by rw [HN.out]; exact HP.out, HR.out.2.setCell (p := ⟨w.heap.size, x, none⟩) (Nat.le_refl _) _⟩⟩
      case measure => simp [intOf]; omega
    · obtain rfl : k = n := by omega
      go_wp2
      go_ret
      exact ⟨w.heap.size, by rw [invTo_len, HPL.out]; rfl, Nat.le_refl _, HR.out.1, HR.out.2⟩

theorem exchN_len (n k : Nat) : (exchN n k).length = n := by simp [exchN]
theorem row_swap {w : World} {g n k : Nat} (h : RowN w g (idN n)) (h1 : 1 ≤ k) (hk : k < n) : RowN ((w.setCell ⟨g, k - 1, none⟩ (.int .i64 (k : Int))).setCell ⟨g, k, none⟩ (.int .i64 ((k - 1 : Nat) : Int))) g (exchN n k) := (h.put (k - 1) k).put k (k - 1)
theorem idN_get {n i : Nat} (h : i < n) : (idN n)[i]?.getD 0 = i := by simp [idN, h]
set_option maxRecDepth 100000 in
set_option maxHeartbeats 2000000 in
theorem exchange_any (n k : Nat) (z : Int) (w : World) (hn : n ≤ 1000) (h1 : 1 ≤ k) (hk : k < n) (hz : z = k ∨ z = -(k : Int)) :
    Calls Try.prog 83 #[.int .i64 (n : Int), .int .i64 z] w (GivesP (exchN n k) w) := by
  have HI := Lib.hid (identity_any n w hn)
  have hk1 : (k : Int) < (n : Int) := by omega
  have hk2 : 0 ≤ (k : Int) - 1 := by omega
  have hk6 : 1 ≤ (k : Int) := by omega
  have hk3 : (k : Int) - 1 < (n : Int) := by omega
  have hk4 : ((k : Int) - 1).toNat = k - 1 := by omega
  have HK5 : Hid (((k - 1 : Nat) : Int) = (k : Int) - 1) := Lib.hid (by omega)
  have HIG := Lib.hid (fun (i : Nat) (hi : i < n) => idN_get hi)
  have hil : (idN n).length = n := by simp [idN]
  have HL := Lib.hid (exchN_len n k)
  have hks : (k : Int) ≤ 1000 := by omega
  have hwr : IntKind.i64.wrap ((k : Int) - 1) = (k : Int) - 1 := by
    rw [IntKind.wrap_i64]; omega
  rcases hz with rfl | rfl
  · have hmx : max (k : Int) (-(k : Int)) = k := by omega
    go_enter Try.func83, Try.ntmps83
    go_wp2_with (go_at_call 81; refine HI.out.mono ?_; rintro e w1 ⟨g, rfl, hg, hr, hb⟩; have H1 := Lib.hid (And.intro hr (And.intro hg hb)))
    have c0 := hr.at (i := k - 1) (by omega)
    have c1 := hr.at (i := k) (by omega)
    rw [HIG.out _ (by omega)] at c0 c1
    rw [HK5.out] at c0
    have f0 := hr.free (k - 1)
    have f1 := hr.free k
    have hgl := hr.lt
    have hs := (hr.put (k - 1) k)
    have c2 := hs.at (i := k) (by rw [List.length_set]; omega)
    have f2 := hs.free k
    rw [List.getElem?_set_ne (by omega), HIG.out _ (by omega)] at c2
    have HSW := Lib.hid (row_swap hr h1 hk)
    rw [HK5.out] at HSW
    clear hr hs hg hb
    go_region_law (fail)
    all_goals
      go_simp
      go_wp2_with (fail)
      go_ret
      first
        | exact ⟨g, by rw [HL.out]; rfl, H1.out.2.1, HSW.out, (H1.out.2.2.setCell (p := ⟨g, k - 1, none⟩) H1.out.2.1 _).setCell (p := ⟨g, k, none⟩) H1.out.2.1 _⟩
        | exact ⟨g, by rw [HL.out]; rfl, H1.out.2.1, HSW.out, ((H1.out.2.2.setCell (p := ⟨g, k - 1, none⟩) H1.out.2.1 _).setCell (p := ⟨g, k, none⟩) H1.out.2.1 _).drew⟩
  · have hmx : max (-(k : Int)) (k : Int) = k := by omega
    go_enter Try.func83, Try.ntmps83
    go_wp2_with (go_at_call 81; refine HI.out.mono ?_; rintro e w1 ⟨g, rfl, hg, hr, hb⟩; have H1 := Lib.hid (And.intro hr (And.intro hg hb)))
    have c0 := hr.at (i := k - 1) (by omega)
    have c1 := hr.at (i := k) (by omega)
    rw [HIG.out _ (by omega)] at c0 c1
    rw [HK5.out] at c0
    have f0 := hr.free (k - 1)
    have f1 := hr.free k
    have hgl := hr.lt
    have hs := (hr.put (k - 1) k)
    have c2 := hs.at (i := k) (by rw [List.length_set]; omega)
    have f2 := hs.free k
    rw [List.getElem?_set_ne (by omega), HIG.out _ (by omega)] at c2
    have HSW := Lib.hid (row_swap hr h1 hk)
    rw [HK5.out] at HSW
    clear hr hs hg hb
    go_region_law (fail)
    all_goals
      go_simp
      go_wp2_with (fail)
      go_ret
      first
        | exact ⟨g, by rw [HL.out]; rfl, H1.out.2.1, HSW.out, (H1.out.2.2.setCell (p := ⟨g, k - 1, none⟩) H1.out.2.1 _).setCell (p := ⟨g, k, none⟩) H1.out.2.1 _⟩
        | exact ⟨g, by rw [HL.out]; rfl, H1.out.2.1, HSW.out, ((H1.out.2.2.setCell (p := ⟨g, k - 1, none⟩) H1.out.2.1 _).setCell (p := ⟨g, k, none⟩) H1.out.2.1 _).drew⟩

end Go.Proofs.Ytbcggbmjbljnfaa
