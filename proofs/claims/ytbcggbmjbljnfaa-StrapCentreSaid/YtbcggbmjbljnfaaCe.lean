/-
  strap: matrices of polynomials: 'zeroes'.
-/
import Derived.Test.YtbcggbmjbljnfaaCd
namespace Go.Proofs.Ytbcggbmjbljnfaa
open Go.RowKit Go.Sort

abbrev Pol := Int × List Int
/-- A row of polynomials in a block. -/
def RowE (w : World) (b n : Nat) (p : Nat → Pol) : Prop := ∃ cs : Array Value, w.heap[b]? = some (.cells cs 130 (0, 0)) ∧ cs.size = n * 2 ∧ ∀ j, j < n → ∃ a c, cs[j * 2]? = some (.int .i64 (p j).1) ∧ cs[j * 2 + 1]? = some (.slice a (p j).2.length c) ∧ IntsT w a (p j).2 ∧ (p j).2.length ≤ c
theorem RowE.below {w w' : World} {b n : Nat} {p : Nat → Pol} (h : RowE w b n p) (hb : Below w.heap.size w w') : RowE w' b n p := by
  obtain ⟨cs, h1, h2, h3⟩ := h
  refine ⟨cs, (hb.block b (Array.getElem?_eq_some_iff.1 h1).1).trans h1, h2, fun j hj => ?_⟩
  obtain ⟨a, c, x1, x2, x3, x4⟩ := h3 j hj
  exact ⟨a, c, x1, x2, x3.below hb, x4⟩
theorem RowE.at {w : World} {b n : Nat} {p : Nat → Pol} (h : RowE w b n p) {j : Nat} (hj : j < n) : ∃ a c, w.cell? ⟨b, j * 2, none⟩ = some (.int .i64 (p j).1) ∧ w.cell? ⟨b, j * 2 + 1, none⟩ = some (.slice a (p j).2.length c) ∧ IntsT w a (p j).2 ∧ (p j).2.length ≤ c := by
  obtain ⟨cs, h1, h2, h3⟩ := h
  obtain ⟨a, c, x1, x2, x3, x4⟩ := h3 j hj
  exact ⟨a, c, by simp only [World.cell?, h1]; exact x1, by simp only [World.cell?, h1]; exact x2, x3, x4⟩
theorem RowE.free {w : World} {b n : Nat} {p : Nat → Pol} (h : RowE w b n p) (i : Nat) : w.frozen? ⟨b, i, none⟩ = false := by
  obtain ⟨cs, h1, _⟩ := h
  exact row_free h1 i
/-- A store elsewhere, into a block that holds no integers. -/
theorem RowE.other {w : World} {b n H i : Nat} {p : Nat → Pol} {v : Value} {cs : Array Value} {T : TypeId} {fz : Nat × Nat} (h : RowE w b n p) (hH : w.heap[H]? = some (.cells cs T fz)) (hT : T ≠ 3) (hne : b ≠ H) : RowE (w.setCell ⟨H, i, none⟩ v) b n p := by
  obtain ⟨cs', h1, h2, h3⟩ := h
  refine ⟨cs', (RowKit.Below.heap_setCell w ⟨H, i, none⟩ v b (by exact hne)).trans h1, h2, fun j hj => ?_⟩
  obtain ⟨a, c, x1, x2, x3, x4⟩ := h3 j hj
  exact ⟨a, c, x1, x2, x3.setCell hH hT, x4⟩
def updR (p : Nat → Pol) (j : Nat) (q : Pol) : Nat → Pol := fun i => if i = j then q else p i
theorem RowE.put {w : World} {b n j c : Nat} {p : Nat → Pol} {q : Pol} {a : Option Addr} (h : RowE w b n p) (hj : j < n) (hz : IntsT w a q.2) (hc : q.2.length ≤ c) : RowE ((w.setCell ⟨b, j * 2, none⟩ (.int .i64 q.1)).setCell ⟨b, j * 2 + 1, none⟩ (.slice a q.2.length c)) b n (updR p j q) := by
  obtain ⟨cs, h1, h2, h3⟩ := h
  have y1 := heap_setCell_self (i := j * 2) h1 (.int .i64 q.1)
  have y2 := heap_setCell_self (i := j * 2 + 1) y1 (.slice a q.2.length c)
  refine ⟨_, y2, by simp [h2], fun i hi => ?_⟩
  by_cases e : i = j
  · subst e
    refine ⟨a, c, ?_, ?_, ?_, ?_⟩
    · rw [Array.getElem?_setIfInBounds_ne (by omega), Array.getElem?_setIfInBounds_self_of_lt (by omega)]; simp [updR]
    · rw [Array.getElem?_setIfInBounds_self_of_lt (by simp; omega)]; simp [updR]
    · simp only [updR, if_pos]; exact (hz.setCell h1 (by decide)).setCell y1 (by decide)
    · simpa [updR] using hc
  · obtain ⟨a', c', x1, x2, x3, x4⟩ := h3 i hi
    refine ⟨a', c', ?_, ?_, ?_, ?_⟩
    · rw [Array.getElem?_setIfInBounds_ne (by omega), Array.getElem?_setIfInBounds_ne (by omega), x1]; simp [updR, e]
    · rw [Array.getElem?_setIfInBounds_ne (by omega), Array.getElem?_setIfInBounds_ne (by omega), x2]; simp [updR, e]
    · simp only [updR, if_neg e]; exact (x3.setCell h1 (by decide)).setCell y1 (by decide)
    · simpa [updR, e] using x4
/-- A square matrix: its rows lie in the blocks behind it. -/
def MatC (w : World) (g n : Nat) (M : Nat → Nat → Pol) : Prop := (∃ cs : Array Value, w.heap[g]? = some (.cells cs 128 (0, 0)) ∧ cs.size = n ∧ ∀ i, i < n → cs[i]? = some (.slice (some ⟨g + 1 + i, 0, none⟩) n n)) ∧ ∀ i, i < n → RowE w (g + 1 + i) n (M i)
theorem MatC.lt {w : World} {g n : Nat} {M : Nat → Nat → Pol} (h : MatC w g n M) : g + n < w.heap.size := by
  cases n with
  | zero => obtain ⟨⟨cs, h1, _⟩, _⟩ := h; exact (Array.getElem?_eq_some_iff.1 h1).1
  | succ n => obtain ⟨cs, h1, _⟩ := h.2 n (by omega); have := (Array.getElem?_eq_some_iff.1 h1).1; omega
theorem MatC.below {w w' : World} {g n : Nat} {M : Nat → Nat → Pol} (h : MatC w g n M) (hb : Below w.heap.size w w') : MatC w' g n M := by
  obtain ⟨⟨cs, h1, h2, h3⟩, h4⟩ := h
  exact ⟨⟨cs, (hb.block g (Array.getElem?_eq_some_iff.1 h1).1).trans h1, h2, h3⟩, fun i hi => (h4 i hi).below hb⟩
theorem MatC.row {w : World} {g n : Nat} {M : Nat → Nat → Pol} (h : MatC w g n M) {i : Nat} (hi : i < n) : w.cell? ⟨g, i, none⟩ = some (.slice (some ⟨g + 1 + i, 0, none⟩) n n) := by
  obtain ⟨⟨cs, h1, h2, h3⟩, h4⟩ := h
  simp only [World.cell?, h1]; exact h3 i hi
def updM (M : Nat → Nat → Pol) (i j : Nat) (q : Pol) : Nat → Nat → Pol := fun a b => if a = i ∧ b = j then q else M a b
theorem MatC.put {w : World} {g n i j c : Nat} {M : Nat → Nat → Pol} {q : Pol} {a : Option Addr} (h : MatC w g n M) (hi : i < n) (hj : j < n) (hz : IntsT w a q.2) (hc : q.2.length ≤ c) :
    MatC ((w.setCell ⟨g + 1 + i, j * 2, none⟩ (.int .i64 q.1)).setCell ⟨g + 1 + i, j * 2 + 1, none⟩ (.slice a q.2.length c)) g n (updM M i j q) := by
  obtain ⟨⟨cs, h1, h2, h3⟩, h4⟩ := h
  obtain ⟨cr, r1, _⟩ := id (h4 i hi)
  have y1 := heap_setCell_self (i := j * 2) r1 (.int .i64 q.1)
  refine ⟨⟨cs, ?_, h2, h3⟩, fun k hk => ?_⟩
  · rw [RowKit.Below.heap_setCell _ _ _ _ (by simp; omega), RowKit.Below.heap_setCell _ _ _ _ (by simp; omega)]; exact h1
  · by_cases e : k = i
    · subst e
      have := (h4 k hk).put hj hz hc
      rw [show updM M k j q k = updR (M k) j q by funext x; simp [updM, updR]]
      exact this
    · rw [show updM M i j q k = M k by funext x; simp [updM, e]]
      exact ((h4 k hk).other r1 (by decide) (by omega)).other y1 (by decide) (by omega)
theorem MatC.congr {w : World} {g n : Nat} {M M' : Nat → Nat → Pol} (h : MatC w g n M) (he : ∀ i, i < n → ∀ j, j < n → M i j = M' i j) : MatC w g n M' := by
  refine ⟨h.1, fun i hi => ?_⟩
  obtain ⟨cs, h1, h2, h3⟩ := h.2 i hi
  refine ⟨cs, h1, h2, fun j hj => ?_⟩
  rw [← he i hi j hj]; exact h3 j hj
/-- A matrix that is handed back. -/
def GivesM (n : Nat) (M : Nat → Nat → Pol) (w : World) (e : Ending) (w' : World) : Prop := ∃ g, e = .returned (.slice (some ⟨g, 0, none⟩) n n) ∧ w.heap.size ≤ g ∧ MatC w' g n M ∧ Below w.heap.size w w'

theorem infoEnt : (Try.prog.info? 130).map (fun i => (i.zero, i.size, i.bytes)) = some (some (.agg #[.int .i64 0, .slice none 0 0]), 2, 32) := by kernel_rfl
theorem infoRowE : (Try.prog.info? 128).map (fun i => (i.zero, i.size, i.bytes)) = some (some (.slice none 0 0), 1, 24) := by kernel_rfl
theorem make_rowE (n : Nat) (h : n ≤ 1000) (w : World) :
    (Instr.makeSlice 128 (.int .i64 (n : Int)) (.int .i64 (n : Int))).run Try.prog w = .ok (.slice (some ⟨w.heap.size, 0, none⟩) n n) (w.alloc (.cells (madeCells #[.int .i64 0, .slice none 0 0] (n * 2)) 130)) := by
  obtain ⟨i0, hi, hz0, hz1, hz2⟩ := info_parts infoEnt
  have hr := run_make (P := Try.prog) w 128 130 i0 _ Try.underlying128 hi hz0 .i64 .i64 n n (by omega) (Int.le_refl _) (by rw [hz2]; omega) (by omega)
  rw [hz1, Int.toNat_natCast] at hr
  exact hr
theorem make_mat (n : Nat) (h : n ≤ 1000) (w : World) :
    (Instr.makeSlice 103 (.int .i64 (n : Int)) (.int .i64 (n : Int))).run Try.prog w = .ok (.slice (some ⟨w.heap.size, 0, none⟩) n n) (w.alloc (.cells (madeCells #[.slice none 0 0] n) 128)) := by
  obtain ⟨i0, hi, hz0, hz1, hz2⟩ := info_parts infoRowE
  have hr := run_make (P := Try.prog) w 103 128 i0 _ Try.underlying103 hi hz0 .i64 .i64 n n (by omega) (Int.le_refl _) (by rw [hz2]; omega) (by omega)
  rw [hz1, Nat.mul_one, Int.toNat_natCast] at hr
  exact hr
theorem rowE_new (w : World) (n : Nat) : RowE (w.alloc (.cells (madeCells #[.int .i64 0, .slice none 0 0] (n * 2)) 130)) w.heap.size n (fun _ => (0, [])) := by
  refine ⟨_, heap_alloc_new w _, by simp [madeCells], fun j hj => ⟨none, 0, ?_, ?_, .inl rfl, Nat.le_refl _⟩⟩
  · have h1 : j * 2 < n * 2 := by omega
    have h2 : j * 2 % 2 = 0 := by omega
    simp [madeCells, h1, h2]
  · have h1 : j * 2 + 1 < n * 2 := by omega
    have h2 : (j * 2 + 1) % 2 = 1 := by omega
    simp [madeCells, h1, h2]
/-- What the loop of 'zeroes' holds. -/
def ZerS (w : World) (g n k : Nat) (wr : World) : Prop := wr.heap.size = g + 1 + k ∧ Below g w wr ∧ (∃ cs : Array Value, wr.heap[g]? = some (.cells cs 128 (0, 0)) ∧ cs.size = n ∧ ∀ i, i < k → cs[i]? = some (.slice (some ⟨g + 1 + i, 0, none⟩) n n)) ∧ ∀ i, i < k → RowE wr (g + 1 + i) n (fun _ => (0, []))
theorem ZerS.push {w : World} {g n k : Nat} {wr : World} (h : ZerS w g n k wr) (hk : k < n) : ZerS w g n (k + 1) ((wr.alloc (.cells (madeCells #[.int .i64 0, .slice none 0 0] (n * 2)) 130)).setCell ⟨g, k, none⟩ (.slice (some ⟨g + 1 + k, 0, none⟩) n n)) := by
  obtain ⟨h1, h2, ⟨cs, h3, h4, h5⟩, h6⟩ := h
  have hgl := (Array.getElem?_eq_some_iff.1 h3).1
  have hb : Below wr.heap.size wr (wr.alloc (.cells (madeCells #[.int .i64 0, .slice none 0 0] (n * 2)) 130)) := (Below.refl _ wr).alloc (Nat.le_refl _) _
  have h3' := (hb.block g hgl).trans h3
  refine ⟨by simp [World.setCell, h1]; omega, (h2.trans (hb.mono (by omega))).setCell (p := ⟨g, k, none⟩) (Nat.le_refl _) _, ⟨_, heap_setCell_self (i := k) h3' _, by simp [h4], fun i hi => ?_⟩, fun i hi => ?_⟩
  · by_cases e : i = k
    · subst e; rw [Array.getElem?_setIfInBounds_self_of_lt (by omega)]
    · rw [Array.getElem?_setIfInBounds_ne (by omega)]; exact h5 i (by omega)
  · by_cases e : i = k
    · subst e
      have := rowE_new wr n
      rw [h1] at this
      exact this.other h3' (by decide) (by omega)
    · exact ((h6 i (by omega)).below hb).other h3' (by decide) (by omega)

set_option maxRecDepth 100000 in
set_option maxHeartbeats 1000000 in
theorem zeroes_any (n : Nat) (w : World) (hn : n ≤ 1000) : Calls Try.prog 115 #[.int .i64 (n : Int)] w (GivesM n (fun _ _ => (0, [])) w) := by
  have hmk := make_mat n hn w
  have HMR := Lib.hid (make_rowE n hn)
  obtain ⟨g, hg⟩ : ∃ g, w.heap.size = g := ⟨_, rfl⟩
  obtain ⟨w1, hw1⟩ : ∃ w1, w.alloc (.cells (madeCells #[.slice none 0 0] n) 128) = w1 := ⟨_, rfl⟩
  rw [hg, hw1] at hmk
  have HI : Hid (ZerS w g n 0 w1) := Lib.hid ⟨by rw [← hw1]; simp [hg], by rw [← hw1, ← hg]; exact (Below.refl _ w).alloc (Nat.le_refl _) _, ⟨_, by rw [← hw1, ← hg]; exact heap_alloc_new w _, by simp [madeCells], fun i hi => by omega⟩, fun i hi => by omega⟩
  have HG := Lib.hid hg
  clear hw1 hg
  go_enter Try.func115, Try.ntmps115
  go_wp2_with (fail)
  go_loopw [9] (fun i wr => ∃ k : Nat, k ≤ n ∧ i = .int .i64 k ∧ Hid (ZerS w g n k wr)) (fun i _ => n - (intOf i).toNat)
  case atStart => exact ⟨0, Nat.zero_le _, rfl, HI⟩
  case round =>
    clear HI hmk
    obtain ⟨k, hk, rfl, HR⟩ := hrel
    by_cases hlt : k < n
    · have hkI : (k : Int) < (n : Int) := by omega
      have hmr := HMR.out wr
      rw [HR.out.1] at hmr
      have HP := Lib.hid (HR.out.push hlt)
      obtain ⟨wx, hwx⟩ : ∃ wx, wr.alloc (.cells (madeCells #[.int .i64 0, .slice none 0 0] (n * 2)) 130) = wx := ⟨_, rfl⟩
      rw [hwx] at HP hmr
      obtain ⟨cs, h3, h4, _⟩ := HR.out.2.2.1
      have h3' : wx.heap[g]? = some (.cells cs 128 (0, 0)) := by rw [← hwx, Below.heap_alloc _ _ _ (Array.getElem?_eq_some_iff.1 h3).1]; exact h3
      have c0 : ∃ v, wx.cell? ⟨g, k, none⟩ = some v := by simp only [World.cell?, h3']; exact ⟨_, Array.getElem?_eq_getElem (by omega)⟩
      obtain ⟨v, c0⟩ := c0
      have f0 := row_free h3' k
      clear h3 h3' h4 hwx
      go_wp2_with (fail)
      exact ⟨⟨k + 1, by omega, by go_num, HP⟩, by simp [intOf]; omega⟩
    · obtain rfl : k = n := by omega
      go_wp2_with (fail)
      go_ret
      have h := HR.out
      exact ⟨g, rfl, by have := HG.out; omega, ⟨h.2.2.1, h.2.2.2⟩, h.2.1.mono (by have := HG.out; omega)⟩

end Go.Proofs.Ytbcggbmjbljnfaa
