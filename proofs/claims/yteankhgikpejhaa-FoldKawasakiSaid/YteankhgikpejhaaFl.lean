/-
  The walk of 'Count'.
-/
import Derived.Test.YteankhgikpejhaaFk
namespace Go.Proofs.Yteankhgikpejhaa
open Go.RowKit Go.Sort Go.Shelf
attribute [local go_sem] Oper.semAt_some

/-- How many orders fold a strip. -/
def countOf (zs : List Int) : Nat := (ordersOf (layCl zs) zs.length).length

/-- Two results, the world grown. -/
def Gives2 (a b : Value) (w : World) (e : Ending) (w' : World) : Prop := e = .returned (.tuple #[a, b]) ∧ Below w.heap.size w w'

theorem Count_bad (a : Option Addr) (n cap : Nat) (zs : List Int) (w : World) (hn : zs.length = n) (hm : n ≤ 9223372036854775807) (hz : Ints w a zs) (hs : stripB zs = false) :
    Calls Try.prog 31 #[.slice a n cap] w (Gives2 (.int .i64 0) (.int .i64 1) w) := by
  have his := isStrip_any a n cap zs w hn hm hz
  rw [hs] at his
  have His := Lib.hid his
  clear his hz hn
  go_enter Try.func31, Try.ntmps31
  go_wp2_with (go_at_call 47; refine His.out.mono ?_; rintro e w1 ⟨rfl, rfl⟩)
  go_ret2
  exact ⟨rfl, Below.refl _ _⟩

theorem wrap_next (k : Nat) : wrap64 (wrap64 (k : Int) + 1) = wrap64 (((k + 1 : Nat)) : Int) := by unfold wrap64; omega
theorem wrap_small (k : Nat) (h : k ≤ 1000000000) : wrap64 (k : Int) = k := by unfold wrap64; omega

theorem placeAll_le (c : Cl) (n : Nat) : ∀ (k : Nat) (L : List Int) (O : List Nat), (placeAll c n k L O).length ≤ n ^ k
  | 0, L, O => by simp [placeAll]
  | k + 1, L, O => by
    rw [placeAll, List.length_flatMap]
    have : ∀ l : List Nat, (l.map fun s => (if (L[s]?.getD 0 == -1 && fitsB c L s) = true then placeAll c n k (L.set s O.length) (O ++ [s]) else []).length).sum ≤ l.length * n ^ k := by
      intro l
      induction l with
      | nil => simp
      | cons s l ih =>
        rw [List.map_cons, List.sum_cons, List.length_cons, Nat.add_mul, Nat.one_mul, Nat.add_comm]
        refine Nat.add_le_add ih ?_
        split
        · exact placeAll_le c n k _ _
        · simp
    have := this (List.range n)
    rw [List.length_range] at this
    rw [Nat.pow_succ, Nat.mul_comm]
    exact this
theorem ordersOf_le (c : Cl) (n : Nat) (h : n ≤ 9) : (ordersOf c n).length ≤ 387420489 :=
  Nat.le_trans (placeAll_le c n n _ _) (Nat.le_trans (Nat.pow_le_pow_left h n) (Nat.pow_le_pow_right (n := 9) (by omega) h))

/-- What the loop of 'Count' keeps. -/
def CountI (w wL : World) (ys : List (List Nat)) (W : World) : Prop := W.heap[w.heap.size]? = some (.cells #[.int .i64 (wrap64 (ys.length : Int))] 3 (0, 0)) ∧ KB w.heap.size wL W

set_option maxRecDepth 100000 in
set_option maxHeartbeats 2000000 in
theorem Count_good (a : Option Addr) (n cap m : Nat) (zs : List Int) (w : World) (hn : zs.length = n) (hz : Ints w a zs) (hs : stripB zs = true) :
    CallsIn Fence.wide m Try.prog 31 #[.slice a n cap] w (Gives2 (.int .i64 (countOf zs)) (.int .i64 0) w) := by
  obtain ⟨p1, p9, ps⟩ := strip_parts hs
  have his := isStrip_any a n cap zs w hn (by omega) hz
  rw [hs] at his
  have His := Lib.hid his
  have Hcl : Hid (∀ w1, Below w.heap.size w w1 → Calls Try.prog 49 #[.slice a n cap] w1 (Gives (fun v w' => ClothV w' w1.heap.size (layCl zs) v) w1)) := Lib.hid fun w1 hb =>
    clothOfStrip_any a n cap zs w1 hn (by omega) ps fun i hi => by
      obtain ⟨b, off, e, hc⟩ := hz i hi
      exact ⟨b, off, e, (hb.cell (p := ⟨b, off + i, none⟩) (World.block_lt_of_cell? w _ hc)).trans hc⟩
  have Hn := Lib.hid hn
  clear his hz hn
  refine callsIn_of_wp_marks Try.func31 rfl trivial ?_ rfl
  simp only [Try.ntmps31, List.size_toArray, List.length_cons, List.length_nil, Nat.reduceAdd, Nat.reduceSub, Array.replicate_succ, Array.replicate_zero, List.push_toArray, List.append_toArray, List.nil_append, List.cons_append]
  gi_wp2_with (first
    | ((try refine ⟨trivial, wide_depth, ?_⟩); gi_at_call 47; refine (callsIn_wide.2 His.out).mono ?_; rintro e w1 ⟨rfl, rfl⟩)
    | ((try refine ⟨trivial, wide_depth, ?_⟩); gi_at_call 49; refine (callsIn_wide.2 (Hcl.out _ ((Below.refl _ _).alloc (Nat.le_refl _) _))).mono ?_; rintro e w1 ⟨v, rfl, hv, hb1⟩; obtain ⟨al, cl, ah, ch, ac, cc, rfl, hl, hh, hc⟩ := hv.slices; have H1 := Lib.hid (And.intro hb1 (And.intro hl (And.intro hh hc))); clear hb1 hl hh hc hv)
    | ((try refine ⟨trivial, wide_depth, ?_⟩); gi_at_call 52; refine (callsIn_wide.2 (orders_any _ _ _ _)).mono ?_; rintro e w2 ⟨rfl, rfl⟩))
  have hb1 := H1.out.1
  have hs1 := hb1.size
  simp at hs1
  have hbase : (w.alloc (.cells #[.int .i64 0] 3)).heap.size = w.heap.size + 1 := by simp
  obtain ⟨wL, hwL⟩ : ∃ wL, w1.alloc (.cells #[.slice al zs.length cl, .slice ah zs.length ch, .slice ac (zs.length - 1) cc] 73) = wL := ⟨_, rfl⟩
  have hLs : wL.heap.size = w1.heap.size + 1 := by rw [← hwL]; simp
  have hL1 : Below w1.heap.size w1 wL := by rw [← hwL]; exact (Below.refl _ _).alloc (Nat.le_refl _) _
  have hbox : Trip wL w1.heap.size 73 (.slice al zs.length cl) (.slice ah zs.length ch) (.slice ac (layCl zs).crs.length cc) := by rw [← hwL, layCl_crs]; exact Trip.new _ _ _ _ _
  have r1 := ownsRow_kept H1.out.2.1 hL1
  have r2 := ownsRow_kept H1.out.2.2.1 hL1
  have r3 := ownsRow_kept H1.out.2.2.2 hL1
  have q1 := ownsRow_ne r1 (b := w.heap.size) (by simp)
  have q2 := ownsRow_ne r2 (b := w.heap.size) (by simp)
  have q3 := ownsRow_ne r3 (b := w.heap.size) (by simp)
  rw [layCl_low] at r1 q1
  rw [layCl_high] at r2 q2
  have hstart : CountI w wL [] wL := ⟨by
    rw [show wrap64 (([] : List (List Nat)).length : Int) = 0 from by unfold wrap64; simp]
    exact (hL1.block _ (by omega)).trans ((hb1.block _ (by simp)).trans (heap_alloc_new w _)), KB.refl _ _⟩
  have hbw : Below w.heap.size w wL := ((Below.refl _ w).alloc (Nat.le_refl _) _).trans ((hb1.mono (by simp)).trans (hL1.mono (by omega)))
  rw [hwL]
  have HL := Lib.hid (And.intro hbw (And.intro hLs hs1))
  clear hbw hwL hbase hL1 hb1 H1
  refine wpIn_range_orders (layCl zs) al ah ac cl ch cc zs.length w1.heap.size rfl p1 p9 (by simp; omega) (layCl_in zs) rfl (CountI w wL) (fun _ _ _ _ => False) ?hI ?hcl (fun _ _ _ _ _ h _ => h) hstart
    (fun g cp => { tmps := #[.slice a n cap, undef, .int .i64 0, .int .i64 0, .pointer (some ⟨w.heap.size, 0, none⟩), .slice a n cap, .bool true, .bool false, .slice a n cap, .agg #[.slice al zs.length cl, .slice ah zs.length ch, .slice ac (zs.length - 1) cc], .func (.func 73) #[] #[.pointer (some ⟨w1.heap.size, 0, none⟩)], .slice (some ⟨g, 0, none⟩) zs.length cp, undef, undef, undef], defers := [] }) ?hassign ?hbody ?hdone (fun _ _ _ _ _ _ h => h.elim)
  case hI =>
    rintro ys W W' ⟨hc, hk⟩ hb
    exact ⟨(hb.block _ (by have := HL.out; omega)).trans hc, hk.grow hb⟩
  case hcl =>
    rintro ys W ⟨_, hk⟩
    exact ⟨hbox.kb hk (by have := HL.out; omega), ownsRow_weaken (ownsRow_kb r1 hk q1) (Nat.zero_le _), ownsRow_weaken (ownsRow_kb r2 hk q2) (Nat.zero_le _), ownsRow_weaken (ownsRow_kb r3 hk q3) (Nat.zero_le _)⟩
  case hassign =>
    intro l g cp W K hK
    gi_wp2
    simpa using hK
  case hbody =>
    rintro l N1 g cp ys x W ⟨hc, hk⟩ hN hg hrow _
    have c0 := cell_of_one hc
    have f0 := free_of_one hc
    have HC := Lib.hid (And.intro hc hk)
    clear hc hk hrow
    gi_wp2
    refine ⟨(Above.refl _ _).setCell (by have := HL.out; simp; omega) _, ?_, HC.out.2.setCell rfl _⟩
    have := one_setCell HC.out.1 (u := .int .i64 (wrap64 (wrap64 (ys.length : Int) + 1)))
    rw [wrap_next] at this
    rw [show ((ys ++ [x]).length : Int) = ((ys.length + 1 : Nat) : Int) by simp, wrap_next]
    exact this
  case hdone =>
    rintro D W ⟨hc, hk⟩ hD hK
    have c0 := cell_of_one hc
    have HC := Lib.hid (And.intro hc (And.intro hk hK))
    clear hc hk hK
    gi_wp2
    refine ⟨by simp, .inl ⟨_, _, rfl, run_takeDeferred HC.out.2.2, ?_⟩⟩
    refine ⟨_, results_tmp2 rfl _ _ _, ?_, ?_⟩
    · rw [wrap_small _ (by have := ordersOf_le (layCl zs) zs.length p9; omega)]
      rfl
    · exact (HL.out.1.trans (HC.out.2.1.below (Nat.le_refl _) (by have := HL.out; omega))).trans (below_putObj W _ (by have := HL.out; omega))

end Go.Proofs.Yteankhgikpejhaa
