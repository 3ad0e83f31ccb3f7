/-
  The walk of 'At'.
-/
import Derived.Test.YteckeobhlfddlaaFm
namespace Go.Proofs.Yteckeobhlfddlaa
open Go.RowKit Go.Sort Go.Shelf
attribute [local go_sem] Oper.semAt_some

/-- The order of a number. -/
def atZ (l : List (List Nat)) (r : Int) : Option (List Nat) := if 0 ≤ r then l[r.toNat]? else none

/-- What 'At' hands back. -/
def AtPost (zs : List Int) (r : Int) (w : World) (e : Ending) (w' : World) : Prop :=
  ∃ v err, e = .returned (.tuple #[v, .int .i64 err]) ∧ Below w.heap.size w w' ∧
    (match atZ (ordersOf (layCl zs) zs.length) r with
     | some o => err = 0 ∧ ∃ g cap, v = .slice (some ⟨g, 0, none⟩) zs.length cap ∧ w.heap.size ≤ g ∧ w'.ownsRow 0 3 1 v zs.length (intsOf o)
     | none => err = 5 ∧ v = .slice none 0 0)

/-- The world in which 'At' has laid its own. -/
def aw (w : World) (r : Int) : World := ((w.alloc (.cells #[.int .i64 r] 3)).alloc (.cells #[.slice none 0 0] 22)).alloc (.cells #[.int .i64 0] 32)
theorem aw_below (w : World) (r : Int) : Below w.heap.size w (aw w r) := (((Below.refl _ _).alloc (Nat.le_refl _) _).alloc (by simp) _).alloc (by simp; omega) _
theorem aw_size (w : World) (r : Int) : (aw w r).heap.size = w.heap.size + 3 := by simp [aw]

theorem aw_3 (w : World) (r : Int) : (aw w r).heap[w.heap.size]? = some (.cells #[.int .i64 r] 3 (0, 0)) := by
  rw [aw, Below.heap_alloc _ _ _ (by simp; omega), Below.heap_alloc _ _ _ (by simp)]; exact heap_alloc_new w _
theorem aw_4 (w : World) (r : Int) : (aw w r).heap[w.heap.size + 1]? = some (.cells #[.slice none 0 0] 22 (0, 0)) := by
  rw [aw, Below.heap_alloc _ _ _ (by simp)]
  have := heap_alloc_new (w.alloc (.cells #[.int .i64 r] 3)) (.cells #[.slice none 0 0] 22)
  rwa [World.size_alloc] at this
theorem aw_5 (w : World) (r : Int) : (aw w r).heap[w.heap.size + 1 + 1]? = some (.cells #[.int .i64 0] 32 (0, 0)) := by
  have := heap_alloc_new ((w.alloc (.cells #[.int .i64 r] 3)).alloc (.cells #[.slice none 0 0] 22)) (.cells #[.int .i64 0] 32)
  rw [World.size_alloc, World.size_alloc] at this
  exact this

set_option maxHeartbeats 400000 in
theorem At_bad (a : Option Addr) (n cap : Nat) (zs : List Int) (r : Int) (w : World) (hn : zs.length = n) (hm : n ≤ 9223372036854775807) (hz : Ints w a zs) (hs : stripB zs = false) :
    Calls Try.prog 10 #[.slice a n cap, .int .i64 r] w (Gives2 (.slice none 0 0) (.int .i64 1) w) := by
  have his := isStrip_any a n cap zs (aw w r) hn hm (hz.below (aw_below w r))
  rw [hs] at his
  have His := Lib.hid his
  clear his hz hn
  go_enter Try.func10, Try.ntmps10
  go_wp2_with (go_at_call 21; refine His.out.mono ?_; rintro e w1 ⟨rfl, hw1⟩; have a4 := aw_4 w r; have a5 := aw_5 w r; have ab := aw_below w r; rw [hw1] at a4 a5 ab; clear hw1; have q4 := cell_of_one a4; have q4f := free_of_one a4; have q5 := cell_of_one a5; have q5f := free_of_one a5; have HA := Lib.hid (And.intro a4 (And.intro a5 ab)); clear a4 a5 ab)
  obtain ⟨X, hX⟩ : ∃ X, (w1.setCell ⟨w.heap.size + 1, 0, none⟩ (.slice none 0 0)).setCell ⟨w.heap.size + 1 + 1, 0, none⟩ (.int .i64 1) = X := ⟨_, rfl⟩
  have x4 : X.heap[w.heap.size + 1]? = some (.cells #[.slice none 0 0] 22 (0, 0)) := by
    rw [← hX, Below.heap_setCell _ _ _ _ (by simp)]
    exact one_setCell HA.out.1
  have x5 : X.heap[w.heap.size + 1 + 1]? = some (.cells #[.int .i64 1] 32 (0, 0)) := by
    rw [← hX]
    exact one_setCell ((Below.heap_setCell _ _ _ _ (by simp)).trans HA.out.2.1)
  have xb : Below w.heap.size w X := by
    rw [← hX]
    exact (HA.out.2.2.setCell (by simp) _).setCell (by simp; omega) _
  rw [hX]
  have z4 := cell_of_one x4
  have z5 := cell_of_one x5
  exact bodyPost_ret (v := .tuple #[.slice none 0 0, .int .i64 1]) (by simp [results, Try.results10, go_sem, z4, z5]) rfl ⟨rfl, xb⟩

def AtI (r : Int) (w wL : World) (ys : List (List Nat)) (W : World) : Prop := W.heap[w.heap.size + 3]? = some (.cells #[.int .i64 (wrap64 (ys.length : Int))] 3 (0, 0)) ∧ KB (w.heap.size + 3) wL W ∧ ∀ j : Nat, j < ys.length → wrap64 (j : Int) ≠ r
def AtIx (r : Int) (zs : List Int) (w : World) (N1 : Nat) (j : Code) (ys : List (List Nat)) (W : World) : Prop :=
  j = .ret ∧ ∃ ys' x g cap, ys = ys' ++ [x] ∧ (∀ j : Nat, j < ys'.length → wrap64 (j : Int) ≠ r) ∧ wrap64 (ys'.length : Int) = r ∧ N1 ≤ g ∧ W.ownsRow N1 3 1 (.slice (some ⟨g, 0, none⟩) zs.length cap) zs.length (intsOf x) ∧
    W.heap[w.heap.size + 1]? = some (.cells #[.slice (some ⟨g, 0, none⟩) zs.length cap] 22 (0, 0)) ∧ W.heap[w.heap.size + 1 + 1]? = some (.cells #[.int .i64 0] 32 (0, 0)) ∧ Below w.heap.size w W

theorem at_ret {zs : List Int} {r : Int} {w wL W : World} {ys : List (List Nat)} {x : List Nat} {N1 g cp : Nat} (hk : KB (w.heap.size + 3) wL W) (hj : ∀ j : Nat, j < ys.length → wrap64 (j : Int) ≠ r) (h : wrap64 (ys.length : Int) = r) (hg : N1 ≤ g)
    (hrow : W.ownsRow N1 3 1 (.slice (some ⟨g, 0, none⟩) zs.length cp) zs.length (intsOf x)) (e4 : W.heap[w.heap.size + 1]? = some (.cells #[.slice none 0 0] 22 (0, 0))) (e5 : W.heap[w.heap.size + 1 + 1]? = some (.cells #[.int .i64 0] 32 (0, 0)))
    (hs : w.heap.size + 3 < wL.heap.size) (hbw : Below w.heap.size w wL) (hN : wL.heap.size + 2 < N1) :
    Above wL.heap.size W ((W.setCell ⟨w.heap.size + 1, 0, none⟩ (.slice (some ⟨g, 0, none⟩) zs.length cp)).setCell ⟨w.heap.size + 1 + 1, 0, none⟩ (.int .i64 0)) ∧
      AtIx r zs w N1 .ret (ys ++ [x]) ((W.setCell ⟨w.heap.size + 1, 0, none⟩ (.slice (some ⟨g, 0, none⟩) zs.length cp)).setCell ⟨w.heap.size + 1 + 1, 0, none⟩ (.int .i64 0)) := by
  refine ⟨((Above.refl _ _).setCell (by simp; omega) _).setCell (by simp; omega) _, rfl, ys, x, g, cp, rfl, hj, h, hg, ?_, ?_, ?_, ?_⟩
  · exact ownsRow_setCell_below (ownsRow_setCell_below hrow (by simp; omega) _) (by simp; omega) _
  · rw [Below.heap_setCell _ _ _ _ (by simp)]
    exact one_setCell e4
  · exact one_setCell ((Below.heap_setCell _ _ _ _ (by simp)).trans e5)
  · exact ((hbw.trans (hk.below (by omega) (by omega))).setCell (by simp) _).setCell (by simp; omega) _
theorem at_on {r : Int} {w wL W : World} {ys : List (List Nat)} {x : List Nat} (hc : W.heap[w.heap.size + 3]? = some (.cells #[.int .i64 (wrap64 (ys.length : Int))] 3 (0, 0))) (hk : KB (w.heap.size + 3) wL W) (hj : ∀ j : Nat, j < ys.length → wrap64 (j : Int) ≠ r) (h : wrap64 (ys.length : Int) ≠ r) (hs : w.heap.size + 3 < wL.heap.size) :
    Above wL.heap.size W (W.setCell ⟨w.heap.size + 3, 0, none⟩ (.int .i64 (wrap64 (wrap64 (ys.length : Int) + 1)))) ∧ AtI r w wL (ys ++ [x]) (W.setCell ⟨w.heap.size + 3, 0, none⟩ (.int .i64 (wrap64 (wrap64 (ys.length : Int) + 1)))) := by
  refine ⟨(Above.refl _ _).setCell (by simp; omega) _, ?_, hk.setCell rfl _, ?_⟩
  · have := one_setCell hc (u := .int .i64 (wrap64 (wrap64 (ys.length : Int) + 1)))
    rw [this, wrap_next]
    simp
  · intro j hj'
    rw [List.length_append, List.length_singleton] at hj'
    by_cases e : j = ys.length
    · rw [e]; exact h
    · exact hj j (by omega)
theorem at_end {l : List (List Nat)} {r : Int} (hl : l.length ≤ 387420489) (hj : ∀ j : Nat, j < l.length → wrap64 (j : Int) ≠ r) : atZ l r = none := by
  unfold atZ
  split
  · refine List.getElem?_eq_none ?_
    refine Nat.le_of_not_lt fun h => hj r.toNat h ?_
    rw [wrap_small _ (by omega)]
    omega
  · rfl
theorem at_here {l ys : List (List Nat)} {x : List Nat} {r : Int} (hl : l.length ≤ 387420489) (hp : (ys ++ [x]) <+: l) (h : wrap64 (ys.length : Int) = r) : atZ l r = some x := by
  obtain ⟨t, ht⟩ := hp
  have hlen : ys.length < l.length := by rw [← ht]; simp
  rw [wrap_small _ (by omega)] at h
  subst h
  rw [atZ, if_pos (by omega), ← ht]
  simp

set_option maxRecDepth 100000 in
set_option maxHeartbeats 2000000 in
theorem At_good (a : Option Addr) (n cap m : Nat) (zs : List Int) (r : Int) (w : World) (hn : zs.length = n) (hz : Ints w a zs) (hs : stripB zs = true) :
    CallsIn Fence.wide m Try.prog 10 #[.slice a n cap, .int .i64 r] w (AtPost zs r w) := by
  obtain ⟨p1, p9, ps⟩ := strip_parts hs
  have his := isStrip_any a n cap zs (aw w r) hn (by omega) (hz.below (aw_below w r))
  rw [hs] at his
  have His := Lib.hid his
  have Hcl : Hid (∀ w1, Below w.heap.size w w1 → Calls Try.prog 22 #[.slice a n cap] w1 (Gives (fun v w' => ClothV w' w1.heap.size (layCl zs) v) w1)) := Lib.hid fun w1 hb =>
    clothOfStrip_any a n cap zs w1 hn (by omega) ps (hz.below hb)
  have hn9 : n ≤ 9 := by omega
  have Hn := Lib.hid hn
  clear his hz hn
  refine callsIn_of_wp_marks Try.func10 rfl trivial ?_ rfl
  simp only [Try.ntmps10, List.size_toArray, List.length_cons, List.length_nil, Nat.reduceAdd, Nat.reduceSub, Array.replicate_succ, Array.replicate_zero, List.push_toArray, List.append_toArray, List.nil_append, List.cons_append]
  gi_wp2_with (first
    | ((try refine ⟨trivial, wide_depth, ?_⟩); gi_at_call 21; refine (callsIn_wide.2 His.out).mono ?_; rintro e w1 ⟨rfl, rfl⟩)
    | ((try refine ⟨trivial, wide_depth, ?_⟩); gi_at_call 22; refine (callsIn_wide.2 (Hcl.out _ (by exact (aw_below w r).alloc (by rw [aw_size]; omega) _))).mono ?_; rintro e w1 ⟨v, rfl, hv, hb1⟩; obtain ⟨al, cl, ah, ch, ac, cc, rfl, hl, hh, hc⟩ := hv.slices; have H1 := Lib.hid (And.intro hb1 (And.intro hl (And.intro hh hc))); clear hb1 hl hh hc hv)
    | ((try refine ⟨trivial, wide_depth, ?_⟩); gi_at_call 23; refine (callsIn_wide.2 (orders_any _ _ _ _)).mono ?_; rintro e w2 ⟨rfl, rfl⟩))
  simp only [aw_size]
  obtain ⟨w0, hw0⟩ : ∃ w0, (aw w r).alloc (.cells #[.int .i64 0] 3) = w0 := ⟨_, rfl⟩
  have hb1 : Below w0.heap.size w0 w1 := by rw [← hw0]; exact H1.out.1
  have hs0 : w0.heap.size = w.heap.size + 4 := by rw [← hw0, World.size_alloc, aw_size]
  have hb0 : Below w.heap.size w w0 := by rw [← hw0]; exact (aw_below w r).alloc (by rw [aw_size]; omega) _
  have g3 : w0.heap[w.heap.size]? = some (.cells #[.int .i64 r] 3 (0, 0)) := by rw [← hw0, Below.heap_alloc _ _ _ (by rw [aw_size]; omega)]; exact aw_3 w r
  have g4 : w0.heap[w.heap.size + 1]? = some (.cells #[.slice none 0 0] 22 (0, 0)) := by rw [← hw0, Below.heap_alloc _ _ _ (by rw [aw_size]; omega)]; exact aw_4 w r
  have g5 : w0.heap[w.heap.size + 1 + 1]? = some (.cells #[.int .i64 0] 32 (0, 0)) := by rw [← hw0, Below.heap_alloc _ _ _ (by rw [aw_size]; omega)]; exact aw_5 w r
  have g6 : w0.heap[w.heap.size + 3]? = some (.cells #[.int .i64 0] 3 (0, 0)) := by
    rw [← hw0, ← aw_size w r]; exact heap_alloc_new _ _
  have hs1 := hb1.size
  obtain ⟨wL, hwL⟩ : ∃ wL, w1.alloc (.cells #[.slice al zs.length cl, .slice ah zs.length ch, .slice ac (zs.length - 1) cc] 63) = wL := ⟨_, rfl⟩
  have hLs : wL.heap.size = w1.heap.size + 1 := by rw [← hwL]; simp
  have hL1 : Below w1.heap.size w1 wL := by rw [← hwL]; exact (Below.refl _ _).alloc (Nat.le_refl _) _
  have hbox : Trip wL w1.heap.size 63 (.slice al zs.length cl) (.slice ah zs.length ch) (.slice ac (layCl zs).crs.length cc) := by rw [← hwL, layCl_crs]; exact Trip.new _ _ _ _ _
  have b0L : Below w0.heap.size w0 wL := hb1.trans (hL1.mono hs1)
  have r1 := ownsRow_kept H1.out.2.1 hL1
  have r2 := ownsRow_kept H1.out.2.2.1 hL1
  have r3 := ownsRow_kept H1.out.2.2.2 hL1
  have q1 := ownsRow_ne r1 (b := w.heap.size + 3) (by rw [World.size_alloc, aw_size]; omega)
  have q2 := ownsRow_ne r2 (b := w.heap.size + 3) (by rw [World.size_alloc, aw_size]; omega)
  have q3 := ownsRow_ne r3 (b := w.heap.size + 3) (by rw [World.size_alloc, aw_size]; omega)
  rw [layCl_low] at r1 q1
  rw [layCl_high] at r2 q2
  have hbw : Below w.heap.size w wL := hb0.trans (b0L.mono (by omega))
  have k3 := row_below g3 b0L (by omega)
  have k4 := row_below g4 b0L (by omega)
  have k5 := row_below g5 b0L (by omega)
  have k6 := row_below g6 b0L (by omega)
  have hstart : AtI r w wL [] wL := ⟨by
    rw [show wrap64 (([] : List (List Nat)).length : Int) = 0 from by unfold wrap64; simp]
    exact k6, KB.refl _ _, by simp⟩
  rw [hwL]
  have HL := Lib.hid (And.intro hbw (And.intro (show w.heap.size + 3 < wL.heap.size by omega) (show w.heap.size + 4 ≤ w1.heap.size by omega)))
  have HK := Lib.hid (And.intro k3 (And.intro k4 k5))
  have hle := ordersOf_le (layCl zs) zs.length p9
  clear hbw hwL hL1 hb1 H1 hb0 g3 g4 g5 g6 hw0 b0L k3 k4 k5 k6
  refine wpIn_range_orders (layCl zs) al ah ac cl ch cc zs.length w1.heap.size rfl p1 p9 (by simp; omega) (layCl_in zs) rfl (AtI r w wL) (AtIx r zs w) ?hI ?hcl ?hIx hstart
    (fun g cp => { tmps := #[.slice a n cap, .int .i64 r, undef, .pointer (some ⟨w.heap.size, 0, none⟩), .pointer (some ⟨w.heap.size + 1, 0, none⟩), .pointer (some ⟨w.heap.size + 1 + 1, 0, none⟩), .pointer (some ⟨w.heap.size + 3, 0, none⟩), .slice (some ⟨g, 0, none⟩) zs.length cp, .slice a n cap, .bool true, .bool false, .slice a n cap, .agg #[.slice al zs.length cl, .slice ah zs.length ch, .slice ac (zs.length - 1) cc], .func (.func 39) #[] #[.pointer (some ⟨w1.heap.size, 0, none⟩)], .slice (some ⟨g, 0, none⟩) zs.length cp, undef, undef, undef, undef, undef, undef], defers := [] }) ?hassign ?hbody ?hdone ?hstop
  case hI =>
    rintro ys W W' ⟨hc, hk, hj⟩ hb
    exact ⟨(hb.block _ (by have := HL.out; omega)).trans hc, hk.grow hb, hj⟩
  case hcl =>
    rintro ys W ⟨_, hk, _⟩
    exact ⟨hbox.kb hk (by have := HL.out; omega), ownsRow_weaken (ownsRow_kb r1 hk q1) (Nat.zero_le _), ownsRow_weaken (ownsRow_kb r2 hk q2) (Nat.zero_le _), ownsRow_weaken (ownsRow_kb r3 hk q3) (Nat.zero_le _)⟩
  case hIx =>
    rintro N1 j ys W W' ⟨rfl, ys', x, g, cp, rfl, h1, h2, h3, h4, h5, h6, h7⟩ hm
    have hS := HL.out
    exact ⟨rfl, ys', x, g, cp, rfl, h1, h2, h3, ownsRow_of_block h4 (fun q hq => hm.block _ (.inr (h4.lt q hq).1)), (hm.block _ (.inl (by omega))).trans h5, (hm.block _ (.inl (by omega))).trans h6, h7.trans (hm.below.mono (by omega))⟩
  case hassign =>
    intro l g cp W K hK
    gi_wp2
    simpa using hK
  case hbody =>
    rintro l N1 g cp ys x W ⟨hc, hk, hj⟩ hN hg hrow _
    have hS := HL.out.2.1
    have e3 := (hk.block _ (by omega) (by omega)).trans HK.out.1
    have e4 := (hk.block _ (by omega) (by omega)).trans HK.out.2.1
    have e5 := (hk.block _ (by omega) (by omega)).trans HK.out.2.2
    have c0 := cell_of_one hc
    have f0 := free_of_one hc
    have c3 := cell_of_one e3
    have q4 := cell_of_one e4
    have q4f := free_of_one e4
    have q5 := cell_of_one e5
    have q5f := free_of_one e5
    have HC := Lib.hid (And.intro hc (And.intro hk (And.intro hj (And.intro hrow (And.intro e4 e5)))))
    clear hc hk hj hrow e3 e4 e5
    rcases Bool.eq_false_or_eq_true (wrap64 (ys.length : Int) == r) with h | h
    · have H := Lib.hid h
      gi_wp2
      exact at_ret HC.out.2.1 HC.out.2.2.1 (by simpa using H.out) hg HC.out.2.2.2.1 HC.out.2.2.2.2.1 HC.out.2.2.2.2.2 hS HL.out.1 hN
    · have H := Lib.hid h
      gi_wp2
      exact at_on HC.out.1 HC.out.2.1 HC.out.2.2.1 (by simpa using H.out) hS
  case hdone =>
    rintro D W ⟨hc, hk, hj⟩ hD hK
    have hS := HL.out.2.1
    have e4 := (hk.block _ (by omega) (by omega)).trans HK.out.2.1
    have e5 := (hk.block _ (by omega) (by omega)).trans HK.out.2.2
    have q4 := cell_of_one e4
    have q4f := free_of_one e4
    have q5 := cell_of_one e5
    have q5f := free_of_one e5
    have HB := Lib.hid (And.intro hk (And.intro hj (And.intro e4 (And.intro e5 hK))))
    clear hc hk hj e4 e5 hK
    gi_wp2
    obtain ⟨X, hX⟩ : ∃ X, (W.setCell ⟨w.heap.size + 1, 0, none⟩ (.slice none 0 0)).setCell ⟨w.heap.size + 1 + 1, 0, none⟩ (.int .i64 5) = X := ⟨_, rfl⟩
    have x4 : X.heap[w.heap.size + 1]? = some (.cells #[.slice none 0 0] 22 (0, 0)) := by
      rw [← hX, Below.heap_setCell _ _ _ _ (by simp)]
      exact one_setCell HB.out.2.2.1
    have x5 : X.heap[w.heap.size + 1 + 1]? = some (.cells #[.int .i64 5] 32 (0, 0)) := by
      rw [← hX]
      exact one_setCell ((Below.heap_setCell _ _ _ _ (by simp)).trans HB.out.2.2.2.1)
    have xD : X.heap[D]? = some (.deferred (some [])) := by
      rw [← hX, Below.heap_setCell _ _ _ _ (by simp; omega), Below.heap_setCell _ _ _ _ (by simp; omega)]
      exact HB.out.2.2.2.2
    have xb : Below w.heap.size w X := by
      rw [← hX]
      exact ((HL.out.1.trans (HB.out.1.below (by omega) (by omega))).setCell (by simp) _).setCell (by simp; omega) _
    rw [hX]
    have z4 := cell_of_one ((World.putObj_heap_other (w := X) (r := D) (o := .deferred none) (by omega)).trans x4)
    have z5 := cell_of_one ((World.putObj_heap_other (w := X) (r := D) (o := .deferred none) (by omega)).trans x5)
    refine ⟨by simp, .inl ⟨_, _, rfl, run_takeDeferred xD, ?_⟩⟩
    refine ⟨.tuple #[.slice none 0 0, .int .i64 5], by simp [results, Try.results10, go_sem, z4, z5], _, _, rfl, xb.trans (below_putObj X _ (by omega)), ?_⟩
    rw [at_end hle HB.out.2.1]
    exact ⟨rfl, rfl⟩
  case hstop =>
    rintro D N1 j ys W hpre ⟨rfl, ys', x, g, cp, rfl, h1, h2, h3, h4, h5, h6, h7⟩ hD hDN hK
    have hS := HL.out.2.1
    gi_wp2
    have z4 := cell_of_one ((World.putObj_heap_other (w := W) (r := D) (o := .deferred none) (by omega)).trans h5)
    have z5 := cell_of_one ((World.putObj_heap_other (w := W) (r := D) (o := .deferred none) (by omega)).trans h6)
    refine ⟨by simp, .inl ⟨_, _, rfl, run_takeDeferred hK, ?_⟩⟩
    refine ⟨.tuple #[.slice (some ⟨g, 0, none⟩) zs.length cp, .int .i64 0], by simp [results, Try.results10, go_sem, z4, z5], _, _, rfl, h7.trans (below_putObj W _ (by omega)), ?_⟩
    rw [at_here hle hpre h2]
    exact ⟨rfl, g, cp, rfl, by omega, ownsRow_of_block (ownsRow_weaken h4 (Nat.zero_le _)) (fun q hq => World.putObj_heap_other (by have := (h4.lt q hq).1; omega))⟩

end Go.Proofs.Yteckeobhlfddlaa
