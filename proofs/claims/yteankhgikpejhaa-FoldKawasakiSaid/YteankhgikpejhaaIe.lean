/-
  The walk of 'Rank' at an order that folds.
-/
import Derived.Test.YteankhgikpejhaaHc
namespace Go.Proofs.Yteankhgikpejhaa
open Go.RowKit Go.Sort Go.Shelf
attribute [local go_sem] Oper.semAt_some

theorem Ints.kb {w wL W : World} {B : Nat} {a : Option Addr} {zs : List Int} (h : Ints w a zs) (hb : Below w.heap.size w wL) (hk : KB B wL W) (hB : w.heap.size ≤ B) : Ints W a zs :=
  h.below (hb.trans (hk.below hB hb.size))

def RankI (O : List Nat) (B : Nat) (wL : World) (ys : List (List Nat)) (W : World) : Prop := W.heap[B]? = some (.cells #[.int .i64 (wrap64 (ys.length : Int))] 3 (0, 0)) ∧ KB B wL W ∧ ∀ y ∈ ys, y ≠ O
def RankIx (O : List Nat) (B : Nat) (wL : World) (j : Code) (ys : List (List Nat)) (W : World) : Prop := j = .exit 0 ∧ ∃ ys', ys = ys' ++ [O] ∧ (∀ y ∈ ys', y ≠ O) ∧ W.heap[B]? = some (.cells #[.int .i64 (wrap64 (ys'.length : Int))] 3 (0, 0)) ∧ Below B wL W

theorem idx_here {l ys : List (List Nat)} {O : List Nat} (hp : (ys ++ [O]) <+: l) (h : ∀ y ∈ ys, y ≠ O) : l.idxOf O = ys.length ∧ ys.length < l.length := by
  obtain ⟨t, rfl⟩ := hp
  have hn : O ∉ ys := fun hm => h O hm rfl
  constructor
  · rw [List.append_assoc, List.idxOf_append, if_neg hn]
    simp
  · simp

set_option maxRecDepth 100000 in
set_option maxHeartbeats 4000000 in
theorem Rank_good (a aO : Option Addr) (n cap m' cO mF : Nat) (zs : List Int) (O : List Nat) (w : World) (hn : zs.length = n) (hz : Ints w a zs) (hs : stripB zs = true) (hO : O ∈ ordersOf (layCl zs) zs.length) (hm' : m' = n) (hzO : Ints w aO (O.map fun (x : Nat) => (x : Int))) :
    CallsIn Fence.wide mF Try.prog 18 #[.slice a n cap, .slice aO m' cO] w (Gives2 (.int .i64 ((ordersOf (layCl zs) zs.length).idxOf O)) (.int .i64 0) w) := by
  subst hm'
  obtain ⟨p1, p9, ps⟩ := strip_parts hs
  obtain ⟨o1, o2, o3, o4⟩ := mem_orders.1 hO
  have hba : Below w.heap.size w (w.alloc (.cells #[.slice aO m' cO] 22)) := (Below.refl _ _).alloc (Nat.le_refl _) _
  have hf : foldsZ zs (O.map fun (x : Nat) => (x : Int)) = (true, 0) := by
    rw [foldsZ, if_pos hs, if_pos (orderB_of o1 o2 o3), toNat_back, o4]
  have Hfo := Lib.hid (Folds_any a aO m' cap m' cO zs (O.map fun (x : Nat) => (x : Int)) (w.alloc (.cells #[.slice aO m' cO] 22)) true 0 hn (by omega) (hz.below hba) (by simp [o3, hn]) (by omega) (hzO.below hba) hf)
  have Hcl : Hid (∀ w1, Below w.heap.size w w1 → Calls Try.prog 49 #[.slice a m' cap] w1 (Gives (fun v w' => ClothV w' w1.heap.size (layCl zs) v) w1)) := Lib.hid fun w1 hb =>
    clothOfStrip_any a m' cap zs w1 hn (by omega) ps (hz.below hb)
  have HI := Lib.hid (And.intro hzO (And.intro hn (And.intro hO (And.intro o3 o2))))
  have hn9 : m' ≤ 9 := by omega
  clear hz hzO hn hf hba hs hO o1 o2 o3 o4
  refine callsIn_of_wp_marks Try.func18 rfl trivial ?_ rfl
  simp only [Try.ntmps18, List.size_toArray, List.length_cons, List.length_nil, Nat.reduceAdd, Nat.reduceSub, Array.replicate_succ, Array.replicate_zero, List.push_toArray, List.append_toArray, List.nil_append, List.cons_append]
  gi_wp2_with (fail)
  refine ⟨trivial, wide_depth, ?_⟩
  refine (callsIn_wide.2 Hfo.out).mono ?_
  rintro e w1 ⟨rfl, hb1⟩
  have hbx1 : w1.heap[w.heap.size]? = some (.cells #[.slice aO m' cO] 22 (0, 0)) := (hb1.block _ (by simp)).trans (heap_alloc_new w _)
  have H1 := Lib.hid (And.intro hbx1 (show Below w.heap.size w w1 from ((Below.refl _ _).alloc (Nat.le_refl _) _).trans (hb1.mono (by simp))))
  have hs1 : w.heap.size + 1 ≤ w1.heap.size := by have := hb1.size; simpa using this
  clear hbx1 hb1 Hfo
  gi_wp2_with (first
    | ((try refine ⟨trivial, wide_depth, ?_⟩); gi_at_call 49; refine (callsIn_wide.2 (Hcl.out _ (by exact H1.out.2.alloc (by omega) _))).mono ?_; rintro e w2 ⟨v, rfl, hv, hb2⟩; obtain ⟨al, cl, ah, ch, ac, cc, rfl, hl, hh, hc⟩ := hv.slices; have H2 := Lib.hid (And.intro hb2 (And.intro hl (And.intro hh hc))); clear hb2 hl hh hc hv)
    | ((try refine ⟨trivial, wide_depth, ?_⟩); gi_at_call 52; refine (callsIn_wide.2 (orders_any _ _ _ _)).mono ?_; rintro e w3 ⟨rfl, rfl⟩))
  obtain ⟨w0, hw0⟩ : ∃ w0, w1.alloc (.cells #[.int .i64 0] 3) = w0 := ⟨_, rfl⟩
  have hb2 : Below w0.heap.size w0 w2 := by rw [← hw0]; exact H2.out.1
  have hs0 : w0.heap.size = w1.heap.size + 1 := by rw [← hw0, World.size_alloc]
  have hb0 : Below w.heap.size w w0 := by rw [← hw0]; exact H1.out.2.alloc (by omega) _
  have g3 : w0.heap[w.heap.size]? = some (.cells #[.slice aO m' cO] 22 (0, 0)) := by rw [← hw0, Below.heap_alloc _ _ _ (by omega)]; exact H1.out.1
  have g6 : w0.heap[w1.heap.size]? = some (.cells #[.int .i64 0] 3 (0, 0)) := by rw [← hw0]; exact heap_alloc_new _ _
  have hs2 := hb2.size
  obtain ⟨wL, hwL⟩ : ∃ wL, w2.alloc (.cells #[.slice al zs.length cl, .slice ah zs.length ch, .slice ac (zs.length - 1) cc] 73) = wL := ⟨_, rfl⟩
  have hLs : wL.heap.size = w2.heap.size + 1 := by rw [← hwL]; simp
  have hL1 : Below w2.heap.size w2 wL := by rw [← hwL]; exact (Below.refl _ _).alloc (Nat.le_refl _) _
  have hbox : Trip wL w2.heap.size 73 (.slice al zs.length cl) (.slice ah zs.length ch) (.slice ac (layCl zs).crs.length cc) := by rw [← hwL, layCl_crs]; exact Trip.new _ _ _ _ _
  have b0L : Below w0.heap.size w0 wL := hb2.trans (hL1.mono hs2)
  have r1 := ownsRow_kept H2.out.2.1 hL1
  have r2 := ownsRow_kept H2.out.2.2.1 hL1
  have r3 := ownsRow_kept H2.out.2.2.2 hL1
  have q1 := ownsRow_ne r1 (b := w1.heap.size) (by rw [World.size_alloc]; omega)
  have q2 := ownsRow_ne r2 (b := w1.heap.size) (by rw [World.size_alloc]; omega)
  have q3 := ownsRow_ne r3 (b := w1.heap.size) (by rw [World.size_alloc]; omega)
  rw [layCl_low] at r1 q1
  rw [layCl_high] at r2 q2
  have hbw : Below w.heap.size w wL := hb0.trans (b0L.mono (by omega))
  have k3 := row_below g3 b0L (by omega)
  have k6 := row_below g6 b0L (by omega)
  have hstart : RankI O w1.heap.size wL [] wL := ⟨by
    rw [show wrap64 (([] : List (List Nat)).length : Int) = 0 from by unfold wrap64; simp]
    exact k6, KB.refl _ _, by simp⟩
  rw [hwL]
  have HL := Lib.hid (And.intro hbw (And.intro (show w1.heap.size < wL.heap.size by omega) (show w1.heap.size + 1 ≤ w2.heap.size by omega)))
  have HK := Lib.hid k3
  have hle := Lib.hid (ordersOf_le (layCl zs) zs.length p9)
  obtain ⟨bO, off, eO, hbO, hcO⟩ := HI.out.1.nat (by rw [HI.out.2.2.2.1]; exact p1)
  have HO := Lib.hid (And.intro hbO hcO)
  have HE := Lib.hid eO
  clear hbw hwL hL1 hb2 H2 hb0 g3 g6 hw0 b0L k3 k6 hbO hcO eO
  refine wpIn_range_orders (layCl zs) al ah ac cl ch cc zs.length w2.heap.size rfl p1 p9 (by simp; omega) (layCl_in zs) rfl (RankI O w1.heap.size wL) (fun _ => RankIx O w1.heap.size wL) ?hI ?hcl ?hIx hstart
    (fun g cp => { tmps := #[.slice a m' cap, .slice aO m' cO, undef, .pointer (some ⟨w.heap.size, 0, none⟩), .int .i64 0, .int .i64 0, .bool true, .int .i64 0, .pointer (some ⟨w1.heap.size, 0, none⟩), .slice (some ⟨g, 0, none⟩) zs.length cp, .tuple #[.bool true, .int .i64 0], .slice a m' cap, .slice aO m' cO, .tuple #[.bool true, .int .i64 0], .bool true, .int .i64 0, .int .i64 0, .bool false, undef, .bool true, .bool false, .slice a m' cap, .agg #[.slice al zs.length cl, .slice ah zs.length ch, .slice ac (zs.length - 1) cc], .func (.func 73) #[] #[.pointer (some ⟨w2.heap.size, 0, none⟩)], .slice (some ⟨g, 0, none⟩) zs.length cp, undef, undef, undef, undef, undef, undef], defers := [] }) ?hassign ?hbody ?hdone ?hstop
  case hI =>
    rintro ys W W' ⟨hc, hk, hj⟩ hb
    exact ⟨(hb.block _ (by have := HL.out; omega)).trans hc, hk.grow hb, hj⟩
  case hcl =>
    rintro ys W ⟨_, hk, _⟩
    exact ⟨hbox.kb hk (by have := HL.out; omega), ownsRow_weaken (ownsRow_kb r1 hk q1) (Nat.zero_le _), ownsRow_weaken (ownsRow_kb r2 hk q2) (Nat.zero_le _), ownsRow_weaken (ownsRow_kb r3 hk q3) (Nat.zero_le _)⟩
  case hIx =>
    rintro N1 j ys W W' ⟨rfl, ys', rfl, h1, h2, h3⟩ hm
    exact ⟨rfl, ys', rfl, h1, (hm.block _ (.inl (by have := HL.out; omega))).trans h2, h3.trans (hm.below.mono (by have := HL.out; omega))⟩
  case hassign =>
    intro l g cp W K hK
    gi_wp2
    simpa using hK
  case hbody =>
    rintro l N1 g cp ys x W ⟨hc, hk, hj⟩ hN hg hrow hx
    have hS := HL.out.2.1
    have e3 := (hk.block _ (by omega) (by omega)).trans HK.out
    have c3 := cell_of_one e3
    have c0 := cell_of_one hc
    have f0 := free_of_one hc
    have hwW : Below w.heap.size w W := HL.out.1.trans (hk.below (by omega) HL.out.1.size)
    have hxl : x.length = zs.length := by simpa [intsOf] using hrow.1
    have hxi : Ints W (some ⟨g, 0, none⟩) (x.map fun (x : Nat) => (x : Int)) := Ints.of_nats hrow
    have HEq : Hid (Calls Try.prog 53 #[.slice (some ⟨g, 0, none⟩) zs.length cp, .slice aO m' cO] W fun e w' => e = .returned (.bool (decide (x = O))) ∧ ∃ q, w' = W.drewN q) := Lib.hid (by
      have hmz : m' = zs.length := HI.out.2.1.symm
      have h := Try.slices_Equal_int g 0 zs.length cp bO off m' cO (x.map fun (x : Nat) => (x : Int)) (O.map fun (x : Nat) => (x : Int)) W (by simp [hxl]) (by rw [List.length_map, HI.out.2.2.2.1, hmz]; exact Nat.le_refl _) (by omega) (by omega)
        (fun j hj => by
          obtain ⟨b, o, e, hcell⟩ := hxi j hj
          cases e
          rw [hcell, List.getD_eq_getElem?_getD])
        (fun j hj => by
          rw [hwW.cell (p := ⟨bO, off + j, none⟩) HO.out.1, HO.out.2 j (by simpa using hj), List.getD_eq_getElem?_getD, List.getElem?_map]
          have : j < O.length := by simpa using hj
          simp [this])
      rw [HE.out]
      refine h.mono ?_
      rintro e w' ⟨rfl, hq⟩
      refine ⟨ret_bool ?_, hq⟩
      rw [List.take_of_length_le (by simp [hxl]), List.take_of_length_le (by rw [List.length_map, HI.out.2.2.2.1, hmz]; exact Nat.le_refl _), Bool.eq_iff_iff, beq_iff_eq, decide_eq_true_eq]
      constructor
      · intro h2
        have := congrArg (List.map Int.toNat) h2
        rwa [toNat_back, toNat_back] at this
      · rintro rfl; rfl)
    have HC := Lib.hid (And.intro hc (And.intro hk hj))
    clear hc hk hj hrow e3 hwW hxl hxi
    by_cases hxo : x = O
    · rw [decide_eq_true hxo] at HEq
      have HX := Lib.hid hxo
      clear hxo
      gi_wp2_with (fail)
      refine ⟨trivial, wide_depth, ?_⟩
      refine (CallsIn.inRound l (callsIn_wide.2 HEq.out)).mono ?_
      rintro e w4 ⟨rfl, q, hq⟩
      have hb4 : Below W.heap.size W w4 := by rw [hq]; exact below_drewN (Below.refl _ _) q
      have H4 := Lib.hid hb4
      clear hq hb4
      gi_wp2
      refine ⟨Above.of_below H4.out, rfl, ys, by rw [HX.out], HC.out.2.2, (H4.out.block _ (lt_of_block HC.out.1)).trans HC.out.1, ?_⟩
      exact (HC.out.2.1.below (Nat.le_refl _) (by omega)).trans (H4.out.mono (by have := HC.out.2.1.size; omega))
    · rw [decide_eq_false hxo] at HEq
      have HX := Lib.hid hxo
      clear hxo
      gi_wp2_with (fail)
      refine ⟨trivial, wide_depth, ?_⟩
      refine (CallsIn.inRound l (callsIn_wide.2 HEq.out)).mono ?_
      rintro e w4 ⟨rfl, q, hq⟩
      have hb4 : Below W.heap.size W w4 := by rw [hq]; exact below_drewN (Below.refl _ _) q
      have hc4 := (hb4.block _ (lt_of_block HC.out.1)).trans HC.out.1
      have c0 := cell_of_one hc4
      have f0 := free_of_one hc4
      have H4 := Lib.hid (And.intro hb4 hc4)
      clear hq hb4 hc4
      gi_wp2
      refine ⟨(Above.of_below H4.out.1).setCell (by simp; omega) _, ?_, (HC.out.2.1.grow (H4.out.1.mono HC.out.2.1.size)).setCell rfl _, ?_⟩
      · have := one_setCell H4.out.2 (u := .int .i64 (wrap64 (wrap64 (ys.length : Int) + 1)))
        rw [this, wrap_next]
        simp
      · intro y hy
        rcases List.mem_append.1 hy with h | h
        · exact HC.out.2.2 y h
        · obtain rfl : y = x := by simpa using h
          exact HX.out
  case hdone =>
    rintro D W ⟨hc, hk, hj⟩ hD hK
    exact absurd rfl (hj O HI.out.2.2.1)
  case hstop =>
    rintro D N1 j ys W hpre ⟨rfl, ys', rfl, h1, h2, h3⟩ hD hDN hK
    obtain ⟨hix, hlt⟩ := idx_here hpre h1
    have c0 := cell_of_one h2
    have HC := Lib.hid (And.intro h2 (And.intro h3 hK))
    have HIX := Lib.hid (show wrap64 (ys'.length : Int) = ((ordersOf (layCl zs) zs.length).idxOf O : Int) by
      have := hle.out
      rw [wrap_small _ (by omega), hix])
    clear h2 h3 hK hpre hix h1
    gi_wp2
    refine ⟨by simp, .inl ⟨_, _, rfl, run_takeDeferred HC.out.2.2, ?_⟩⟩
    refine ⟨_, results_tmp2 rfl _ _ _, ?_, ?_⟩
    · rw [← HIX.out]
      rfl
    · exact (HL.out.1.trans (HC.out.2.1.mono (by omega))).trans (below_putObj W _ (by have := HL.out.1.size; omega))

end Go.Proofs.Yteankhgikpejhaa
