/-
  The walk of 'Layers' at what is well formed.
-/
import Derived.Test.YteankhgikpejhaaFn
namespace Go.Proofs.Yteankhgikpejhaa
open Go.RowKit Go.Sort Go.Shelf
attribute [local go_sem] Oper.semAt_some

theorem round_depth {l : Nat} {p : Prop} : (Fence.wide.inRound l).depth.isSome = true → p := fun h => by simp [Fence.inRound, Fence.wide] at h

def LayersI (zs : List Int) (pat : ByteArray) (wL : World) (ys : List (List Nat)) (W : World) : Prop := Below wL.heap.size wL W ∧ ∀ o ∈ ys, ((crsOf zs o).toList == pat.toList) = false
def LayersIx (zs : List Int) (pat : ByteArray) (w : World) (N1 : Nat) (j : Code) (ys : List (List Nat)) (W : World) : Prop :=
  j = .ret ∧ ∃ ys' x g cap, ys = ys' ++ [x] ∧ (∀ o ∈ ys', ((crsOf zs o).toList == pat.toList) = false) ∧ ((crsOf zs x).toList == pat.toList) = true ∧ N1 ≤ g ∧ W.ownsRow N1 3 1 (.slice (some ⟨g, 0, none⟩) zs.length cap) zs.length (intsOf x) ∧
    W.heap[w.heap.size + 1]? = some (.cells #[.slice (some ⟨g, 0, none⟩) zs.length cap] 22 (0, 0)) ∧ W.heap[w.heap.size + 2]? = some (.cells #[.int .i64 0] 24 (0, 0)) ∧ Below w.heap.size w W

/-- The world in which 'Layers' has laid its own. -/
def lw (w : World) (pat : ByteArray) : World := ((w.alloc (.cells #[.string pat] 9)).alloc (.cells #[.slice none 0 0] 22)).alloc (.cells #[.int .i64 0] 24)
theorem lw_below (w : World) (pat : ByteArray) : Below w.heap.size w (lw w pat) := (((Below.refl _ _).alloc (Nat.le_refl _) _).alloc (by simp) _).alloc (by simp; omega) _
theorem lw_size (w : World) (pat : ByteArray) : (lw w pat).heap.size = w.heap.size + 3 := by simp [lw]
theorem Ints.below {w w' : World} {a : Option Addr} {zs : List Int} (h : Ints w a zs) (hb : Below w.heap.size w w') : Ints w' a zs := fun i hi => by
  obtain ⟨b, off, e, hc⟩ := h i hi
  exact ⟨b, off, e, (hb.cell (p := ⟨b, off + i, none⟩) (World.block_lt_of_cell? w _ hc)).trans hc⟩

theorem layers_on {zs : List Int} {pat : ByteArray} {wL W w2 : World} {ys : List (List Nat)} {x : List Nat} (hb : Below wL.heap.size wL W) (hk : ∀ o ∈ ys, ((crsOf zs o).toList == pat.toList) = false) (h : ((crsOf zs x).toList == pat.toList) = false) (hb2 : Below W.heap.size W w2) :
    Above wL.heap.size W w2 ∧ LayersI zs pat wL (ys ++ [x]) w2 :=
  ⟨Above.of_below hb2, hb.trans (hb2.mono hb.size), fun o ho => by
    rcases List.mem_append.1 ho with ho | ho
    · exact hk o ho
    · obtain rfl : o = x := by simpa using ho
      exact h⟩
theorem layers_ret {zs : List Int} {pat : ByteArray} {w wL W w2 : World} {ys : List (List Nat)} {x : List Nat} {N1 g cp : Nat} {v4 v5 : Value} (hb : Below wL.heap.size wL W) (hk : ∀ o ∈ ys, ((crsOf zs o).toList == pat.toList) = false) (h : ((crsOf zs x).toList == pat.toList) = true) (hg : N1 ≤ g)
    (hrow : W.ownsRow N1 3 1 (.slice (some ⟨g, 0, none⟩) zs.length cp) zs.length (intsOf x)) (hb2 : Below W.heap.size W w2) (e4 : w2.heap[w.heap.size + 1]? = some (.cells #[v4] 22 (0, 0))) (e5 : w2.heap[w.heap.size + 1 + 1]? = some (.cells #[v5] 24 (0, 0)))
    (hs : w.heap.size + 1 + 1 < wL.heap.size) (hbw : Below w.heap.size w wL) (hN : wL.heap.size + 2 < N1) :
    Above wL.heap.size W ((w2.setCell ⟨w.heap.size + 1, 0, none⟩ (.slice (some ⟨g, 0, none⟩) zs.length cp)).setCell ⟨w.heap.size + 1 + 1, 0, none⟩ (.int .i64 0)) ∧
      LayersIx zs pat w N1 .ret (ys ++ [x]) ((w2.setCell ⟨w.heap.size + 1, 0, none⟩ (.slice (some ⟨g, 0, none⟩) zs.length cp)).setCell ⟨w.heap.size + 1 + 1, 0, none⟩ (.int .i64 0)) := by
  refine ⟨((Above.of_below hb2).setCell (by simp; omega) _).setCell (by simp; omega) _, rfl, ys, x, g, cp, rfl, hk, h, hg, ?_, ?_, ?_, ?_⟩
  · exact ownsRow_setCell_below (ownsRow_setCell_below (ownsRow_kept hrow hb2) (by simp; omega) _) (by simp; omega) _
  · rw [Below.heap_setCell _ _ _ _ (by simp)]
    exact one_setCell e4
  · exact one_setCell ((Below.heap_setCell _ _ _ _ (by simp)).trans e5)
  · exact ((hbw.trans ((hb.mono (by omega)).trans (hb2.mono (by have := hb.size; omega)))).setCell (by simp) _).setCell (by simp; omega) _

set_option maxRecDepth 100000 in
set_option maxHeartbeats 2000000 in
theorem Layers_good (a : Option Addr) (n cap m : Nat) (zs : List Int) (pat : ByteArray) (w : World) (hn : zs.length = n) (hz : Ints w a zs) (hs : stripB zs = true) (hp : patB pat (n - 1) = true) :
    CallsIn Fence.wide m Try.prog 26 #[.slice a n cap, .string pat] w (LayersPost zs pat w) := by
  obtain ⟨p1, p9, ps⟩ := strip_parts hs
  have hz3 := hz.below (lw_below w pat)
  have his := isStrip_any a n cap zs (lw w pat) hn (by omega) hz3
  rw [hs] at his
  have hps : pat.size = n - 1 := by simp [patB] at hp; exact hp.1
  have hip := isPattern_any pat (n - 1) (lw w pat) (by omega) (by omega)
  rw [hp] at hip
  have hcs := clothOfStrip_any a n cap zs (lw w pat) hn (by omega) ps hz3
  have hsum : ((n : Int) - 1) = ((n - 1 : Nat) : Int) := by omega
  have His := Lib.hid his
  have Hip := Lib.hid hip
  have Hcs := Lib.hid hcs
  have Hsum := Lib.hid hsum
  have hn9 : n ≤ 9 := by omega
  have Hn := Lib.hid hn
  clear his hip hcs hsum hz hz3 hps hp hn
  have c3 : (lw w pat).cell? ⟨w.heap.size, 0, none⟩ = some (.string pat) := by
    rw [lw, World.cell?_alloc_past _ _ _ (by simp; omega), World.cell?_alloc_past _ _ _ (by simp), World.cell?_alloc_at _ _ _ _ rfl]; rfl
  refine callsIn_of_wp_marks Try.func26 rfl trivial ?_ rfl
  simp only [Try.ntmps26, List.size_toArray, List.length_cons, List.length_nil, Nat.reduceAdd, Nat.reduceSub, Array.replicate_succ, Array.replicate_zero, List.push_toArray, List.append_toArray, List.nil_append, List.cons_append]
  gi_wp2_with (first
    | ((try refine ⟨trivial, wide_depth, ?_⟩); gi_at_call 47; refine (callsIn_wide.2 His.out).mono ?_; rintro e w1 ⟨rfl, rfl⟩)
    | ((try refine ⟨trivial, wide_depth, ?_⟩); gi_at_call 62; rw [Hsum.out]; refine (callsIn_wide.2 Hip.out).mono ?_; rintro e w1 ⟨rfl, rfl⟩)
    | ((try refine ⟨trivial, wide_depth, ?_⟩); gi_at_call 49; refine (callsIn_wide.2 Hcs.out).mono ?_; rintro e w1 ⟨v, rfl, hv, hb1⟩; obtain ⟨al, cl, ah, ch, ac, cc, rfl, hl, hh, hc⟩ := hv.slices; have H1 := Lib.hid (And.intro hb1 (And.intro hl (And.intro hh hc))); clear hb1 hl hh hc hv)
    | ((try refine ⟨trivial, wide_depth, ?_⟩); gi_at_call 52; refine (callsIn_wide.2 (orders_any _ _ _ _)).mono ?_; rintro e w2 ⟨rfl, rfl⟩))
  have hb1 := H1.out.1
  have hs1 := hb1.size
  rw [lw_size] at hs1
  obtain ⟨wL, hwL⟩ : ∃ wL, (w1.alloc (.cells #[.slice al zs.length cl, .slice ah zs.length ch, .slice ac (zs.length - 1) cc] 73)).alloc (.cells #[.slice al zs.length cl, .slice ah zs.length ch, .slice ac (zs.length - 1) cc] 73) = wL := ⟨_, rfl⟩
  have hLs : wL.heap.size = w1.heap.size + 2 := by rw [← hwL]; simp
  have hL1 : Below w1.heap.size w1 wL := by rw [← hwL]; exact ((Below.refl _ _).alloc (Nat.le_refl _) _).alloc (by simp) _
  have hbox6 : Trip wL w1.heap.size 73 (.slice al zs.length cl) (.slice ah zs.length ch) (.slice ac (zs.length - 1) cc) := by rw [← hwL]; exact (Trip.new _ _ _ _ _).alloc _
  have hbox : Trip wL (w1.heap.size + 1) 73 (.slice al zs.length cl) (.slice ah zs.length ch) (.slice ac (layCl zs).crs.length cc) := by
    rw [← hwL, layCl_crs]
    have := Trip.new (w1.alloc (.cells #[.slice al zs.length cl, .slice ah zs.length ch, .slice ac (zs.length - 1) cc] 73)) 73 (.slice al zs.length cl) (.slice ah zs.length ch) (.slice ac (zs.length - 1) cc)
    rwa [World.size_alloc] at this
  have r1 := ownsRow_kept (ownsRow_weaken H1.out.2.1 (Nat.zero_le _)) hL1
  have r2 := ownsRow_kept (ownsRow_weaken H1.out.2.2.1 (Nat.zero_le _)) hL1
  have r3 := ownsRow_kept (ownsRow_weaken H1.out.2.2.2 (Nat.zero_le _)) hL1
  rw [layCl_low] at r1
  rw [layCl_high] at r2
  have hlwL : Below (lw w pat).heap.size (lw w pat) wL := hb1.trans (hL1.mono hb1.size)
  have hbw : Below w.heap.size w wL := (lw_below w pat).trans (hlwL.mono (by rw [lw_size]; omega))
  have d3 : wL.heap[w.heap.size]? = some (.cells #[.string pat] 9 (0, 0)) := (hlwL.block _ (by rw [lw_size]; omega)).trans (by rw [lw, Below.heap_alloc _ _ _ (by simp; omega), Below.heap_alloc _ _ _ (by simp)]; exact heap_alloc_new w _)
  have d4 : wL.heap[w.heap.size + 1]? = some (.cells #[.slice none 0 0] 22 (0, 0)) := (hlwL.block _ (by rw [lw_size]; omega)).trans (by
    rw [lw, Below.heap_alloc _ _ _ (by simp)]
    have := heap_alloc_new (w.alloc (.cells #[.string pat] 9)) (.cells #[.slice none 0 0] 22)
    rwa [World.size_alloc] at this)
  have d5 : wL.heap[w.heap.size + 1 + 1]? = some (.cells #[.int .i64 0] 24 (0, 0)) := (hlwL.block _ (by rw [lw_size]; omega)).trans (by
    have := heap_alloc_new ((w.alloc (.cells #[.string pat] 9)).alloc (.cells #[.slice none 0 0] 22)) (.cells #[.int .i64 0] 24)
    rw [World.size_alloc, World.size_alloc] at this
    exact this)
  have hLet : Hid (∀ (W W' : World) (N1 g cp : Nat) (x : List Nat), Below wL.heap.size wL W → Below W.heap.size W W' → W.ownsRow N1 3 1 (.slice (some ⟨g, 0, none⟩) zs.length cp) zs.length (intsOf x) → (∀ y ∈ x, y < zs.length) →
      Calls Try.prog 51 #[.agg #[.slice al zs.length cl, .slice ah zs.length ch, .slice ac (zs.length - 1) cc], .slice (some ⟨g, 0, none⟩) zs.length cp] W' fun e w' => e = .returned (.string (crsOf zs x)) ∧ Below W'.heap.size W' w') := Lib.hid fun W W' N1 g cp x hb hb' hrow hx => by
    have hk := hb.trans (hb'.mono hb.size)
    have := letters_any al ac (some ⟨g, 0, none⟩) cl cc cp zs.length (.slice ah zs.length ch) (layCl zs).crs x W' p1 p9 (by simp; omega) (ownsRow_kept r3 hk) (by simpa [intsOf] using hrow.1) (Ints.of_nats (ownsRow_kept hrow hb')) hx (layCl_in zs)
    rw [layCl_crs] at this
    exact this
  rw [hwL]
  have HL := Lib.hid (And.intro hbw (And.intro hLs hs1))
  clear hbw hwL hL1 hb1 H1 hlwL c3 hn9
  refine wpIn_range_orders (layCl zs) al ah ac cl ch cc zs.length (w1.heap.size + 1) rfl p1 p9 (by simp; omega) (layCl_in zs) rfl (LayersI zs pat wL) (LayersIx zs pat w) ?hI ?hcl ?hIx ⟨Below.refl _ _, by simp⟩
    (fun g cp => { tmps := #[.slice a n cap, .string pat, undef, .pointer (some ⟨w.heap.size, 0, none⟩), .pointer (some ⟨w.heap.size + 1, 0, none⟩), .pointer (some ⟨w.heap.size + 1 + 1, 0, none⟩), .pointer (some ⟨w1.heap.size, 0, none⟩), .slice (some ⟨g, 0, none⟩) zs.length cp, .slice a n cap, .bool true, .bool false, .string pat, .slice a n cap, .int .i64 n, .int .i64 ((n - 1 : Nat) : Int), .bool true, .bool false, .slice a n cap, .agg #[.slice al zs.length cl, .slice ah zs.length ch, .slice ac (zs.length - 1) cc], .agg #[.slice al zs.length cl, .slice ah zs.length ch, .slice ac (zs.length - 1) cc], .func (.func 73) #[] #[.pointer (some ⟨w1.heap.size + 1, 0, none⟩)], .slice (some ⟨g, 0, none⟩) zs.length cp, undef, undef, undef, undef, undef, undef], defers := [] }) ?hassign ?hbody ?hdone ?hstop
  case hI =>
    rintro ys W W' ⟨hb, hk⟩ hb'
    exact ⟨hb.trans hb', hk⟩
  case hcl =>
    rintro ys W ⟨hb, _⟩
    exact ⟨hbox.below hb hbox.lt, ownsRow_kept r1 hb, ownsRow_kept r2 hb, ownsRow_kept r3 hb⟩
  case hIx =>
    rintro N1 j ys W W' ⟨rfl, ys', x, g, cp, rfl, h1, h2, h3, h4, h5, h6, h7⟩ hm
    have hS := HL.out.2.1
    have hS1 := HL.out.2.2
    exact ⟨rfl, ys', x, g, cp, rfl, h1, h2, h3, ownsRow_of_block h4 (fun q hq => hm.block _ (.inr (h4.lt q hq).1)), (hm.block _ (.inl (by omega))).trans h5, (hm.block _ (.inl (by omega))).trans h6, h7.trans (hm.below.mono (by omega))⟩
  case hassign =>
    intro l g cp W K hK
    gi_wp2
    simpa using hK
  case hbody =>
    rintro l N1 g cp ys x W ⟨hb, hk⟩ hN hg hrow hx
    have hS := HL.out.2.1
    have hS1 := HL.out.2.2
    have e3 := cell_of_one (row_below d3 hb (by omega))
    have e4 := row_below d4 hb (show w.heap.size + 1 < wL.heap.size by omega)
    have e5 := row_below d5 hb (show w.heap.size + 1 + 1 < wL.heap.size by omega)
    have e6 := hbox6.below hb (by omega)
    have f0 := e6.c0
    have f1 := e6.c1
    have f2 := e6.c2
    have HLx := Lib.hid (fun W' hW' => hLet.out W W' N1 g cp x hb hW' hrow hx)
    have HB := Lib.hid (And.intro hb (And.intro hk (And.intro hrow (And.intro e4 e5))))
    clear hb hk hrow e4 e5 e6
    gi_wp2
    have hmx : Try.prog.follows .mixedOrders = true := by kernel_rfl
    gi_region_with_o (first
      | (refine ⟨trivial, wide_depth, ?_⟩; refine (CallsIn.inRound l (callsIn_wide.2 (HLx.out _ (Below.drew (Below.refl _ _))))).mono ?_; rintro e w2 ⟨rfl, hb2⟩; have e3' := (hb2.cell (p := ⟨w.heap.size, 0, none⟩) (World.block_lt_of_cell? W _ e3)).trans e3; have Hb2 := Lib.hid (show Below W.heap.size W w2 from ⟨hb2.os, hb2.tape, hb2.output, hb2.size, hb2.block⟩); clear hb2))
    all_goals
      have e4 := row_below HB.out.2.2.2.1 Hb2.out (lt_of_block HB.out.2.2.2.1)
      have e5 := row_below HB.out.2.2.2.2 Hb2.out (lt_of_block HB.out.2.2.2.2)
      have q4 := cell_of_one e4
      have q4f := free_of_one e4
      have q5 := cell_of_one e5
      have q5f := free_of_one e5
      have HE := Lib.hid (And.intro e4 e5)
      clear e4 e5
      gi_wp2
    all_goals first
      | exact layers_ret HB.out.1 HB.out.2.1 (by assumption) hg HB.out.2.2.1 Hb2.out HE.out.1 HE.out.2 (by omega) HL.out.1 hN
      | exact layers_on HB.out.1 HB.out.2.1 (by assumption) Hb2.out
  case hdone =>
    rintro D W ⟨hb, hk⟩ hD hK
    have hS := HL.out.2.1
    have hS1 := HL.out.2.2
    have e4 := row_below d4 hb (show w.heap.size + 1 < wL.heap.size by omega)
    have e5 := row_below d5 hb (show w.heap.size + 1 + 1 < wL.heap.size by omega)
    have q4 := cell_of_one e4
    have q4f := free_of_one e4
    have q5 := cell_of_one e5
    have q5f := free_of_one e5
    have HB := Lib.hid (And.intro hb (And.intro hk (And.intro e4 (And.intro e5 hK))))
    clear hb hk e4 e5 hK
    gi_wp2
    obtain ⟨X, hX⟩ : ∃ X, (W.setCell ⟨w.heap.size + 1, 0, none⟩ (.slice none 0 0)).setCell ⟨w.heap.size + 1 + 1, 0, none⟩ (.int .i64 5) = X := ⟨_, rfl⟩
    have x4 : X.heap[w.heap.size + 1]? = some (.cells #[.slice none 0 0] 22 (0, 0)) := by
      rw [← hX, Below.heap_setCell _ _ _ _ (by simp)]
      exact one_setCell HB.out.2.2.1
    have x5 : X.heap[w.heap.size + 1 + 1]? = some (.cells #[.int .i64 5] 24 (0, 0)) := by
      rw [← hX]
      exact one_setCell ((Below.heap_setCell _ _ _ _ (by simp)).trans HB.out.2.2.2.1)
    have xD : X.heap[D]? = some (.deferred (some [])) := by
      rw [← hX, Below.heap_setCell _ _ _ _ (by simp; omega), Below.heap_setCell _ _ _ _ (by simp; omega)]
      exact HB.out.2.2.2.2
    have xb : Below w.heap.size w X := by
      rw [← hX]
      exact ((HL.out.1.trans (HB.out.1.mono (by omega))).setCell (by simp) _).setCell (by simp; omega) _
    rw [hX]
    have z4 := cell_of_one ((World.putObj_heap_other (w := X) (r := D) (o := .deferred none) (by omega)).trans x4)
    have z5 := cell_of_one ((World.putObj_heap_other (w := X) (r := D) (o := .deferred none) (by omega)).trans x5)
    refine ⟨by simp, .inl ⟨_, _, rfl, run_takeDeferred xD, ?_⟩⟩
    refine ⟨.tuple #[.slice none 0 0, .int .i64 5], by simp [results, Try.results26, go_sem, z4, z5], _, _, rfl, xb.trans (below_putObj X _ (by omega)), ?_⟩
    rw [List.find?_eq_none.2 (fun o ho => by rw [HB.out.2.1 o ho]; exact Bool.false_ne_true)]
    exact ⟨rfl, rfl⟩
  case hstop =>
    rintro D N1 j ys W hpre ⟨rfl, ys', x, g, cp, rfl, h1, h2, h3, h4, h5, h6, h7⟩ hD hDN hK
    have hS := HL.out.2.1
    have hS1 := HL.out.2.2
    gi_wp2
    have z4 := cell_of_one ((World.putObj_heap_other (w := W) (r := D) (o := .deferred none) (by omega)).trans h5)
    have z5 := cell_of_one ((World.putObj_heap_other (w := W) (r := D) (o := .deferred none) (by omega)).trans h6)
    refine ⟨by simp, .inl ⟨_, _, rfl, run_takeDeferred hK, ?_⟩⟩
    refine ⟨.tuple #[.slice (some ⟨g, 0, none⟩) zs.length cp, .int .i64 0], by simp [results, Try.results26, go_sem, z4, z5], _, _, rfl, h7.trans (below_putObj W _ (by omega)), ?_⟩
    obtain ⟨t, ht⟩ := hpre
    rw [← ht, List.append_assoc, List.find?_append, List.find?_eq_none.2 (fun o ho => by rw [h1 o ho]; exact Bool.false_ne_true)]
    simp only [List.singleton_append, List.find?_cons, h2, Option.none_or]
    exact ⟨trivial, g, cp, rfl, by omega, ownsRow_of_block (ownsRow_weaken h4 (Nat.zero_le _)) (fun q hq => World.putObj_heap_other (by have := (h4.lt q hq).1; omega))⟩

end Go.Proofs.Yteankhgikpejhaa
