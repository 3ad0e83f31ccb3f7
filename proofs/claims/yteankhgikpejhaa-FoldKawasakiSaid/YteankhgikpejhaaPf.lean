/-
  The walk of 'Flat' at a vertex that closes.
-/
import Derived.Test.YteankhgikpejhaaOd
import Derived.Test.YteankhgikpejhaaFo
namespace Go.Proofs.Yteankhgikpejhaa
open Go.RowKit Go.Sort Go.Shelf
attribute [local go_sem] Oper.semAt_some

def FlatI (zs : List Int) (pat : ByteArray) (wL : World) (ys : List (List Nat)) (W : World) : Prop := Below wL.heap.size wL W ∧ ∀ o ∈ ys, ((crsOfV zs o).toList == pat.toList) = false
def FlatIx (zs : List Int) (pat : ByteArray) (w : World) (_N1 : Nat) (j : Code) (ys : List (List Nat)) (W : World) : Prop :=
  j = .ret ∧ ∃ ys' x, ys = ys' ++ [x] ∧ ((crsOfV zs x).toList == pat.toList) = true ∧
    W.heap[w.heap.size + 1]? = some (.cells #[.bool true] 4 (0, 0)) ∧ W.heap[w.heap.size + 2]? = some (.cells #[.int .i64 0] 24 (0, 0)) ∧ Below w.heap.size w W

/-- The world in which 'Flat' has laid its own. -/
def lwf (w : World) (pat : ByteArray) : World := ((w.alloc (.cells #[.string pat] 9)).alloc (.cells #[.bool false] 4)).alloc (.cells #[.int .i64 0] 24)
theorem lwf_below (w : World) (pat : ByteArray) : Below w.heap.size w (lwf w pat) := (((Below.refl _ _).alloc (Nat.le_refl _) _).alloc (by simp) _).alloc (by simp; omega) _
theorem lwf_size (w : World) (pat : ByteArray) : (lwf w pat).heap.size = w.heap.size + 3 := by simp [lwf]
theorem flat_on {zs : List Int} {pat : ByteArray} {wL W w2 : World} {ys : List (List Nat)} {x : List Nat} (hb : Below wL.heap.size wL W) (hk : ∀ o ∈ ys, ((crsOfV zs o).toList == pat.toList) = false) (h : ((crsOfV zs x).toList == pat.toList) = false) (hb2 : Below W.heap.size W w2) :
    Above wL.heap.size W w2 ∧ FlatI zs pat wL (ys ++ [x]) w2 :=
  ⟨Above.of_below hb2, hb.trans (hb2.mono hb.size), fun o ho => by
    rcases List.mem_append.1 ho with ho | ho
    · exact hk o ho
    · obtain rfl : o = x := by simpa using ho
      exact h⟩
theorem flat_ret {zs : List Int} {pat : ByteArray} {w wL W w2 : World} {ys : List (List Nat)} {x : List Nat} {N1 : Nat} {v4 v5 : Value} (hb : Below wL.heap.size wL W) (h : ((crsOfV zs x).toList == pat.toList) = true)
    (hb2 : Below W.heap.size W w2) (e4 : w2.heap[w.heap.size + 1]? = some (.cells #[v4] 4 (0, 0))) (e5 : w2.heap[w.heap.size + 1 + 1]? = some (.cells #[v5] 24 (0, 0)))
    (hs : w.heap.size + 1 + 1 < wL.heap.size) (hbw : Below w.heap.size w wL) :
    Above wL.heap.size W ((w2.setCell ⟨w.heap.size + 1, 0, none⟩ (.bool true)).setCell ⟨w.heap.size + 1 + 1, 0, none⟩ (.int .i64 0)) ∧
      FlatIx zs pat w N1 .ret (ys ++ [x]) ((w2.setCell ⟨w.heap.size + 1, 0, none⟩ (.bool true)).setCell ⟨w.heap.size + 1 + 1, 0, none⟩ (.int .i64 0)) := by
  refine ⟨((Above.of_below hb2).setCell (by simp; omega) _).setCell (by simp; omega) _, rfl, ys, x, rfl, h, ?_, ?_, ?_⟩
  · rw [Below.heap_setCell _ _ _ _ (by simp)]
    exact one_setCell e4
  · exact one_setCell ((Below.heap_setCell _ _ _ _ (by simp)).trans e5)
  · exact ((hbw.trans ((hb.mono (by omega)).trans (hb2.mono (by have := hb.size; omega)))).setCell (by simp) _).setCell (by simp; omega) _

/-- Whether a pattern is one of those of a vertex that closes. -/
def flatB (zs : List Int) (pat : ByteArray) : Bool := (ordersOf (vtxCl zs) zs.length).any fun o => (crsOfV zs o).toList == pat.toList

set_option maxRecDepth 100000 in
set_option maxHeartbeats 2000000 in
theorem Flat_good (a : Option Addr) (n cap m : Nat) (zs : List Int) (pat : ByteArray) (w : World) (hn : zs.length = n) (hz : Ints w a zs) (hs : vertexB zs = true) (hcl : closesB zs = true) (hp : patB pat n = true) :
    CallsIn Fence.wide m Try.prog 37 #[.slice a n cap, .string pat] w (Gives2 (.bool (flatB zs pat)) (.int .i64 0) w) := by
  subst hn
  obtain ⟨p1, p9, ps⟩ := vertex_parts hs
  have hz3 := hz.below (lwf_below w pat)
  have his := isVertex_any a zs.length cap zs (lwf w pat) rfl (by omega) hz3
  rw [hs] at his
  have hps : pat.size = zs.length := by simp [patB] at hp; exact hp.1
  have hip := isPattern_any pat zs.length (lwf w pat) (by omega) (by omega)
  rw [hp] at hip
  have hcs := clothOfVertex_true a zs.length cap zs (lwf w pat) rfl (by omega) (by omega) ps hcl hz3
  have His := Lib.hid his
  have Hip := Lib.hid hip
  have Hcs := Lib.hid hcs
  clear his hip hcs hz hz3 hps hp hcl
  have c3 : (lwf w pat).cell? ⟨w.heap.size, 0, none⟩ = some (.string pat) := by
    rw [lwf, World.cell?_alloc_past _ _ _ (by simp; omega), World.cell?_alloc_past _ _ _ (by simp), World.cell?_alloc_at _ _ _ _ rfl]; rfl
  refine callsIn_of_wp_marks Try.func37 rfl trivial ?_ rfl
  simp only [Try.ntmps37, List.size_toArray, List.length_cons, List.length_nil, Nat.reduceAdd, Nat.reduceSub, Array.replicate_succ, Array.replicate_zero, List.push_toArray, List.append_toArray, List.nil_append, List.cons_append]
  gi_wp2_with (first
    | ((try refine ⟨trivial, wide_depth, ?_⟩); gi_at_call 65; refine (callsIn_wide.2 His.out).mono ?_; rintro e w1 ⟨rfl, rfl⟩)
    | ((try refine ⟨trivial, wide_depth, ?_⟩); gi_at_call 62; refine (callsIn_wide.2 Hip.out).mono ?_; rintro e w1 ⟨rfl, rfl⟩)
    | ((try refine ⟨trivial, wide_depth, ?_⟩); gi_at_call 66; refine (callsIn_wide.2 Hcs.out).mono ?_; rintro e w1 ⟨v, rfl, hv, hb1⟩; obtain ⟨al, cl, ah, ch, ac, cc, rfl, hl, hh, hc⟩ := hv.slices; have H1 := Lib.hid (And.intro hb1 (And.intro hl (And.intro hh hc))); clear hb1 hl hh hc hv)
    | ((try refine ⟨trivial, wide_depth, ?_⟩); gi_at_call 52; refine (callsIn_wide.2 (orders_any _ _ _ _)).mono ?_; rintro e w2 ⟨rfl, rfl⟩))
  have hb1 := H1.out.1
  have hs1 := hb1.size
  rw [lwf_size] at hs1
  obtain ⟨wL, hwL⟩ : ∃ wL, (w1.alloc (.cells #[.slice al zs.length cl, .slice ah zs.length ch, .slice ac (zs.length - 1 + 1) cc] 73)).alloc (.cells #[.slice al zs.length cl, .slice ah zs.length ch, .slice ac (zs.length - 1 + 1) cc] 73) = wL := ⟨_, rfl⟩
  have hLs : wL.heap.size = w1.heap.size + 2 := by rw [← hwL]; simp
  have hL1 : Below w1.heap.size w1 wL := by rw [← hwL]; exact ((Below.refl _ _).alloc (Nat.le_refl _) _).alloc (by simp) _
  have hbox6 : Trip wL w1.heap.size 73 (.slice al zs.length cl) (.slice ah zs.length ch) (.slice ac (zs.length - 1 + 1) cc) := by rw [← hwL]; exact (Trip.new _ _ _ _ _).alloc _
  have hbox : Trip wL (w1.heap.size + 1) 73 (.slice al zs.length cl) (.slice ah zs.length ch) (.slice ac (vtxCl zs).crs.length cc) := by
    rw [← hwL, vtx_length]
    have := Trip.new (w1.alloc (.cells #[.slice al zs.length cl, .slice ah zs.length ch, .slice ac (zs.length - 1 + 1) cc] 73)) 73 (.slice al zs.length cl) (.slice ah zs.length ch) (.slice ac (zs.length - 1 + 1) cc)
    rwa [World.size_alloc] at this
  have r1 := ownsRow_kept (ownsRow_weaken H1.out.2.1 (Nat.zero_le _)) hL1
  have r2 := ownsRow_kept (ownsRow_weaken H1.out.2.2.1 (Nat.zero_le _)) hL1
  have r3 := ownsRow_kept (ownsRow_weaken H1.out.2.2.2 (Nat.zero_le _)) hL1
  rw [vtx_low] at r1
  rw [vtx_high] at r2
  have hlwL : Below (lwf w pat).heap.size (lwf w pat) wL := hb1.trans (hL1.mono hb1.size)
  have hbw : Below w.heap.size w wL := (lwf_below w pat).trans (hlwL.mono (by rw [lwf_size]; omega))
  have d3 : wL.heap[w.heap.size]? = some (.cells #[.string pat] 9 (0, 0)) := (hlwL.block _ (by rw [lwf_size]; omega)).trans (by rw [lwf, Below.heap_alloc _ _ _ (by simp; omega), Below.heap_alloc _ _ _ (by simp)]; exact heap_alloc_new w _)
  have d4 : wL.heap[w.heap.size + 1]? = some (.cells #[.bool false] 4 (0, 0)) := (hlwL.block _ (by rw [lwf_size]; omega)).trans (by
    rw [lwf, Below.heap_alloc _ _ _ (by simp)]
    have := heap_alloc_new (w.alloc (.cells #[.string pat] 9)) (.cells #[.bool false] 4)
    rwa [World.size_alloc] at this)
  have d5 : wL.heap[w.heap.size + 1 + 1]? = some (.cells #[.int .i64 0] 24 (0, 0)) := (hlwL.block _ (by rw [lwf_size]; omega)).trans (by
    have := heap_alloc_new ((w.alloc (.cells #[.string pat] 9)).alloc (.cells #[.bool false] 4)) (.cells #[.int .i64 0] 24)
    rw [World.size_alloc, World.size_alloc] at this
    exact this)
  have hLet : Hid (∀ (W W' : World) (N1 g cp : Nat) (x : List Nat), Below wL.heap.size wL W → Below W.heap.size W W' → W.ownsRow N1 3 1 (.slice (some ⟨g, 0, none⟩) zs.length cp) zs.length (intsOf x) → (∀ y ∈ x, y < zs.length) →
      Calls Try.prog 51 #[.agg #[.slice al zs.length cl, .slice ah zs.length ch, .slice ac (zs.length - 1 + 1) cc], .slice (some ⟨g, 0, none⟩) zs.length cp] W' fun e w' => e = .returned (.string (crsOfV zs x)) ∧ Below W'.heap.size W' w') := Lib.hid fun W W' N1 g cp x hb hb' hrow hx => by
    have hk := hb.trans (hb'.mono hb.size)
    have := letters_any al ac (some ⟨g, 0, none⟩) cl cc cp zs.length (.slice ah zs.length ch) (vtxCl zs).crs x W' (by omega) (by omega) (by simp; omega) (ownsRow_kept r3 hk) (by simpa [intsOf] using hrow.1) (Ints.of_nats (ownsRow_kept hrow hb')) hx (vtx_in p1)
    rw [vtx_length] at this
    exact this
  rw [hwL]
  have HL := Lib.hid (And.intro hbw (And.intro hLs hs1))
  clear hbw hwL hL1 hb1 H1 hlwL c3
  refine wpIn_range_orders (vtxCl zs) al ah ac cl ch cc zs.length (w1.heap.size + 1) rfl (by omega) (by omega) (by simp; omega) (vtx_in p1) rfl (FlatI zs pat wL) (FlatIx zs pat w) ?hI ?hcl ?hIx ⟨Below.refl _ _, by simp⟩
    (fun g cp => { tmps := #[.slice a zs.length cap, .string pat, undef, .pointer (some ⟨w.heap.size, 0, none⟩), .pointer (some ⟨w.heap.size + 1, 0, none⟩), .pointer (some ⟨w.heap.size + 1 + 1, 0, none⟩), .pointer (some ⟨w1.heap.size, 0, none⟩), .bool true, .slice (some ⟨g, 0, none⟩) zs.length cp, .slice a zs.length cap, .bool true, .bool false, .string pat, .slice a zs.length cap, .int .i64 zs.length, .bool true, .bool false,
      .tuple #[.agg #[.slice al zs.length cl, .slice ah zs.length ch, .slice ac (zs.length - 1 + 1) cc], .bool true], .slice a zs.length cap, .tuple #[.agg #[.slice al zs.length cl, .slice ah zs.length ch, .slice ac (zs.length - 1 + 1) cc], .bool true], .agg #[.slice al zs.length cl, .slice ah zs.length ch, .slice ac (zs.length - 1 + 1) cc], .bool true, .bool true, .bool false, .agg #[.slice al zs.length cl, .slice ah zs.length ch, .slice ac (zs.length - 1 + 1) cc], .func (.func 73) #[] #[.pointer (some ⟨w1.heap.size + 1, 0, none⟩)], .slice (some ⟨g, 0, none⟩) zs.length cp, undef, undef, undef, undef, undef], defers := [] }) ?hassign ?hbody ?hdone ?hstop
  case hI =>
    rintro ys W W' ⟨hb, hk⟩ hb'
    exact ⟨hb.trans hb', hk⟩
  case hcl =>
    rintro ys W ⟨hb, _⟩
    exact ⟨hbox.below hb hbox.lt, ownsRow_kept r1 hb, ownsRow_kept r2 hb, ownsRow_kept r3 hb⟩
  case hIx =>
    rintro N1 j ys W W' ⟨rfl, ys', x, rfl, h1, h5, h6, h7⟩ hm
    have hS := HL.out.2.1
    have hS1 := HL.out.2.2
    exact ⟨rfl, ys', x, rfl, h1, (hm.block _ (.inl (by omega))).trans h5, (hm.block _ (.inl (by omega))).trans h6, h7.trans (hm.below.mono (by omega))⟩
  case hassign =>
    intro l g cp W K hK
    gi_wp2
    simpa using hK
  case hbody =>
    rintro l N1 g cp ys x W ⟨hb, hk⟩ hN hg hrow hx
    have hS := HL.out.2.1
    have hS1 := HL.out.2.2
    have e3 := cell_of_one (row_below d3 hb (by omega))
    have e4 := row_below d4 hb (show w.heap.size + 1 < wL.heap.size by omega)
    have e5 := row_below d5 hb (show w.heap.size + 1 + 1 < wL.heap.size by omega)
    have e6 := hbox6.below hb (by omega)
    have f0 := e6.c0
    have f1 := e6.c1
    have f2 := e6.c2
    have HLx := Lib.hid (fun W' hW' => hLet.out W W' N1 g cp x hb hW' hrow hx)
    have HB := Lib.hid (And.intro hb (And.intro hk (And.intro e4 e5)))
    clear hb hk hrow e4 e5 e6
    gi_wp2
    have hmx : Try.prog.follows .mixedOrders = true := by kernel_rfl
    gi_region_with_o (first
      | (refine ⟨trivial, wide_depth, ?_⟩; refine (CallsIn.inRound l (callsIn_wide.2 (HLx.out _ (Below.drew (Below.refl _ _))))).mono ?_; rintro e w2 ⟨rfl, hb2⟩; have e3' := (hb2.cell (p := ⟨w.heap.size, 0, none⟩) (World.block_lt_of_cell? W _ e3)).trans e3; have Hb2 := Lib.hid (show Below W.heap.size W w2 from ⟨hb2.os, hb2.tape, hb2.output, hb2.size, hb2.block⟩); clear hb2))
    all_goals
      have e4 := row_below HB.out.2.2.1 Hb2.out (lt_of_block HB.out.2.2.1)
      have e5 := row_below HB.out.2.2.2 Hb2.out (lt_of_block HB.out.2.2.2)
      have q4 := cell_of_one e4
      have q4f := free_of_one e4
      have q5 := cell_of_one e5
      have q5f := free_of_one e5
      have HE := Lib.hid (And.intro e4 e5)
      clear e4 e5
      gi_wp2
    all_goals first
      | exact flat_ret HB.out.1 (by assumption) Hb2.out HE.out.1 HE.out.2 (by omega) HL.out.1
      | exact flat_on HB.out.1 HB.out.2.1 (by assumption) Hb2.out
  case hdone =>
    rintro D W ⟨hb, hk⟩ hD hK
    have hS := HL.out.2.1
    have hS1 := HL.out.2.2
    have e4 := row_below d4 hb (show w.heap.size + 1 < wL.heap.size by omega)
    have e5 := row_below d5 hb (show w.heap.size + 1 + 1 < wL.heap.size by omega)
    have q4 := cell_of_one e4
    have q4f := free_of_one e4
    have q5 := cell_of_one e5
    have q5f := free_of_one e5
    have HB := Lib.hid (And.intro hb (And.intro hk (And.intro e4 (And.intro e5 hK))))
    clear hb hk e4 e5 hK
    gi_wp2
    obtain ⟨X, hX⟩ : ∃ X, (W.setCell ⟨w.heap.size + 1, 0, none⟩ (.bool false)).setCell ⟨w.heap.size + 1 + 1, 0, none⟩ (.int .i64 0) = X := ⟨_, rfl⟩
    have x4 : X.heap[w.heap.size + 1]? = some (.cells #[.bool false] 4 (0, 0)) := by
      rw [← hX, Below.heap_setCell _ _ _ _ (by simp)]
      exact one_setCell HB.out.2.2.1
    have x5 : X.heap[w.heap.size + 1 + 1]? = some (.cells #[.int .i64 0] 24 (0, 0)) := by
      rw [← hX]
      exact one_setCell ((Below.heap_setCell _ _ _ _ (by simp)).trans HB.out.2.2.2.1)
    have xD : X.heap[D]? = some (.deferred (some [])) := by
      rw [← hX, Below.heap_setCell _ _ _ _ (by simp; omega), Below.heap_setCell _ _ _ _ (by simp; omega)]
      exact HB.out.2.2.2.2
    have xb : Below w.heap.size w X := by
      rw [← hX]
      exact ((HL.out.1.trans (HB.out.1.mono (by omega))).setCell (by simp) _).setCell (by simp; omega) _
    rw [hX]
    have z4 := cell_of_one ((World.putObj_heap_other (w := X) (r := D) (o := .deferred none) (by omega)).trans x4)
    have z5 := cell_of_one ((World.putObj_heap_other (w := X) (r := D) (o := .deferred none) (by omega)).trans x5)
    refine ⟨by simp, .inl ⟨_, _, rfl, run_takeDeferred xD, ?_⟩⟩
    refine ⟨.tuple #[.bool false, .int .i64 0], by simp [results, Try.results37, go_sem, z4, z5], ?_, xb.trans (below_putObj X _ (by omega))⟩
    have : flatB zs pat = false := by
      rw [flatB, List.any_eq_false]
      exact fun o ho => by rw [HB.out.2.1 o ho]; exact Bool.false_ne_true
    rw [this]
  case hstop =>
    rintro D N1 j ys W hpre ⟨rfl, ys', x, rfl, h1, h5, h6, h7⟩ hD hDN hK
    have hS := HL.out.2.1
    have hS1 := HL.out.2.2
    gi_wp2
    have z4 := cell_of_one ((World.putObj_heap_other (w := W) (r := D) (o := .deferred none) (by omega)).trans h5)
    have z5 := cell_of_one ((World.putObj_heap_other (w := W) (r := D) (o := .deferred none) (by omega)).trans h6)
    refine ⟨by simp, .inl ⟨_, _, rfl, run_takeDeferred hK, ?_⟩⟩
    refine ⟨.tuple #[.bool true, .int .i64 0], by simp [results, Try.results37, go_sem, z4, z5], ?_, h7.trans (below_putObj W _ (by omega))⟩
    obtain ⟨t, ht⟩ := hpre
    have : flatB zs pat = true := by
      rw [flatB, ← ht, List.append_assoc, List.any_append]
      simp [h1]
    rw [this]

theorem lwf_3 (w : World) (pat : ByteArray) : (lwf w pat).heap[w.heap.size]? = some (.cells #[.string pat] 9 (0, 0)) := by
  rw [lwf, Below.heap_alloc _ _ _ (by simp; omega), Below.heap_alloc _ _ _ (by simp)]
  exact heap_alloc_new w _
theorem lwf_4 (w : World) (pat : ByteArray) : (lwf w pat).heap[w.heap.size + 1]? = some (.cells #[.bool false] 4 (0, 0)) := by
  rw [lwf, Below.heap_alloc _ _ _ (by simp)]
  have := heap_alloc_new (w.alloc (.cells #[.string pat] 9)) (.cells #[.bool false] 4)
  rwa [World.size_alloc] at this
theorem lwf_5 (w : World) (pat : ByteArray) : (lwf w pat).heap[w.heap.size + 1 + 1]? = some (.cells #[.int .i64 0] 24 (0, 0)) := by
  have := heap_alloc_new ((w.alloc (.cells #[.string pat] 9)).alloc (.cells #[.bool false] 4)) (.cells #[.int .i64 0] 24)
  rw [World.size_alloc, World.size_alloc] at this
  exact this
theorem flat_fin {w w1 : World} {x : Int} (a4 : w1.heap[w.heap.size + 1]? = some (.cells #[.bool false] 4 (0, 0))) (a5 : w1.heap[w.heap.size + 1 + 1]? = some (.cells #[.int .i64 0] 24 (0, 0))) (ab : Below w.heap.size w w1) :
    ∃ X, (w1.setCell ⟨w.heap.size + 1, 0, none⟩ (.bool false)).setCell ⟨w.heap.size + 1 + 1, 0, none⟩ (.int .i64 x) = X ∧ X.cell? ⟨w.heap.size + 1, 0, none⟩ = some (.bool false) ∧ X.cell? ⟨w.heap.size + 1 + 1, 0, none⟩ = some (.int .i64 x) ∧ Below w.heap.size w X := by
  refine ⟨_, rfl, ?_, ?_, ?_⟩
  · refine cell_of_one (t := 4) ?_
    rw [Below.heap_setCell _ _ _ _ (by simp)]
    exact one_setCell a4
  · exact cell_of_one (one_setCell ((Below.heap_setCell _ _ _ _ (by simp)).trans a5))
  · exact (ab.setCell (by simp) _).setCell (by simp; omega) _

set_option maxRecDepth 100000 in
set_option maxHeartbeats 2000000 in
theorem Flat_bad (a : Option Addr) (n cap : Nat) (zs : List Int) (s : ByteArray) (x : Int) (w : World) (hn : zs.length = n) (hn2 : n ≤ 1000) (hs : s.size ≤ 1000000) (hz : Ints w a zs) (h : (vertexB zs = false ∧ x = 1) ∨ (vertexB zs = true ∧ patB s n = false ∧ x = 2)) :
    Calls Try.prog 37 #[.slice a n cap, .string s] w (Gives2 (.bool false) (.int .i64 x) w) := by
  have his := isVertex_any a n cap zs (lwf w s) hn (by omega) (hz.below (lwf_below w s))
  rcases h with ⟨h1, rfl⟩ | ⟨h1, h2, rfl⟩
  · rw [h1] at his
    have His := Lib.hid his
    clear his h1 hz hn
    go_enter Try.func37, Try.ntmps37
    go_wp2_with (go_at_call 65; refine His.out.mono ?_; rintro e w1 ⟨rfl, hw1⟩; have a4 := lwf_4 w s; have a5 := lwf_5 w s; have ab := lwf_below w s; rw [hw1] at a4 a5 ab; clear hw1; have q4 := cell_of_one a4; have q4f := free_of_one a4; have q5 := cell_of_one a5; have q5f := free_of_one a5; have HA := Lib.hid (And.intro a4 (And.intro a5 ab)); clear a4 a5 ab)
    obtain ⟨X, hX, z4, z5, xb⟩ := flat_fin (x := 1) HA.out.1 HA.out.2.1 HA.out.2.2
    rw [hX]
    exact bodyPost_ret (v := .tuple #[.bool false, .int .i64 1]) (by simp [results, Try.results37, go_sem, z4, z5]) rfl ⟨rfl, xb⟩
  · rw [h1] at his
    have His := Lib.hid his
    obtain ⟨p1, p9, ps⟩ := vertex_parts h1
    have hpat := isPattern_any s n (lwf w s) (by omega) (by omega)
    rw [h2] at hpat
    have Hpat := Lib.hid hpat
    clear his h1 h2 hz hn hpat ps
    go_enter Try.func37, Try.ntmps37
    go_wp2_with (first
      | (go_at_call 65; refine His.out.mono ?_; rintro e w1 ⟨rfl, hw1⟩; have a3 := lwf_3 w s; have a4 := lwf_4 w s; have a5 := lwf_5 w s; have ab := lwf_below w s; rw [hw1] at a3 a4 a5 ab Hpat; clear hw1; have q3 := cell_of_one a3; have q4 := cell_of_one a4; have q4f := free_of_one a4; have q5 := cell_of_one a5; have q5f := free_of_one a5; have HA := Lib.hid (And.intro a4 (And.intro a5 ab)); clear a3 a4 a5 ab)
      | (go_at_call 62; refine Hpat.out.mono ?_; rintro e w2 ⟨rfl, rfl⟩))
    obtain ⟨X, hX, z4, z5, xb⟩ := flat_fin (x := 2) HA.out.1 HA.out.2.1 HA.out.2.2
    rw [hX]
    exact bodyPost_ret (v := .tuple #[.bool false, .int .i64 2]) (by simp [results, Try.results37, go_sem, z4, z5]) rfl ⟨rfl, xb⟩

set_option maxRecDepth 100000 in
set_option maxHeartbeats 2000000 in
theorem Flat_open (a : Option Addr) (n cap : Nat) (zs : List Int) (s : ByteArray) (w : World) (hn : zs.length = n) (hz : Ints w a zs) (hs : vertexB zs = true) (hcl : closesB zs = false) (hp : patB s n = true) :
    Calls Try.prog 37 #[.slice a n cap, .string s] w (Gives2 (.bool false) (.int .i64 0) w) := by
  obtain ⟨p1, p9, ps⟩ := vertex_parts hs
  have hps : s.size = n := by simp [patB] at hp; exact hp.1
  have his := isVertex_any a n cap zs (lwf w s) hn (by omega) (hz.below (lwf_below w s))
  rw [hs] at his
  have hpat := isPattern_any s n (lwf w s) (by omega) (by omega)
  rw [hp] at hpat
  have hcs := clothOfVertex_false a n cap zs (lwf w s) hn (by omega) (by omega) ps hcl (hz.below (lwf_below w s))
  have His := Lib.hid his
  have Hpat := Lib.hid hpat
  have Hcs := Lib.hid hcs
  clear his hs hz hn hpat ps hp hps hcs hcl
  go_enter Try.func37, Try.ntmps37
  go_wp2_with (first
    | (go_at_call 65; refine His.out.mono ?_; rintro e w1 ⟨rfl, hw1⟩; have a3 := lwf_3 w s; have a4 := lwf_4 w s; have a5 := lwf_5 w s; have ab := lwf_below w s; have az := lwf_size w s; rw [hw1] at a3 a4 a5 ab az Hpat Hcs; clear hw1; have q3 := cell_of_one a3; have HA := Lib.hid (And.intro a4 (And.intro a5 (And.intro ab az))); clear a3 a4 a5 ab az)
    | (go_at_call 62; refine Hpat.out.mono ?_; rintro e w2 ⟨rfl, rfl⟩)
    | (go_at_call 66; refine Hcs.out.mono ?_; rintro e w2 ⟨rfl, hb2⟩; have hb3 := hb2.alloc hb2.size (.cells #[.slice none 0 0, .slice none 0 0, .slice none 0 0] 73); have a4 := row_below HA.out.1 hb3 (lt_of_block HA.out.1); have a5 := row_below HA.out.2.1 hb3 (lt_of_block HA.out.2.1); have q4 := cell_of_one a4; have q4f := free_of_one a4; have q5 := cell_of_one a5; have q5f := free_of_one a5; have HE := Lib.hid (And.intro a4 (And.intro a5 (HA.out.2.2.1.trans (hb3.mono (by have := HA.out.2.2.2; omega))))); clear a4 a5 hb2 hb3))
  obtain ⟨X, hX, z4, z5, xb⟩ := flat_fin (x := 0) HE.out.1 HE.out.2.1 HE.out.2.2
  trace_state
  rw [hX]
  exact bodyPost_ret (v := .tuple #[.bool false, .int .i64 0]) (by simp [results, Try.results37, go_sem, z4, z5]) rfl ⟨rfl, xb⟩

end Go.Proofs.Yteankhgikpejhaa
