/-
  The iterator of the orders: its contract, the range over it, Count.
-/
import Derived.Test.YteckeobhlfddlaaFi
import Derived.Laws.EntriesVeiled
namespace Go.Proofs.Yteckeobhlfddlaa

section
open Go.RowKit Go.Sort Go.Shelf
attribute [local go_sem] Oper.semAt_some

/-- All orders that fold a cloth of n segments. -/
def ordersOf (c : Cl) (n : Nat) : List (List Nat) := placeAll c n n (List.replicate n (-1)) []

/-- What the iterator hands back. -/
def Iterated (S : Nat) (c : Cl) (n : Nat) (JJ : Nat → Bool → List (List Nat) → World → Prop) (e : Ending) (W' : World) : Prop :=
  (∃ v, e = .returned v) ∧ ∃ N1 r zs, S < N1 ∧ JJ N1 r zs W' ∧ (r = true → zs = ordersOf c n) ∧ (r = false → zs <+: ordersOf c n)

theorem PS.start (d : Ids) (hd : d.ok) (w0 w1 : World) (hb : Below (w0.heap.size + 1) (w0.alloc (.cells #[.func (.yield d.l) #[] #[]] 58)) w1) (hN0 : d.N0 = w0.heap.size) (hBy : d.By = w0.heap.size) (hBl : d.Bl = w1.heap.size) (hBo : d.Bo = w1.heap.size + 1) (hBp : d.Bp = w1.heap.size + 2) (hN1 : d.N1 = w1.heap.size + 3)
    (hg : w1.heap[d.gl]? = some (.cells (List.replicate d.n (Value.int .i64 (-1))).toArray 3 (0, 0))) :
    PS d (((w1.alloc (.cells #[.slice (some ⟨d.gl, 0, none⟩) d.n d.n] 22)).alloc (.cells #[.slice none 0 0] 22)).alloc (.cells #[d.fnV] 84)) (List.replicate d.n (-1)) [] := by
  have k0 := hd.h0; have k1 := hd.h1; have k2 := hd.h2; have k3 := hd.h3; have k4 := hd.h4; have k5 := hd.h5
  have hs := hb.size
  simp at hs
  have old : ∀ b, b < w1.heap.size → (((w1.alloc (.cells #[.slice (some ⟨d.gl, 0, none⟩) d.n d.n] 22)).alloc (.cells #[.slice none 0 0] 22)).alloc (.cells #[d.fnV] 84)).heap[b]? = w1.heap[b]? := fun b hb => by
    rw [Below.heap_alloc _ _ _ (by simp; omega), Below.heap_alloc _ _ _ (by simp; omega), Below.heap_alloc _ _ _ hb]
  refine ⟨?_, ?_, ?_, by simp, ?_, ⟨none, 0, ?_, World.ownsRow_nil _ _ _ _, by simp [Value.ownBlock]⟩, by simp; omega⟩
  · rw [old _ (by omega), hBy]
    exact (hb.block _ (by omega)).trans (heap_alloc_new w0 _)
  · rw [Below.heap_alloc _ _ _ (by simp; omega), Below.heap_alloc _ _ _ (by simp; omega), hBl]
    exact heap_alloc_new w1 _
  · rw [old _ (by omega), hg]
    congr 3
    simp
  · have := heap_alloc_new ((w1.alloc (.cells #[.slice (some ⟨d.gl, 0, none⟩) d.n d.n] 22)).alloc (.cells #[.slice none 0 0] 22)) (.cells #[d.fnV] 84)
    rw [hBp]
    simpa using this
  · rw [Below.heap_alloc _ _ _ (by simp; omega), hBo]
    have := heap_alloc_new (w1.alloc (.cells #[.slice (some ⟨d.gl, 0, none⟩) d.n d.n] 22)) (.cells #[.slice none 0 0] 22)
    simpa using this

set_option maxRecDepth 100000 in
set_option maxHeartbeats 2000000 in
theorem orders1_any (c : Cl) (al ah ac : Option Addr) (cl ch cc n l Bc m : Nat) (JJ : Nat → Bool → List (List Nat) → World → Prop) (W : World) (h1 : 1 ≤ n) (h9 : n ≤ 9) (hBc : Bc < W.heap.size)
    (hW : ∀ d : Ids, d.ok → d.N0 = W.heap.size → d.Bc = Bc → d.l = l → d.n = n → Words d c al ah ac cl ch cc (JJ d.N1)) (h0 : ∀ N1 W', Below W.heap.size W W' → JJ N1 true [] W')
    (hbox : Trip W Bc 63 (.slice al n cl) (.slice ah n ch) (.slice ac c.crs.length cc)) :
    CallsIn Fence.wide m Try.prog 39 #[.func (.yield l) #[] #[], .pointer (some ⟨Bc, 0, none⟩)] W (Iterated W.heap.size c n JJ) := by
  have b0 := hbox.c0
  have b1 := hbox.c1
  have b2 := hbox.c2
  have hmf : ∀ (fn : Fn) (first cap : Array Value) (w : World), (Instr.makeFunc fn first cap).run Try.prog w = .ok (.func fn first cap) w := fun _ _ _ _ => rfl
  have HN : Hid (∀ w0 : World, Calls Try.prog 40 #[.agg #[.slice al n cl, .slice ah n ch, .slice ac c.crs.length cc]] w0
      (Gives (fun v w' => ∃ g, v = .slice (some ⟨g, 0, none⟩) n n ∧ w0.heap.size ≤ g ∧ w'.heap[g]? = some (.cells (List.replicate n (Value.int .i64 (-1))).toArray 3 (0, 0))) w0)) :=
    Lib.hid fun w0 => noLayers_any al cl n _ _ w0 h1 (by omega)
  refine callsIn_of_wp Try.func39 rfl trivial ?_ rfl
  simp only [Try.ntmps39, List.size_toArray, List.length_cons, List.length_nil, Nat.reduceAdd, Nat.reduceSub, Array.replicate_succ, Array.replicate_zero, List.push_toArray, List.append_toArray, List.nil_append, List.cons_append]
  gi_wp2_with ((try refine ⟨trivial, wide_depth, ?_⟩); gi_at_call 40; refine (callsIn_wide.2 (HN.out _)).mono ?_; rintro e w1 ⟨u, rfl, ⟨g, rfl, hg1, hg2⟩, hb1⟩; have H1 := Lib.hid (And.intro hg1 (And.intro hg2 hb1)); clear hg1 hg2 hb1)
  have hb1 := H1.out.2.2
  have hg1 := H1.out.1
  have hsz := hb1.size
  simp at hsz hg1
  have hd : (⟨W.heap.size, w1.heap.size + 3, W.heap.size, w1.heap.size, g, w1.heap.size + 1, w1.heap.size + 1 + 1, Bc, l, n⟩ : Ids).ok := ⟨Nat.le_refl _, hg1, (Array.getElem?_eq_some_iff.1 H1.out.2.1).1, by simp, by simp, by simp, hBc, h1, h9⟩
  have hP := PS.start _ hd W w1 (by simpa using hb1) rfl rfl rfl rfl rfl rfl H1.out.2.1
  have hJ := h0 (w1.heap.size + 3) _ ((((((Below.refl _ W).alloc (Nat.le_refl _) _).trans (hb1.mono (by simp))).alloc (by omega) (.cells #[.slice (some ⟨g, 0, none⟩) n n] 22)).alloc (by simp; omega) (.cells #[.slice none 0 0] 22)).alloc (by simp; omega) (.cells #[Ids.fnV ⟨W.heap.size, w1.heap.size + 3, W.heap.size, w1.heap.size, g, w1.heap.size + 1, w1.heap.size + 1 + 1, Bc, l, n⟩] 84))
  refine ⟨trivial, wide_depth, ?_⟩
  refine (place_any _ hd c al ah ac cl ch cc (JJ (w1.heap.size + 3)) (hW _ hd rfl rfl rfl rfl) n (m - 1) _ _ [] _ hP hJ (by simp) (by simp)).mono ?_
  rintro e W4 ⟨r, zs, rfl, hP4, hJ4, hz1, hz2⟩
  have HS := Lib.hid (show W.heap.size < w1.heap.size + 3 by omega)
  have H4 := Lib.hid (And.intro hJ4 (And.intro hz1 hz2))
  clear hP4 hJ4 hz1 hz2 hP hJ hb1 hg1 hsz
  gi_wp2
  go_end0
  exact ⟨⟨_, rfl⟩, _, r, zs, HS.out, H4.out.1, H4.out.2.1, H4.out.2.2⟩
end

section
open Go.RowKit Go.Sort Go.Shelf

theorem below_putObj {B : Nat} (W : World) {l : Nat} (o : Obj) (h : B ≤ l) : Below B W (W.putObj l o) :=
  ⟨rfl, rfl, rfl, by simp, fun k hk => World.putObj_heap_other (by omega)⟩
theorem mid_putObj {N0 N1 : Nat} (W : World) {l : Nat} (o : Obj) (h0 : N0 ≤ l) (h1 : l < N1) : Mid N0 N1 W (W.putObj l o) :=
  ⟨rfl, rfl, rfl, by simp, fun k hk => World.putObj_heap_other (by omega)⟩
theorem Above.refl (N : Nat) (W : World) : Above N W W := ⟨Nat.le_refl _, fun _ _ _ => rfl⟩
theorem Above.trans {N : Nat} {A B C : World} (h : Above N A B) (k : Above N B C) : Above N A C :=
  ⟨Nat.le_trans h.size k.size, fun b h0 h1 => (k.block b h0 (Nat.lt_of_lt_of_le h1 h.size)).trans (h.block b h0 h1)⟩
theorem Above.setCell {N : Nat} {A B : World} (h : Above N A B) {a : Addr} (ha : a.block < N) (v : Value) : Above N A (B.setCell a v) :=
  ⟨by have := h.size; show A.heap.size ≤ (B.heap.modify _ _).size; rw [Array.size_modify]; exact this, fun b h0 h1 => (Below.heap_setCell B a v b (by omega)).trans (h.block b h0 h1)⟩
theorem Above.of_below {N : Nat} {A B : World} (h : Below A.heap.size A B) : Above N A B := ⟨h.size, fun b _ h1 => h.block b h1⟩
theorem Mid.below {N0 N1 : Nat} {A B : World} (h : Mid N0 N1 A B) : Below N0 A B := ⟨h.os, h.tape, h.output, by rw [h.size]; exact Nat.le_refl _, fun k hk => h.block k (.inl hk)⟩
theorem Mid.mono {N0 N0' N1 : Nat} {A B : World} (h : Mid N0 N1 A B) (h0 : N0' ≤ N0) : Mid N0' N1 A B := ⟨h.os, h.tape, h.output, h.size, fun b hb => h.block b (by omega)⟩

/-- How the body of a round may be left. -/
def roundWord (S : Nat) (I : List (List Nat) → World → Prop) (Ix : Code → List (List Nat) → World → Prop) (xs : List (List Nat)) (W : World) : Exit → Act → World → Prop
  | .normal, _, W' => Above S W W' ∧ I xs W'
  | .ret, _, W' => Above S W W' ∧ Ix .ret xs W'
  | .exit id, _, W' => Above S W W' ∧ Ix (.exit id) xs W'
  | .goto t, _, W' => Above S W W' ∧ Ix (.goto t) xs W'
  | .panic _, _, _ => False
  | .outgrown, _, _ => False

set_option maxHeartbeats 1000000 in
theorem wpIn_range_orders {m : Nat} {g : Operand} {ps : Array Tmp} {assign body : Code} {Q : Exit → Act → World → Prop} {a : Act} {w : World} (c : Cl) (al ah ac : Option Addr) (cl ch cc n Bc : Nat)
    (hg : a.eval g = .func (.func 39) #[] #[.pointer (some ⟨Bc, 0, none⟩)]) (h1 : 1 ≤ n) (h9 : n ≤ 9)
    (hc9 : c.crs.length ≤ 9) (hcn : ∀ f ∈ c.crs, f.first < n ∧ f.second < n) (hps : ps.size = 1)
    (I : List (List Nat) → World → Prop) (Ix : Nat → Code → List (List Nat) → World → Prop)
    (hI : ∀ ys W W', I ys W → Below w.heap.size W W' → I ys W') (hcl : ∀ ys W, I ys W → Trip W Bc 63 (.slice al n cl) (.slice ah n ch) (.slice ac c.crs.length cc) ∧ W.ownsRow 0 3 1 (.slice al n cl) n (c.low.map (Value.int .i64)) ∧
      W.ownsRow 0 3 1 (.slice ah n ch) n (c.high.map (Value.int .i64)) ∧ W.ownsRow 0 87 3 (.slice ac c.crs.length cc) c.crs.length (crCells c.crs))
    (hIx : ∀ N1 j ys W W', Ix N1 j ys W → Mid w.heap.size N1 W W' → Ix N1 j ys W') (h0 : I [] w) (a₁ : Nat → Nat → Act)
    (hassign : ∀ (l g cap : Nat) (W : World) (K : Act → World → Prop), K (a₁ g cap) W →
      assign.wpIn (Fence.wide.inRound l) (m - 1 - 1) Try.prog (Exit.then K (fun _ _ _ => False)) { tmps := (ps.zip #[.slice (some ⟨g, 0, none⟩) n cap]).foldl (fun t (p, v) => t.setIfInBounds p v) a.tmps, defers := [] } W)
    (hbody : ∀ (l N1 g cap : Nat) (ys : List (List Nat)) (x : List Nat) (W : World), I ys W → w.heap.size + 2 < N1 → N1 ≤ g → W.ownsRow N1 3 1 (.slice (some ⟨g, 0, none⟩) n cap) n (intsOf x) → (∀ y ∈ x, y < n) →
      body.wpIn (Fence.wide.inRound l) (m - 1 - 1) Try.prog (roundWord w.heap.size I (Ix N1) (ys ++ [x]) W) (a₁ g cap) W)
    (hdone : ∀ (D : Nat) (W : World), I (ordersOf c n) W → w.heap.size ≤ D → W.heap[D]? = some (.deferred (some [])) → Q .normal { a with defers := { target := .collected D, args := #[] } :: a.defers } W)
    (hstop : ∀ (D N1 : Nat) (j : Code) (ys : List (List Nat)) (W : World), ys <+: ordersOf c n → Ix N1 j ys W → w.heap.size ≤ D → D < N1 → W.heap[D]? = some (.deferred (some [])) → j.wpIn Fence.wide m Try.prog Q { a with defers := { target := .collected D, args := #[] } :: a.defers } W) :
    (Code.rangeFunc g ps assign body).wpIn Fence.wide m Try.prog Q a w := by
  refine wpIn_rangeFunc ?_
  intro fn hfn
  obtain ⟨rec, hrec⟩ : ∃ rec : LoopState → Option Code → Loop, rec = fun st pe => { state := st, pending := pe, fn, tmps := a.tmps, params := ps, assign, body, defers := w.heap.size } := ⟨_, rfl⟩
  obtain ⟨W1, hW1⟩ : ∃ W1, (w.alloc (.deferred (some []))).alloc (.loop (rec .ready none)) = W1 := ⟨_, rfl⟩
  have hL1 : W1.heap[w.heap.size + 1]? = some (.loop (rec .ready none)) := by
    rw [← hW1]; have := World.alloc_heap_new (w.alloc (.deferred (some []))) (.loop (rec .ready none)); rwa [World.size_alloc] at this
  have hK1 : W1.heap[w.heap.size]? = some (.deferred (some [])) := by
    rw [← hW1]; exact (Below.heap_alloc _ _ _ (by simp)).trans (World.alloc_heap_new w _)
  have hB1 : Below w.heap.size w W1 := by rw [← hW1]; exact ((Below.refl _ w).alloc (Nat.le_refl _) _).alloc (by simp) _
  have hS1 : W1.heap.size = w.heap.size + 2 := by rw [← hW1]; simp
  refine ⟨w.heap.size + 1, [{ target := .collected w.heap.size, args := #[] }], W1, { target := .fn (.func 39) #[.pointer (some ⟨Bc, 0, none⟩)], args := #[.func (.yield (w.heap.size + 1)) #[] #[]] }, W1, 39,
    #[.func (.yield (w.heap.size + 1)) #[] #[]] ++ #[.pointer (some ⟨Bc, 0, none⟩)], W1, ?_, ?_, ?_, ?_, wide_depth, ?_⟩
  · rw [← hW1, hrec]; exact run_enterLoop_outer _ _ _ _ _
  · simp only [resolve, hg]
    simp [go_sem]
  · intro f' hf'; exact trivial
  · have eg := enters_of Try.func39 (by kernel_rfl) rfl
    simp [invoke, go_sem, eg]
  · let JJ : Nat → Bool → List (List Nat) → World → Prop := fun N1 r ys W =>
      (if r then I ys W ∧ W.heap[w.heap.size + 1]? = some (.loop (rec .ready none)) else ∃ j, Ix N1 j ys W ∧ W.heap[w.heap.size + 1]? = some (.loop (rec .done (some j)))) ∧ W.heap[w.heap.size]? = some (.deferred (some []))
    refine (orders1_any c al ah ac cl ch cc n (w.heap.size + 1) Bc (m - 1) JJ W1 h1 h9 (by have := (hcl [] w h0).1.lt; omega) ?_ ?_ ((hcl [] W1 (hI _ _ _ h0 hB1)).1)).mono ?_
    · -- the words
      rintro d hd e0 ec el en
      have k0 := hd.h0; have k1 := hd.h1; have k2 := hd.h2; have k3 := hd.h3; have k4 := hd.h4; have k5 := hd.h5
      rw [hS1] at e0
      refine ⟨?_, ?_, ?_, ?_, hc9, by rw [en]; exact hcn⟩
      · rintro ys W W' ⟨⟨hi, hl⟩, hk⟩ hb
        exact ⟨⟨hI _ _ _ hi (hb.mono (by omega)), (hb.block _ (by omega)).trans hl⟩, (hb.block _ (by omega)).trans hk⟩
      · rintro r ys W W' ⟨hj, hk⟩ hb
        refine ⟨?_, (hb.block _ (.inl (by omega))).trans hk⟩
        cases r with
        | true =>
          obtain ⟨hi, hl⟩ := hj
          exact ⟨hI _ _ _ hi (hb.below.mono (by omega)), (hb.block _ (.inl (by omega))).trans hl⟩
        | false =>
          obtain ⟨j, hi, hl⟩ := hj
          exact ⟨j, hIx _ _ _ _ _ hi (hb.mono (by omega)), (hb.block _ (.inl (by omega))).trans hl⟩
      · rintro ys W ⟨⟨hi, hl⟩, hk⟩
        obtain ⟨x1, x2, x3, x4⟩ := hcl _ _ hi
        rw [← ec, ← en] at x1
        rw [← en] at x2 x3
        exact ⟨x1, x2, x3, x4⟩
      · rintro m' ys x g' cap W ⟨⟨hi, hl⟩, hk⟩ hg' hrow hV
        rw [el, en]
        rw [en] at hrow
        have hlt : w.heap.size + 1 < W.heap.size := (Array.getElem?_eq_some_iff.1 hl).1
        have hy := run_yield (P := Try.prog) (args := #[.slice (some ⟨g', 0, none⟩) n cap]) hl (by rw [hrec]; simp [hps])
        rw [hrec] at hy
        have any : ∀ {m m' : Nat} {l : Nat} {f : FuncId} {tmps : Array Value} {asg bo : Code} {W : World} {R : Ending → World → Prop}, RoundIn Fence.wide m Try.prog l f tmps asg bo W R → RoundIn Fence.wide m' Try.prog l f tmps asg bo W R := fun h => ⟨h.1, fun c cs _ => h.2 c cs (room_wide _)⟩
        refine ⟨fn, _, assign, body, hy, any (m := m - 1 - 1) (roundIn_of_wpIn hfn (hassign _ g' cap W _ ⟨_, run_beginRound hl (by rw [hrec]), ?_⟩))⟩
        obtain ⟨W2, hW2⟩ : ∃ W2, W.putObj (w.heap.size + 1) (.loop { rec .ready none with state := .busy }) = W2 := ⟨_, rfl⟩
        rw [hW2]
        have hl2 : W2.heap[w.heap.size + 1]? = some (.loop (rec .busy none)) := by rw [← hW2, World.putObj_heap_same hlt, hrec]
        have hk2 : W2.heap[w.heap.size]? = some (.deferred (some [])) := by rw [← hW2]; exact (World.putObj_heap_other (by omega)).trans hk
        have hi2 : I ys W2 := by rw [← hW2]; exact hI _ _ _ hi (below_putObj W _ (by omega))
        have hrow2 : W2.ownsRow d.N1 3 1 (.slice (some ⟨g', 0, none⟩) n cap) n (intsOf x) := ownsRow_of_block hrow fun q hq => by
          have : q = g' := by simpa [Value.ownBlock] using hq.symm
          rw [← hW2]; exact World.putObj_heap_other (by omega)
        have hab2 : Above d.N0 W W2 := by rw [← hW2]; exact ⟨by simp, fun b hb _ => World.putObj_heap_other (by omega)⟩
        refine wpIn_mono (hbody _ d.N1 g' cap ys x W2 hi2 (by omega) hg' hrow2 (by rw [← en]; exact hV)) ?_
        have fin : ∀ (jump : Option Code) (W3 : World), Above w.heap.size W2 W3 →
            (Instr.endRound (w.heap.size + 1) jump).run Try.prog W3 = .ok (.bool jump.isNone) (W3.putObj (w.heap.size + 1) (.loop (rec (if jump.isNone then .ready else .done) jump))) ∧
            (W3.putObj (w.heap.size + 1) (.loop (rec (if jump.isNone then .ready else .done) jump))).heap[w.heap.size + 1]? = some (.loop (rec (if jump.isNone then .ready else .done) jump)) ∧
            (W3.putObj (w.heap.size + 1) (.loop (rec (if jump.isNone then .ready else .done) jump))).heap[w.heap.size]? = some (.deferred (some [])) ∧ Above d.N0 W (W3.putObj (w.heap.size + 1) (.loop (rec (if jump.isNone then .ready else .done) jump))) := fun jump W3 hk3 => by
          have hl3 := (hk3.block _ (by omega) (lt_of_block hl2)).trans hl2
          have := run_endRound (P := Try.prog) jump hl3
          rw [hrec] at this ⊢
          refine ⟨this, World.putObj_heap_same (lt_of_block hl3), (World.putObj_heap_other (by omega)).trans ((hk3.block _ (by omega) (lt_of_block hk2)).trans hk2), hab2.trans ⟨by simp; exact hk3.size, fun b hb hb2 => (World.putObj_heap_other (by omega)).trans (hk3.block b (by omega) hb2)⟩⟩
        rintro e a3 W3 hp
        cases e with
        | normal =>
          obtain ⟨hk3, hi3⟩ := hp
          obtain ⟨hr, hl4, hk4, ha4⟩ := fin none W3 hk3
          exact ⟨_, _, hr, true, rfl, ⟨⟨hI _ _ _ hi3 (below_putObj W3 _ (by omega)), hl4⟩, hk4⟩, ha4⟩
        | ret =>
          obtain ⟨hk3, hi3⟩ := hp
          obtain ⟨hr, hl4, hk4, ha4⟩ := fin (some .ret) W3 hk3
          exact ⟨_, _, hr, false, rfl, ⟨⟨.ret, hIx _ _ _ _ _ hi3 (mid_putObj W3 _ (by omega) (by omega)), hl4⟩, hk4⟩, ha4⟩
        | exit id =>
          obtain ⟨hk3, hi3⟩ := hp
          obtain ⟨hr, hl4, hk4, ha4⟩ := fin (some (.exit id)) W3 hk3
          exact ⟨_, _, hr, false, rfl, ⟨⟨.exit id, hIx _ _ _ _ _ hi3 (mid_putObj W3 _ (by omega) (by omega)), hl4⟩, hk4⟩, ha4⟩
        | goto t =>
          obtain ⟨hk3, hi3⟩ := hp
          obtain ⟨hr, hl4, hk4, ha4⟩ := fin (some (.goto t)) W3 hk3
          exact ⟨_, _, hr, false, rfl, ⟨⟨.goto t, hIx _ _ _ _ _ hi3 (mid_putObj W3 _ (by omega) (by omega)), hl4⟩, hk4⟩, ha4⟩
        | panic ch => exact hp.elim
        | outgrown => exact hp.elim
    · -- at the start
      intro N1 W' hb
      rw [hS1] at hb
      exact ⟨⟨hI _ _ _ h0 (hB1.trans (hb.mono (by omega))), (hb.block _ (by omega)).trans hL1⟩, (hb.block _ (by omega)).trans hK1⟩
    · -- behind the iterator
      rintro e W2 ⟨⟨v, rfl⟩, N1, r, zs, hN1, ⟨hj, hk⟩, hz1, hz2⟩
      cases r with
      | true =>
        obtain ⟨hi, hl⟩ := hj
        rw [hz1 rfl] at hi
        exact ⟨none, _, by have := run_endLoop (P := Try.prog) hl (by rw [hrec]; simp); rw [hrec] at this; exact this, hdone _ _ (hI _ _ _ hi (below_putObj W2 _ (by omega))) (Nat.le_refl _) ((World.putObj_heap_other (by omega)).trans hk)⟩
      | false =>
        obtain ⟨j, hi, hl⟩ := hj
        exact ⟨some j, _, by have := run_endLoop (P := Try.prog) hl (by rw [hrec]; simp); rw [hrec] at this; exact this, hstop _ _ j zs _ (hz2 rfl) (hIx _ _ _ _ _ hi (mid_putObj W2 _ (by omega) (by omega))) (Nat.le_refl _) (by omega) ((World.putObj_heap_other (by omega)).trans hk)⟩

/-- Whatever lay there lies, but for one block. -/
structure KB (B : Nat) (w W : World) : Prop where
  os : W.os = w.os
  tape : W.tape = w.tape
  output : W.output = w.output
  size : w.heap.size ≤ W.heap.size
  block : ∀ b, b ≠ B → b < w.heap.size → W.heap[b]? = w.heap[b]?
theorem KB.refl (B : Nat) (w : World) : KB B w w := ⟨rfl, rfl, rfl, Nat.le_refl _, fun _ _ _ => rfl⟩
theorem KB.trans {B : Nat} {a b c : World} (h : KB B a b) (k : KB B b c) : KB B a c :=
  ⟨k.os.trans h.os, k.tape.trans h.tape, k.output.trans h.output, Nat.le_trans h.size k.size, fun x hx hl => (k.block x hx (Nat.lt_of_lt_of_le hl h.size)).trans (h.block x hx hl)⟩
theorem KB.grow {B : Nat} {a b c : World} (h : KB B a b) (k : Below a.heap.size b c) : KB B a c :=
  ⟨k.os.trans h.os, k.tape.trans h.tape, k.output.trans h.output, Nat.le_trans h.size k.size, fun x hx hl => (k.block x hl).trans (h.block x hx hl)⟩
theorem KB.setCell {B : Nat} {a b : World} (h : KB B a b) {p : Addr} (hp : p.block = B) (v : Value) : KB B a (b.setCell p v) :=
  ⟨h.os, h.tape, h.output, by have := h.size; show a.heap.size ≤ (b.heap.modify _ _).size; rw [Array.size_modify]; exact this, fun x hx hl => (Below.heap_setCell b p v x (by omega)).trans (h.block x hx hl)⟩
theorem KB.below {B B' : Nat} {a b : World} (h : KB B a b) (hB : B' ≤ B) (hs : B' ≤ a.heap.size) : Below B' a b := ⟨h.os, h.tape, h.output, h.size, fun x hx => h.block x (by omega) (by omega)⟩
theorem Trip.kb {B b : Nat} {w W : World} {t : TypeId} {v0 v1 v2 : Value} (h : Trip w b t v0 v1 v2) (hk : KB B w W) (hb : b ≠ B) : Trip W b t v0 v1 v2 := (hk.block b hb h.lt).trans h
theorem ownsRow_kb {B : Nat} {w W : World} {base : Nat} {e : TypeId} {size : Nat} {v : Value} {n : Nat} {xs : List Value} (h : w.ownsRow base e size v n xs) (hk : KB B w W) (hb : v.ownBlock ≠ some B) : W.ownsRow base e size v n xs :=
  ownsRow_of_block h fun g hg => hk.block g (fun e => hb (by rw [hg, e])) (h.lt g hg).2
theorem ownsRow_ne {w : World} {base b : Nat} {e : TypeId} {size : Nat} {v : Value} {n : Nat} {xs : List Value} (h : w.ownsRow base e size v n xs) (hb : b < base) : v.ownBlock ≠ some b := fun e' => by
  have := (h.lt b e').1; omega

set_option maxHeartbeats 400000 in
theorem orders_any (v0 v1 v2 : Value) (w : World) :
    Calls Try.prog 23 #[.agg #[v0, v1, v2]] w fun e w' => e = .returned (.func (.func 39) #[] #[.pointer (some ⟨w.heap.size, 0, none⟩)]) ∧ w.alloc (.cells #[v0, v1, v2] 63) = w' := by
  have hmf : ∀ (fn : Fn) (first cap : Array Value) (w : World), (Instr.makeFunc fn first cap).run Try.prog w = .ok (.func fn first cap) w := fun _ _ _ _ => rfl
  go_enter Try.func23, Try.ntmps23
  go_wp2
  go_ret
  exact ⟨rfl, rfl⟩
end

section
open Go.RowKit Go.Sort Go.Shelf
attribute [local go_sem] Oper.semAt_some

/-- How many orders fold a strip. -/
def countOf (zs : List Int) : Nat := (ordersOf (layCl zs) zs.length).length

/-- Two results, the world grown. -/
def Gives2 (a b : Value) (w : World) (e : Ending) (w' : World) : Prop := e = .returned (.tuple #[a, b]) ∧ Below w.heap.size w w'

theorem Count_bad (a : Option Addr) (n cap : Nat) (zs : List Int) (w : World) (hn : zs.length = n) (hm : n ≤ 9223372036854775807) (hz : Ints w a zs) (hs : stripB zs = false) :
    Calls Try.prog 9 #[.slice a n cap] w (Gives2 (.int .i64 0) (.int .i64 1) w) := by
  have his := isStrip_any a n cap zs w hn hm hz
  rw [hs] at his
  have His := Lib.hid his
  clear his hz hn
  go_enter Try.func9, Try.ntmps9
  go_wp2_with (go_at_call 21; refine His.out.mono ?_; rintro e w1 ⟨rfl, rfl⟩)
  go_ret2
  exact ⟨rfl, Below.refl _ _⟩

theorem wrap_next (k : Nat) : wrap64 (wrap64 (k : Int) + 1) = wrap64 (((k + 1 : Nat)) : Int) := by unfold wrap64; omega
theorem wrap_small (k : Nat) (h : k ≤ 1000000000) : wrap64 (k : Int) = k := by unfold wrap64; omega

theorem placeAll_le (c : Cl) (n : Nat) : ∀ (k : Nat) (L : List Int) (O : List Nat), (placeAll c n k L O).length ≤ n ^ k
  | 0, L, O => by simp [placeAll]
  | k + 1, L, O => by
    rw [placeAll, List.length_flatMap]
    have : ∀ l : List Nat, (l.map fun s => (if (L[s]?.getD 0 == -1 && fitsB c L s) = true then placeAll c n k (L.set s O.length) (O ++ [s]) else []).length).sum ≤ l.length * n ^ k := by
      intro l
      induction l with
      | nil => simp
      | cons s l ih =>
        rw [List.map_cons, List.sum_cons, List.length_cons, Nat.add_mul, Nat.one_mul, Nat.add_comm]
        refine Nat.add_le_add ih ?_
        split
        · exact placeAll_le c n k _ _
        · simp
    have := this (List.range n)
    rw [List.length_range] at this
    rw [Nat.pow_succ, Nat.mul_comm]
    exact this
theorem ordersOf_le (c : Cl) (n : Nat) (h : n ≤ 9) : (ordersOf c n).length ≤ 387420489 :=
  Nat.le_trans (placeAll_le c n n _ _) (Nat.le_trans (Nat.pow_le_pow_left h n) (Nat.pow_le_pow_right (n := 9) (by omega) h))

/-- What the loop of 'Count' keeps. -/
def CountI (w wL : World) (ys : List (List Nat)) (W : World) : Prop := W.heap[w.heap.size]? = some (.cells #[.int .i64 (wrap64 (ys.length : Int))] 3 (0, 0)) ∧ KB w.heap.size wL W

set_option maxRecDepth 100000 in
set_option maxHeartbeats 2000000 in
theorem Count_good (a : Option Addr) (n cap m : Nat) (zs : List Int) (w : World) (hn : zs.length = n) (hz : Ints w a zs) (hs : stripB zs = true) :
    CallsIn Fence.wide m Try.prog 9 #[.slice a n cap] w (Gives2 (.int .i64 (countOf zs)) (.int .i64 0) w) := by
  obtain ⟨p1, p9, ps⟩ := strip_parts hs
  have his := isStrip_any a n cap zs w hn (by omega) hz
  rw [hs] at his
  have His := Lib.hid his
  have Hcl : Hid (∀ w1, Below w.heap.size w w1 → Calls Try.prog 22 #[.slice a n cap] w1 (Gives (fun v w' => ClothV w' w1.heap.size (layCl zs) v) w1)) := Lib.hid fun w1 hb =>
    clothOfStrip_any a n cap zs w1 hn (by omega) ps fun i hi => by
      obtain ⟨b, off, e, hc⟩ := hz i hi
      exact ⟨b, off, e, (hb.cell (p := ⟨b, off + i, none⟩) (World.block_lt_of_cell? w _ hc)).trans hc⟩
  have Hn := Lib.hid hn
  clear his hz hn
  refine callsIn_of_wp_marks Try.func9 rfl trivial ?_ rfl
  simp only [Try.ntmps9, List.size_toArray, List.length_cons, List.length_nil, Nat.reduceAdd, Nat.reduceSub, Array.replicate_succ, Array.replicate_zero, List.push_toArray, List.append_toArray, List.nil_append, List.cons_append]
  gi_wp2_with (first
    | ((try refine ⟨trivial, wide_depth, ?_⟩); gi_at_call 21; refine (callsIn_wide.2 His.out).mono ?_; rintro e w1 ⟨rfl, rfl⟩)
    | ((try refine ⟨trivial, wide_depth, ?_⟩); gi_at_call 22; refine (callsIn_wide.2 (Hcl.out _ ((Below.refl _ _).alloc (Nat.le_refl _) _))).mono ?_; rintro e w1 ⟨v, rfl, hv, hb1⟩; obtain ⟨al, cl, ah, ch, ac, cc, rfl, hl, hh, hc⟩ := hv.slices; have H1 := Lib.hid (And.intro hb1 (And.intro hl (And.intro hh hc))); clear hb1 hl hh hc hv)
    | ((try refine ⟨trivial, wide_depth, ?_⟩); gi_at_call 23; refine (callsIn_wide.2 (orders_any _ _ _ _)).mono ?_; rintro e w2 ⟨rfl, rfl⟩))
  have hb1 := H1.out.1
  have hs1 := hb1.size
  simp at hs1
  have hbase : (w.alloc (.cells #[.int .i64 0] 3)).heap.size = w.heap.size + 1 := by simp
  obtain ⟨wL, hwL⟩ : ∃ wL, w1.alloc (.cells #[.slice al zs.length cl, .slice ah zs.length ch, .slice ac (zs.length - 1) cc] 63) = wL := ⟨_, rfl⟩
  have hLs : wL.heap.size = w1.heap.size + 1 := by rw [← hwL]; simp
  have hL1 : Below w1.heap.size w1 wL := by rw [← hwL]; exact (Below.refl _ _).alloc (Nat.le_refl _) _
  have hbox : Trip wL w1.heap.size 63 (.slice al zs.length cl) (.slice ah zs.length ch) (.slice ac (layCl zs).crs.length cc) := by rw [← hwL, layCl_crs]; exact Trip.new _ _ _ _ _
  have r1 := ownsRow_kept H1.out.2.1 hL1
  have r2 := ownsRow_kept H1.out.2.2.1 hL1
  have r3 := ownsRow_kept H1.out.2.2.2 hL1
  have q1 := ownsRow_ne r1 (b := w.heap.size) (by simp)
  have q2 := ownsRow_ne r2 (b := w.heap.size) (by simp)
  have q3 := ownsRow_ne r3 (b := w.heap.size) (by simp)
  rw [layCl_low] at r1 q1
  rw [layCl_high] at r2 q2
  have hstart : CountI w wL [] wL := ⟨by
    rw [show wrap64 (([] : List (List Nat)).length : Int) = 0 from by unfold wrap64; simp]
    exact (hL1.block _ (by omega)).trans ((hb1.block _ (by simp)).trans (heap_alloc_new w _)), KB.refl _ _⟩
  have hbw : Below w.heap.size w wL := ((Below.refl _ w).alloc (Nat.le_refl _) _).trans ((hb1.mono (by simp)).trans (hL1.mono (by omega)))
  rw [hwL]
  have HL := Lib.hid (And.intro hbw (And.intro hLs hs1))
  clear hbw hwL hbase hL1 hb1 H1
  refine wpIn_range_orders (layCl zs) al ah ac cl ch cc zs.length w1.heap.size rfl p1 p9 (by simp; omega) (layCl_in zs) rfl (CountI w wL) (fun _ _ _ _ => False) ?hI ?hcl (fun _ _ _ _ _ h _ => h) hstart
    (fun g cp => { tmps := #[.slice a n cap, undef, .int .i64 0, .int .i64 0, .pointer (some ⟨w.heap.size, 0, none⟩), .slice a n cap, .bool true, .bool false, .slice a n cap, .agg #[.slice al zs.length cl, .slice ah zs.length ch, .slice ac (zs.length - 1) cc], .func (.func 39) #[] #[.pointer (some ⟨w1.heap.size, 0, none⟩)], .slice (some ⟨g, 0, none⟩) zs.length cp, undef, undef, undef], defers := [] }) ?hassign ?hbody ?hdone (fun _ _ _ _ _ _ h => h.elim)
  case hI =>
    rintro ys W W' ⟨hc, hk⟩ hb
    exact ⟨(hb.block _ (by have := HL.out; omega)).trans hc, hk.grow hb⟩
  case hcl =>
    rintro ys W ⟨_, hk⟩
    exact ⟨hbox.kb hk (by have := HL.out; omega), ownsRow_weaken (ownsRow_kb r1 hk q1) (Nat.zero_le _), ownsRow_weaken (ownsRow_kb r2 hk q2) (Nat.zero_le _), ownsRow_weaken (ownsRow_kb r3 hk q3) (Nat.zero_le _)⟩
  case hassign =>
    intro l g cp W K hK
    gi_wp2
    simpa using hK
  case hbody =>
    rintro l N1 g cp ys x W ⟨hc, hk⟩ hN hg hrow _
    have c0 := cell_of_one hc
    have f0 := free_of_one hc
    have HC := Lib.hid (And.intro hc hk)
    clear hc hk hrow
    gi_wp2
    refine ⟨(Above.refl _ _).setCell (by have := HL.out; simp; omega) _, ?_, HC.out.2.setCell rfl _⟩
    have := one_setCell HC.out.1 (u := .int .i64 (wrap64 (wrap64 (ys.length : Int) + 1)))
    rw [wrap_next] at this
    rw [show ((ys ++ [x]).length : Int) = ((ys.length + 1 : Nat) : Int) by simp, wrap_next]
    exact this
  case hdone =>
    rintro D W ⟨hc, hk⟩ hD hK
    have c0 := cell_of_one hc
    have HC := Lib.hid (And.intro hc (And.intro hk hK))
    clear hc hk hK
    gi_wp2
    refine ⟨by simp, .inl ⟨_, _, rfl, run_takeDeferred HC.out.2.2, ?_⟩⟩
    refine ⟨_, results_tmp2 rfl _ _ _, ?_, ?_⟩
    · rw [wrap_small _ (by have := ordersOf_le (layCl zs) zs.length p9; omega)]
      rfl
    · exact (HL.out.1.trans (HC.out.2.1.below (Nat.le_refl _) (by have := HL.out; omega))).trans (below_putObj W _ (by have := HL.out; omega))
end

end Go.Proofs.Yteckeobhlfddlaa
