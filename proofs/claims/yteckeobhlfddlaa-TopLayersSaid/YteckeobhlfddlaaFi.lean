/-
  The walk of the closure 'place'.
-/
import Derived.Test.YteckeobhlfddlaaFh
import Derived.Lib.QuietBelowIn
import Derived.RangeFuncSeq
namespace Go.Proofs.Yteckeobhlfddlaa
open Go.RowKit Go.Sort Go.Shelf
attribute [local go_sem] Oper.semAt_some

theorem wpListIn_app_int {F : Fence} {nF : Nat} {W : World} {ops : Array Oper} {rest : List Oper} {o : Oper} {a : Act} {Q : Exit → Act → World → Prop} (hgd : o.guard = none) (s x : Operand)
    (ho : o.op = .call { callee := .builtin .append, args := #[s, x], argTypes := #[22, 22] }) (base : Nat) (v : Value) (n : Nat) (xs : List Value) (hs : a.eval s = v) (z : Int) (b : Nat)
    (hx : a.eval x = .slice (some ⟨b, 0, none⟩) 1 1) (hb : b = W.heap.size) (hown : W.ownsRow base 3 1 v n xs) (hn : n ≤ 1000000) (hbase : base ≤ W.heap.size)
    (h : ∀ (g cap : Nat) (w' : World), w'.ownsRow base 3 1 (.slice (some ⟨g, 0, none⟩) (n + 1) cap) (n + 1) (xs ++ [.int .i64 z]) → W.grownBy w' v.ownBlock → (some g = v.ownBlock ∨ W.heap.size ≤ g) → W.heap.size < w'.heap.size → wpListIn F nF Try.prog ops Q rest (a.put o.dst (.slice (some ⟨g, 0, none⟩) (n + 1) cap)) w') :
    wpListIn F nF Try.prog ops Q (o :: rest) a (W.alloc (.cells #[.int .i64 z] 3)) := by
  obtain ⟨i0, hi, hz0, hz1, hz2⟩ := info_parts Try.info3
  refine wpListIn_append_own_at _ hgd s x 22 ho base 3 i0 (.int .i64 0) 1 8 Try.underlying22 hi hz0 hz1 hz2 rfl (by decide) v n xs hs (hown.alloc _) ⟨b, 0, none⟩ 1 1 [.int .i64 z] hx rfl (cells_new W [.int .i64 z] _ b hb) (by simp [Value.oneCell']) (by unfold maxLen; omega) (by omega) (by simp; omega) ?_
  intro v' w' hown' hg _ hat
  obtain ⟨g, cap, rfl⟩ := ownsRow_succ' hown'
  have hsz := hg.size
  simp at hsz
  refine h g cap w' hown' (grown_alloc hg) ?_ (by omega)
  rcases hat with e | e
  · exact .inl (by simpa [Value.ownBlock] using e)
  · refine .inr ?_
    simp [Value.ownBlock] at e
    omega

theorem wide_depth {p : Prop} : Fence.wide.depth.isSome = true → p := fun h => by simp [Fence.wide] at h

/-- The cloth where the closures find it. -/
structure CL (d : Ids) (c : Cl) (al ah ac : Option Addr) (cl ch cc : Nat) (W : World) : Prop where
  box : Trip W d.Bc 63 (.slice al d.n cl) (.slice ah d.n ch) (.slice ac c.crs.length cc)
  low : W.ownsRow 0 3 1 (.slice al d.n cl) d.n (c.low.map (Value.int .i64))
  high : W.ownsRow 0 3 1 (.slice ah d.n ch) d.n (c.high.map (Value.int .i64))
  crs : W.ownsRow 0 87 3 (.slice ac c.crs.length cc) c.crs.length (crCells c.crs)

/-- What the caller's words must do. -/
structure Words (d : Ids) (c : Cl) (al ah ac : Option Addr) (cl ch cc : Nat) (JJ : Bool → List (List Nat) → World → Prop) : Prop where
  grow : ∀ ys W W', JJ true ys W → Below d.N0 W W' → JJ true ys W'
  mid : ∀ r ys W W', JJ r ys W → Mid d.N0 d.N1 W W' → JJ r ys W'
  cloth : ∀ ys W, JJ true ys W → CL d c al ah ac cl ch cc W
  round : ∀ m ys x g cap W, JJ true ys W → d.N1 ≤ g → W.ownsRow d.N1 3 1 (.slice (some ⟨g, 0, none⟩) d.n cap) d.n (intsOf x) → (∀ y ∈ x, y < d.n) →
    YieldAt Fence.wide m Try.prog d.l #[.slice (some ⟨g, 0, none⟩) d.n cap] W fun e W' => ∃ r, e = .returned (.bool r) ∧ JJ r (ys ++ [x]) W' ∧ Above d.N0 W W'
  crs9 : c.crs.length ≤ 9
  crsn : ∀ g ∈ c.crs, g.first < d.n ∧ g.second < d.n

/-- What 'place' hands back. -/
def Placed (d : Ids) (c : Cl) (JJ : Bool → List (List Nat) → World → Prop) (k : Nat) (L : List Int) (O : List Nat) (ys : List (List Nat)) (e : Ending) (W' : World) : Prop :=
  ∃ r zs, e = .returned (.bool r) ∧ PS d W' L O ∧ JJ r (ys ++ zs) W' ∧ (r = true → zs = placeAll c d.n k L O) ∧ (r = false → zs <+: placeAll c d.n k L O)

theorem clone_nat (a : Option Addr) (n cap base : Nat) (O : List Nat) (w : World) (h1 : 1 ≤ n) (hn : n ≤ 1000) (h : w.ownsRow base 3 1 (.slice a n cap) n (intsOf O)) :
    Calls Try.prog 42 #[.slice a n cap] w (Gives (fun v w' => ∃ g c, v = .slice (some ⟨g, 0, none⟩) n c ∧ w'.ownsRow w.heap.size 3 1 v n (intsOf O)) w) := by
  have e : intsOf O = (O.map fun (x : Nat) => (x : Int)).map (Value.int .i64) := by simp [intsOf]
  rw [e] at h ⊢
  exact clone_any a n cap base _ w h1 hn h

set_option maxRecDepth 100000 in
set_option maxHeartbeats 1000000 in
theorem place_zero (d : Ids) (hd : d.ok) (c : Cl) (al ah ac : Option Addr) (cl ch cc : Nat) (JJ : Bool → List (List Nat) → World → Prop) (hW : Words d c al ah ac cl ch cc JJ)
    (m : Nat) (L : List Int) (O : List Nat) (ys : List (List Nat)) (W : World) (hP : PS d W L O) (hJ : JJ true ys W) (hO : O.length = d.n) (hV : ∀ y ∈ O, y < d.n) :
    CallsIn Fence.wide m Try.prog 41 #[.pointer (some ⟨d.Bo, 0, none⟩), .pointer (some ⟨d.Bl, 0, none⟩), .pointer (some ⟨d.By, 0, none⟩), .pointer (some ⟨d.Bc, 0, none⟩), .pointer (some ⟨d.Bp, 0, none⟩)] W (Placed d c JJ 0 L O ys) := by
  obtain ⟨a, cap, ho, hr, hne⟩ := hP.ho
  have c0 := cell_of_one ho
  have c1 := cell_of_one hP.hl
  have c2 := cell_of_one hP.hy
  rw [hO] at c0
  have HP := Lib.hid hP
  have HJ := Lib.hid hJ
  have HO := Lib.hid hO
  have HR := Lib.hid (And.intro ho hr)
  clear hP hJ hO ho hr hne
  refine callsIn_of_wp Try.func41 rfl trivial ?_ rfl
  simp only [Try.ntmps41, List.size_toArray, List.length_cons, List.length_nil, Nat.reduceAdd, Nat.reduceSub, Array.replicate_succ, Array.replicate_zero, List.push_toArray, List.append_toArray, List.nil_append, List.cons_append]
  have HKl : Hid (∀ w2, Below W.heap.size W w2 → Calls Try.prog 42 #[.slice a d.n cap] w2 (Gives (fun v w' => ∃ g c, v = .slice (some ⟨g, 0, none⟩) d.n c ∧ w'.ownsRow w2.heap.size 3 1 v d.n (intsOf O)) w2)) :=
    Lib.hid fun w2 hb => clone_nat a d.n cap d.N0 O w2 hd.hn (by have := hd.hn9; omega) (by have := ownsRow_kept HR.out.2 hb; rwa [HO.out] at this)
  have HKy : Hid (∀ w2 g cp, Below W.heap.size W w2 → w2.ownsRow W.heap.size 3 1 (.slice (some ⟨g, 0, none⟩) d.n cp) d.n (intsOf O) → w2.cell? ⟨d.By, 0, none⟩ = some (.func (.yield d.l) #[] #[]) ∧
      YieldAt Fence.wide (m - 1) Try.prog d.l #[.slice (some ⟨g, 0, none⟩) d.n cp] w2 (Placed d c JJ 0 L O ys)) := Lib.hid fun w2 g cp hb hrow => by
    have hP2 := HP.out.below hd hb
    have hN := HP.out.hN
    refine ⟨cell_of_one hP2.hy, (hW.round (m - 1) ys O g cp w2 (hW.grow _ _ _ HJ.out (hb.mono (by have := hd.h0; have := hd.h1; have := hd.h2; have := hd.h3; have := hd.h4; have := hd.h5; omega))) ?_ ?_ hV).mono ?_⟩
    · have := (hrow.lt g rfl).1; omega
    · exact ownsRow_weaken hrow hN
    · rintro e w3 ⟨r, rfl, hj, ha⟩
      exact ⟨r, [O], rfl, hP2.above hd ha, hj, fun _ => rfl, fun _ => List.prefix_refl _⟩
  clear HP HJ HR HO hW
  have hmx : Try.prog.follows .mixedOrders = true := by kernel_rfl
  gi_wp2
  gi_region_with_o (first
    | (refine ⟨trivial, wide_depth, ?_⟩; refine (callsIn_wide.2 (HKl.out _ (Below.drew (Below.refl _ _)))).mono ?_; rintro e w2 ⟨v, rfl, ⟨g, cp, rfl, hcl⟩, hb2⟩; obtain ⟨c2', fn, tmps, assign, body, hy, hR⟩ := HKy.out w2 g cp ⟨hb2.os, hb2.tape, hb2.output, hb2.size, hb2.block⟩ hcl)
    | (refine ⟨wide_depth, ?_⟩; refine hR.mono ?_; clear hR; rintro e W3 ⟨r, zs, rfl, hPl⟩; have HPl := Lib.hid hPl; clear hPl))
  all_goals
    gi_wp2
    go_ret
    exact ⟨r, zs, rfl, HPl.out⟩


theorem Mid.trans {N0 N1 : Nat} {A B C : World} (h : Mid N0 N1 A B) (k : Mid N0 N1 B C) : Mid N0 N1 A C :=
  ⟨k.os.trans h.os, k.tape.trans h.tape, k.output.trans h.output, k.size.trans h.size, fun b hb => (k.block b hb).trans (h.block b hb)⟩

theorem fits_wide (d : Ids) (hd : d.ok) (c : Cl) (al ah ac : Option Addr) (cl ch cc : Nat) (W : World) (L : List Int) (s : Nat) (hc : CL d c al ah ac cl ch cc W) (hL : L.length = d.n) (h9 : c.crs.length ≤ 9) (hn : ∀ g ∈ c.crs, g.first < d.n ∧ g.second < d.n)
    (hg : W.heap[d.gl]? = some (.cells (L.map (Value.int .i64)).toArray 3 (0, 0))) (hs : s < d.n) :
    Calls Try.prog 43 #[.agg #[.slice al d.n cl, .slice ah d.n ch, .slice ac c.crs.length cc], .slice (some ⟨d.gl, 0, none⟩) d.n d.n, .int .i64 s] W (Gives (fun v _ => v = .bool (fitsB c L s)) W) :=
  fits_any al ah ac (some ⟨d.gl, 0, none⟩) cl ch cc d.n d.n s c L W hL hd.hn9 h9 hc.low hc.high hc.crs
    ⟨by simp [hL], .inr ⟨d.gl, d.n, _, rfl, Nat.zero_le _, hg, Nat.le_refl _, by have := hd.hn9; unfold maxLen; omega, by simp [hL], by rw [List.take_of_length_le]; simp [hL]⟩⟩ hs hn

theorem PS.cellL {d : Ids} {W : World} {L : List Int} {O : List Nat} (h : PS d W L O) {j : Nat} (hj : j < d.n) : W.cell? ⟨d.gl, j, none⟩ = some (.int .i64 (L[j]?.getD 0)) := by
  have hl := h.hL
  simp [World.cell?, h.hg, show j < L.length by omega]
theorem PS.freeL {d : Ids} {W : World} {L : List Int} {O : List Nat} (h : PS d W L O) (j : Nat) : W.frozen? ⟨d.gl, j, none⟩ = false := by simp [World.frozen?, h.hg]
theorem PS.fn {d : Ids} {W : World} {L : List Int} {O : List Nat} (h : PS d W L O) : W.cell? ⟨d.Bp, 0, none⟩ = some (.func (.func 41) #[] #[.pointer (some ⟨d.Bo, 0, none⟩), .pointer (some ⟨d.Bl, 0, none⟩), .pointer (some ⟨d.By, 0, none⟩), .pointer (some ⟨d.Bc, 0, none⟩), .pointer (some ⟨d.Bp, 0, none⟩)]) := cell_of_one h.hp
theorem ownsRow_cap {w : World} {base : Nat} {e : TypeId} {size n cap : Nat} {a : Option Addr} {xs : List Value} (h : w.ownsRow base e size (.slice a n cap) n xs) : n ≤ cap := by
  rcases h.2 with ⟨e', h0⟩ | ⟨g, c, cur, e', _, _, hn, _⟩
  · omega
  · cases e'; exact hn
theorem set_back {L : List Int} {j : Nat} {v : Int} (h : L[j]?.getD 0 = -1) (hj : j < L.length) : (L.set j v).set j (-1) = L := by
  rw [List.set_set]
  apply List.ext_getElem?
  intro i
  rw [List.getElem?_set]
  split
  · rename_i hij
    subst hij
    simp [hj] at h ⊢
    exact h.symm
  · rfl

set_option maxRecDepth 100000 in
set_option maxHeartbeats 2000000 in
theorem place_succ (d : Ids) (hd : d.ok) (c : Cl) (al ah ac : Option Addr) (cl ch cc : Nat) (JJ : Bool → List (List Nat) → World → Prop) (hW : Words d c al ah ac cl ch cc JJ) (k : Nat)
    (ih : ∀ (m : Nat) (L : List Int) (O : List Nat) (ys : List (List Nat)) (W : World), PS d W L O → JJ true ys W → O.length + k = d.n → (∀ y ∈ O, y < d.n) →
      CallsIn Fence.wide m Try.prog 41 #[.pointer (some ⟨d.Bo, 0, none⟩), .pointer (some ⟨d.Bl, 0, none⟩), .pointer (some ⟨d.By, 0, none⟩), .pointer (some ⟨d.Bc, 0, none⟩), .pointer (some ⟨d.Bp, 0, none⟩)] W (Placed d c JJ k L O ys))
    (m : Nat) (L : List Int) (O : List Nat) (ys : List (List Nat)) (W : World) (hP : PS d W L O) (hJ : JJ true ys W) (hO : O.length + (k + 1) = d.n) (hV : ∀ y ∈ O, y < d.n) :
    CallsIn Fence.wide m Try.prog 41 #[.pointer (some ⟨d.Bo, 0, none⟩), .pointer (some ⟨d.Bl, 0, none⟩), .pointer (some ⟨d.By, 0, none⟩), .pointer (some ⟨d.Bc, 0, none⟩), .pointer (some ⟨d.Bp, 0, none⟩)] W (Placed d c JJ (k + 1) L O ys) := by
  obtain ⟨a, cap, ho, hr, hne⟩ := hP.ho
  have c0 := cell_of_one ho
  have c1 := cell_of_one hP.hl
  have hlen : ((O.length : Int) == (d.n : Int)) = false := by simp; omega
  have hlen' : (O.length == d.n) = false := by simp; omega
  have HP := Lib.hid hP
  have HJ := Lib.hid hJ
  have HO := Lib.hid hO
  have hn9 := hd.hn9
  have Hih := Lib.hid ih
  have HV := Lib.hid hV
  clear hP hJ hO ho hr hne ih hV
  refine callsIn_of_wp Try.func41 rfl trivial ?_ rfl
  simp only [Try.ntmps41, List.size_toArray, List.length_cons, List.length_nil, Nat.reduceAdd, Nat.reduceSub, Array.replicate_succ, Array.replicate_zero, List.push_toArray, List.append_toArray, List.nil_append, List.cons_append]
  gi_wp2
  gi_loopw [19] (fun i wr => ∃ j : Nat, j ≤ d.n ∧ i = .int .i64 j ∧ PS d wr L O ∧ JJ true (ys ++ placeTo c d.n k L O j) wr) (fun i _ => d.n - (intOf i).toNat)
  case atStart => exact ⟨0, Nat.zero_le _, rfl, HP.out, by rw [placeTo_zero, List.append_nil]; exact HJ.out⟩
  case round =>
    obtain ⟨j, hj, rfl, hP, hJ⟩ := hrel
    clear c0 c1 HP HJ hlen hlen'
    by_cases hlt : j < d.n
    · obtain ⟨a1, cap1, ho, hr, hne⟩ := hP.ho
      have c0 := cell_of_one ho
      have c1 := cell_of_one hP.hl
      have hC := hW.cloth _ _ hJ
      have b0 := hC.box.c0
      have b1 := hC.box.c1
      have b2 := hC.box.c2
      have cL := hP.cellL hlt
      have k0 := hd.h0; have k1 := hd.h1; have k2 := hd.h2; have k3 := hd.h3; have k4 := hd.h4; have k5 := hd.h5; have k6 := hd.hc
      have hft := fits_wide d hd c al ah ac cl ch cc wr L j hC hP.hL hW.crs9 hW.crsn hP.hg hlt
      have HPJ := Lib.hid (And.intro hP (And.intro hJ (And.intro ho (And.intro hr hne))))
      clear hP hJ hC ho hr hne
      generalize hv : L[j]?.getD 0 = v at *
      have Hv := Lib.hid hv
      clear hv
      rcases Bool.eq_false_or_eq_true (v == -1) with hq | hq
      · obtain rfl : v = -1 := by simpa using hq
        clear hq
        rcases Bool.eq_false_or_eq_true (fitsB c L j) with hf | hf
        · rw [hf] at hft
          have Hf := Lib.hid hf
          have Hft := Lib.hid hft
          clear hf hft
          have nBg : ¬ d.Bo = d.gl := by omega
          have nBg' : ¬ d.gl = d.Bo := by omega
          have nBl : ¬ d.Bl = d.gl := by omega
          have nBl' : ¬ d.Bl = d.Bo := by omega
          have nBp : ¬ d.Bp = d.Bo := by omega
          have nBp' : ¬ d.Bp = d.gl := by omega
          have hO : O.length + 1 ≤ d.n := by have := HO.out; omega
          have HV2 : Hid (∀ y ∈ O ++ [j], y < d.n) := Lib.hid fun y hy => by
            rcases List.mem_append.1 hy with h | h
            · exact HV.out y h
            · simp at h; omega
          gi_wp2_with (first
            | ((try refine ⟨trivial, wide_depth, ?_⟩); gi_at_call 43; refine (callsIn_wide.2 Hft.out).mono ?_; rintro e w1 ⟨u, rfl, rfl, hb1⟩; have hP1 := HPJ.out.1.below hd hb1; have hJ1 := hW.grow _ _ _ HPJ.out.2.1 (hb1.mono (by have := HPJ.out.1.hN; omega)); have ho1 := hb1.block d.Bo (lt_of_block HPJ.out.2.2.1) |>.trans HPJ.out.2.2.1; have hr1 := ownsRow_kept HPJ.out.2.2.2.1 hb1; have d0 := cell_of_one ho1; have d1 := cell_of_one hP1.hl; have dL := hP1.cellL hlt; have dF := hP1.freeL j; have H1 := Lib.hid (And.intro hP1 (And.intro hJ1 (And.intro ho1 hr1))); clear hb1 hP1 hJ1 ho1 hr1)
            | (gi_at_builtin; refine wpListIn_app_int rfl (.tmp 39) (.tmp 41) rfl d.N0 _ _ _ rfl j _ rfl (by simp) (ownsRow_setCell_other H1.out.2.2.2 HPJ.out.2.2.2.2 _) (by omega) (by have := H1.out.1.hN; simp; omega) ?_; intro g2 cp2 W2 hr2 hg2 hat2 _; obtain ⟨e0, hPp, hBp⟩ := (H1.out.1.setL hd j (O.length : Int)).push hd j ((Below.heap_setCell w1 _ _ d.Bo nBg).trans H1.out.2.2.1) (ownsRow_setCell_other H1.out.2.2.2 HPJ.out.2.2.2.2 _) HPJ.out.2.2.2.2 hr2 hg2 hat2; have hJp := hW.grow _ _ _ H1.out.2.1 (((Below.refl d.N0 w1).setCell (show d.N0 ≤ (⟨d.gl, j, none⟩ : Addr).block by simp; omega) (.int .i64 (O.length : Int))).trans hBp); have q0 := cell_of_one e0; have q0f := free_of_one e0; have q4 := (World.cell?_of_block (Below.heap_setCell W2 _ (.slice (some ⟨g2, 0, none⟩) (O.length + 1) cp2) d.Bp nBp)).symm.trans hPp.fn; have H2 := Lib.hid (And.intro hPp hJp); clear e0 hPp hBp hJp hr2 hg2 hat2 d0 d1 dL dF)
            | ((try refine ⟨trivial, wide_depth, ?_⟩); gi_at_call 41; refine (Hih.out _ _ _ _ _ H2.out.1 H2.out.2 (by have := HO.out; simp; omega) HV2.out).mono ?_; rintro e W4 ⟨r, zs, rfl, hP4, hJ4, hz1, hz2⟩; obtain ⟨a4, cap4, ho4, hr4, hne4⟩ := hP4.ho; rw [show (O ++ [j]).length = O.length + 1 by simp] at ho4 hr4 hne4; rw [show intsOf (O ++ [j]) = intsOf O ++ [.int .i64 (j : Int)] by simp [intsOf]] at hr4; obtain ⟨g4, cp4, e4⟩ := ownsRow_succ' hr4; cases e4; have hcap4 := ownsRow_cap hr4; have t0 := cell_of_one ho4; have t0f := free_of_one ho4; have t1 := cell_of_one hP4.hl; have t2 := hP4.cellL hlt; have t2f := hP4.freeL j; obtain ⟨hP5, hM5⟩ := hP4.pop hd ho4 hr4 hne4; have hP6 := hP5.setL hd j (-1); rw [set_back Hv.out (by rw [HPJ.out.1.hL]; exact hlt)] at hP6; have hJ6 := hW.mid _ _ _ _ hJ4 (hM5.trans ((Mid.refl _ _ _).setCell (a := ⟨d.gl, j, none⟩) (show d.N0 ≤ d.gl by omega) (show d.gl < d.N1 by omega) (.int .i64 (-1)))); have H6 := Lib.hid (And.intro hP6 (And.intro hJ6 (And.intro hz1 hz2))); clear hP4 hJ4 hz1 hz2 ho4 hr4 hne4 hP5 hM5 hP6 hJ6 q0 q0f q4 H1 H2))
          case roundEnd =>
            obtain rfl : r = true := by have : (!r) = false := by assumption
                                        simpa using this
            go_roundw
            case rel =>
              refine ⟨j + 1, by omega, by go_num, H6.out.1, ?_⟩
              rw [placeTo_take _ _ _ _ _ _ (by rw [Hv.out, Hf.out]; rfl), ← H6.out.2.2.1 rfl, ← List.append_assoc]
              exact H6.out.2.1
            case measure => simp [intOf]; omega
          all_goals
            obtain rfl : r = false := by have : (!r) = true := by assumption
                                         simpa using this
            go_ret
            refine ⟨false, placeTo c d.n k L O j ++ zs, rfl, H6.out.1, by rw [← List.append_assoc]; exact H6.out.2.1, (fun h => by cases h), fun _ => ?_⟩
            have h1 : placeTo c d.n k L O j ++ zs <+: placeTo c d.n k L O (j + 1) := by
              rw [placeTo_take _ _ _ _ _ _ (by rw [Hv.out, Hf.out]; rfl)]
              exact (List.prefix_append_right_inj _).2 (H6.out.2.2.2 rfl)
            exact h1.trans (placeTo_prefix _ _ _ _ _ _ (by omega))
        · rw [hf] at hft
          have Hf := Lib.hid hf
          have Hft := Lib.hid hft
          clear hf hft
          gi_wp2_with ((try refine ⟨trivial, wide_depth, ?_⟩); gi_at_call 43; refine (callsIn_wide.2 Hft.out).mono ?_; rintro e w1 ⟨u, rfl, rfl, hb1⟩; have Hb1 := Lib.hid hb1; clear hb1)
          go_roundw
          case rel => exact ⟨j + 1, by omega, by go_num, HPJ.out.1.below hd Hb1.out, by rw [placeTo_skip _ _ _ _ _ _ (by rw [Hv.out, Hf.out]; rfl)]; exact hW.grow _ _ _ HPJ.out.2.1 (Hb1.out.mono (by have := HPJ.out.1.hN; omega))⟩
          case measure => simp [intOf]; omega
      · have hq2 : (v != -1) = true := by simp [bne, hq]
        have Hq := Lib.hid hq
        gi_wp2
        refine ⟨trivial, ?_⟩
        gi_wp2
        go_roundw
        case rel => exact ⟨j + 1, by omega, by go_num, HPJ.out.1, by rw [placeTo_skip _ _ _ _ _ _ (by rw [Hv.out, Hq.out]; rfl)]; exact HPJ.out.2.1⟩
        case measure => simp [intOf]; omega
    · gi_wp2
      go_ret
      obtain rfl : j = d.n := by omega
      exact ⟨true, placeAll c d.n (k + 1) L O, rfl, hP, hJ, fun _ => rfl, fun h => by cases h⟩

theorem place_any (d : Ids) (hd : d.ok) (c : Cl) (al ah ac : Option Addr) (cl ch cc : Nat) (JJ : Bool → List (List Nat) → World → Prop) (hW : Words d c al ah ac cl ch cc JJ) :
    ∀ (k m : Nat) (L : List Int) (O : List Nat) (ys : List (List Nat)) (W : World), PS d W L O → JJ true ys W → O.length + k = d.n → (∀ y ∈ O, y < d.n) →
      CallsIn Fence.wide m Try.prog 41 #[.pointer (some ⟨d.Bo, 0, none⟩), .pointer (some ⟨d.Bl, 0, none⟩), .pointer (some ⟨d.By, 0, none⟩), .pointer (some ⟨d.Bc, 0, none⟩), .pointer (some ⟨d.Bp, 0, none⟩)] W (Placed d c JJ k L O ys)
  | 0, m, L, O, ys, W, hP, hJ, hO, hV => place_zero d hd c al ah ac cl ch cc JJ hW m L O ys W hP hJ (by omega) hV
  | k + 1, m, L, O, ys, W, hP, hJ, hO, hV => place_succ d hd c al ah ac cl ch cc JJ hW k (fun m L O ys W => place_any d hd c al ah ac cl ch cc JJ hW k m L O ys W) m L O ys W hP hJ hO hV

end Go.Proofs.Yteckeobhlfddlaa
