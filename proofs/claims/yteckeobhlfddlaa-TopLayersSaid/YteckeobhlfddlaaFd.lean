/-
  The walks of 'clothOfStrip', 'beside', 'crossed', 'fits'.
-/
import Derived.Test.YteckeobhlfddlaaFc
import Derived.Lib.QuietBelow
namespace Go.Proofs.Yteckeobhlfddlaa
open Go.RowKit Go.Sort

theorem ClothV.slices {w : World} {base : Nat} {c : Cl} {v : Value} (h : ClothV w base c v) : ∃ (al : Option Addr) (cl : Nat) (ah : Option Addr) (ch : Nat) (ac : Option Addr) (cc : Nat), v = .agg #[.slice al c.low.length cl, .slice ah c.high.length ch, .slice ac c.crs.length cc] ∧
    w.ownsRow base 3 1 (.slice al c.low.length cl) c.low.length (c.low.map (Value.int .i64)) ∧ w.ownsRow base 3 1 (.slice ah c.high.length ch) c.high.length (c.high.map (Value.int .i64)) ∧
    w.ownsRow base 87 3 (.slice ac c.crs.length cc) c.crs.length (crCells c.crs) := by
  obtain ⟨vl, vh, vc, rfl, hl, hh, hc⟩ := h
  obtain ⟨al, cl, rfl⟩ := ownsRow_slice hl
  obtain ⟨ah, ch, rfl⟩ := ownsRow_slice hh
  obtain ⟨ac, cc, rfl⟩ := ownsRow_slice hc
  exact ⟨al, cl, ah, ch, ac, cc, rfl, hl, hh, hc⟩

/-- What a call that only makes memory hands back. -/
def Gives (R : Value → World → Prop) (w : World) (e : Ending) (w' : World) : Prop := ∃ v, e = .returned v ∧ R v w' ∧ Below w.heap.size w w'

theorem Trip.below {w w' : World} {b B : Nat} {t : TypeId} {v0 v1 v2 : Value} (h : Trip w b t v0 v1 v2) (hb : Below B w w') (hB : b < B) : Trip w' b t v0 v1 v2 := (hb.block b hB).trans h
theorem Trip.new (w : World) (t : TypeId) (v0 v1 v2 : Value) : Trip (w.alloc (.cells #[v0, v1, v2] t)) w.heap.size t v0 v1 v2 := heap_alloc_new w _
theorem Trip.alloc {w : World} {b : Nat} {t : TypeId} {v0 v1 v2 : Value} (h : Trip w b t v0 v1 v2) (o : Obj) : Trip (w.alloc o) b t v0 v1 v2 := (Below.heap_alloc w o b h.lt).trans h

theorem ClothV.map {w w' : World} {base base' : Nat} {c : Cl} {v : Value} (h : ClothV w base c v) (hk : ∀ {e : TypeId} {size : Nat} {v : Value} {n : Nat} {xs : List Value}, w.ownsRow base e size v n xs → w'.ownsRow base' e size v n xs) : ClothV w' base' c v := by
  obtain ⟨vl, vh, vc, rfl, hl, hh, hc⟩ := h
  exact ⟨vl, vh, vc, rfl, hk hl, hk hh, hk hc⟩

set_option maxRecDepth 100000 in
set_option maxHeartbeats 1000000 in
theorem clothOfStrip_any (a : Option Addr) (n cap : Nat) (zs : List Int) (w : World) (hn : zs.length = n) (hm : n ≤ 9) (hs : sizesB zs = true) (hz : Ints w a zs) :
    Calls Try.prog 22 #[.slice a n cap] w (Gives (fun v w' => ClothV w' w.heap.size (layCl zs) v) w) := by
  have hL := Lib.hid (lay_any a n cap zs (w.alloc (.cells #[.slice none 0 0, .slice none 0 0, .slice none 0 0] 63)) hn hm hs (fun i hi => by
    obtain ⟨b, off, e, hc⟩ := hz i hi
    exact ⟨b, off, e, (World.cell?_alloc_past _ _ _ (World.block_lt_of_cell? w _ hc)).trans hc⟩))
  clear hz hs hm hn
  go_enter Try.func22, Try.ntmps22
  go_wp2_with fail
  refine hL.out.mono ?_
  rintro e w1 ⟨v, rfl, hv, hb⟩
  have hR := (Trip.new w 63 (.slice none 0 0) (.slice none 0 0) (.slice none 0 0)).below hb (by simp)
  obtain ⟨al, cl, ah, ch, ac, cc, rfl, hl, hh, hc⟩ := hv.slices
  have r0 := hR.c0
  have r1 := hR.c1
  have r2 := hR.c2
  have g0 := hR.fr 0
  have g1 := hR.fr 1
  have g2 := hR.fr 2
  have hlt := hR.lt
  go_wp2
  refine bodyPost_ret (v := .agg #[.slice al (layCl zs).low.length cl, .slice ah (layCl zs).high.length ch, .slice ac (layCl zs).crs.length cc]) (by simp [results, Try.results22, go_sem, r0, r1, r2, hlt]) rfl ?_
  refine ⟨_, rfl, hv.map fun h => ?_, ?_⟩
  · exact ownsRow_weaken ((ownsRow_setCell_below (ownsRow_setCell_below (ownsRow_setCell_below h (by simp) _) (by simp) _) (by simp) _).alloc _) (by simp)
  · refine ((((((Below.refl _ _).alloc (Nat.le_refl _) _).trans (hb.mono (by simp))).setCell (by simp) _).setCell (by simp) _).setCell (by simp) _).alloc ?_ _
    simp; omega


/-- A crease as a value, and its box. -/
def crV (f : Cr) : Value := .agg #[.int .i64 f.first, .int .i64 f.second, .int .i64 f.pos]
def crBox (f : Cr) : Obj := .cells #[.int .i64 f.first, .int .i64 f.second, .int .i64 f.pos] 87

theorem beside_eq (f g : Cr) : ((f.pos == g.pos) && (((f.second : Int) % 2) == ((g.second : Int) % 2))) = f.beside g := by
  unfold Cr.beside
  rw [Bool.eq_iff_iff]
  simp
  omega

set_option maxHeartbeats 400000 in
theorem beside_any (f g : Cr) (w : World) :
    Calls Try.prog 67 #[.agg #[.int .i64 f.first, .int .i64 f.second, .int .i64 f.pos], .agg #[.int .i64 g.first, .int .i64 g.second, .int .i64 g.pos]] w
      fun e w' => e = .returned (.bool (f.beside g)) ∧ (w.alloc (crBox f)).alloc (crBox g) = w' := by
  have hB := Lib.hid (beside_eq f g)
  rcases Bool.eq_false_or_eq_true (f.pos == g.pos) with h | h
  all_goals
    go_enter Try.func67, Try.ntmps67
    go_wp2
    go_ret
    exact ⟨ret_bool (by rw [← hB.out, h]; simp), rfl⟩

theorem beside_below (f g : Cr) (w : World) :
    Calls Try.prog 67 #[.agg #[.int .i64 f.first, .int .i64 f.second, .int .i64 f.pos], .agg #[.int .i64 g.first, .int .i64 g.second, .int .i64 g.pos]] w
      fun e w' => e = .returned (.bool (f.beside g)) ∧ Below w.heap.size w w' :=
  (beside_any f g w).mono fun _ _ ⟨he, hw⟩ => ⟨he, hw ▸ ((Below.refl _ _).alloc (Nat.le_refl _) _).alloc (by simp) _⟩

set_option maxRecDepth 100000 in
set_option maxHeartbeats 1000000 in
theorem crossed_any (vl vh : Value) (ac aL : Option Addr) (cc n cL : Nat) (crs : List Cr) (L : List Int) (f : Cr) (w : World) (hn : L.length = n) (hm : n ≤ 9) (hm2 : crs.length ≤ 9)
    (hc : w.ownsRow 0 87 3 (.slice ac crs.length cc) crs.length (crCells crs)) (hL : w.ownsRow 0 3 1 (.slice aL n cL) n (L.map (Value.int .i64)))
    (hf : f.first < n ∧ f.second < n) (hcr : ∀ g ∈ crs, g.first < n ∧ g.second < n) :
    Calls Try.prog 52 #[.agg #[vl, vh, .slice ac crs.length cc], .slice aL n cL, .agg #[.int .i64 f.first, .int .i64 f.second, .int .i64 f.pos]] w
      (Gives (fun v _ => v = .bool (crossedB crs L f)) w) := by
  have HC := Lib.hid (creases_cells hc)
  have HL := Lib.hid (ints_cells hL)
  subst hn
  rcases HL.out with h | ⟨bL, rfl, hbL, hLc⟩
  · subst h; simp at hf
  have l1 := hLc _ hf.1
  have l2 := hLc _ hf.2
  have HLc := Lib.hid hLc
  clear hLc HL hc hL
  obtain ⟨hf1, hf2⟩ := hf
  go_enter Try.func52, Try.ntmps52
  rcases Int.lt_or_le (L[f.first]'hf1) (L[f.second]'hf2) with h | h
  case' inl => have hmax : max (L[f.first]?.getD 0) (L[f.second]?.getD 0) = L[f.second]'hf2 := by simp [hf1, hf2]; omega
  case' inr => have hmax : max (L[f.first]?.getD 0) (L[f.second]?.getD 0) = L[f.first]'hf1 := by simp [hf1, hf2]; omega
  all_goals
    have HM := Lib.hid hmax
    clear hmax
    go_wp2
    go_quiet (fail)
    go_wp2
    first
      | (obtain ⟨M, hM, hX⟩ : ∃ M, max (L[f.first]?.getD 0) (L[f.second]?.getD 0) = M ∧ L[f.second]'hf2 = M := ⟨_, HM.out, rfl⟩; rw [hX]; clear hX)
      | (obtain ⟨M, hM, hX⟩ : ∃ M, max (L[f.first]?.getD 0) (L[f.second]?.getD 0) = M ∧ L[f.first]'hf1 = M := ⟨_, HM.out, rfl⟩; rw [hX]; clear hX)
    clear HM
    have HM := Lib.hid hM
    clear hM
    go_loopw [24] (fun i wr => ∃ k : Nat, k ≤ crs.length ∧ i = .int .i64 k ∧ (crs.take k).any (crossB L M f) = false ∧ Below (w.heap.size + 2) ((w.alloc (.cells #[vl, vh, .slice ac crs.length cc] 63)).alloc (crBox f)) wr) (fun i _ => crs.length - (intOf i).toNat)
    case atStart => exact ⟨0, Nat.zero_le _, rfl, by simp, below_drewN (Below.refl _ _) _⟩
    case round =>
      obtain ⟨k, hk, rfl, hany, hb⟩ := hrel
      have Hany := Lib.hid hany
      clear hany
      by_cases hlt : k < crs.length
      · rcases HC.out with h | ⟨bc, rfl, hbc, hcc⟩
        · subst h; simp at hlt
        obtain ⟨c0, c1, c2⟩ := hcc k hlt
        obtain ⟨n1, n2⟩ := hcr _ (List.getElem_mem hlt)
        have m1 := HLc.out _ n1
        have m2 := HLc.out _ n2
        have far : ∀ {b o : Nat} {v : Value}, b < w.heap.size → w.cell? ⟨b, o, none⟩ = some v → wr.cell? ⟨b, o, none⟩ = some v := fun {b o v} hbb hv => by
          rw [hb.cell (p := ⟨b, o, none⟩) (by simp; omega), World.cell?_alloc_past _ _ _ (by simp; omega), World.cell?_alloc_past _ _ _ hbb]; exact hv
        replace c0 := far hbc c0
        replace c1 := far hbc c1
        replace c2 := far hbc c2
        replace m1 := far hbL m1
        replace m2 := far hbL m2
        have hsz := hb.size
        simp at hsz
        have b0 : wr.cell? ⟨w.heap.size + 1, 0, none⟩ = some (.int .i64 f.first) := (hb.cell (p := ⟨w.heap.size + 1, 0, none⟩) (by simp)).trans (World.cell?_alloc_at _ _ _ _ (by simp))
        have b1 : wr.cell? ⟨w.heap.size + 1, 1, none⟩ = some (.int .i64 f.second) := (hb.cell (p := ⟨w.heap.size + 1, 1, none⟩) (by simp)).trans (World.cell?_alloc_at _ _ _ _ (by simp))
        have b2 : wr.cell? ⟨w.heap.size + 1, 2, none⟩ = some (.int .i64 f.pos) := (hb.cell (p := ⟨w.heap.size + 1, 2, none⟩) (by simp)).trans (World.cell?_alloc_at _ _ _ _ (by simp))
        clear far
        generalize hg : crs[k] = g at *
        have HG := Lib.hid hg
        have HB := Lib.hid hb
        clear hg hb
        have hbs := fun wx => beside_below g f wx
        have far : ∀ {b o : Nat} {v : Value}, b < wr.heap.size → wr.cell? ⟨b, o, none⟩ = some v → (wr.alloc (crBox g)).cell? ⟨b, o, none⟩ = some v := fun {b o v} hbb hv => by
          rw [World.cell?_alloc_past _ _ _ hbb]; exact hv
        have s0 := cell_regrown (show (wr.alloc (crBox g)).cell? ⟨wr.heap.size, 0, none⟩ = some (.int .i64 g.first) from (World.cell?_alloc_at _ _ _ _ rfl))
        have s1 := cell_regrown (show (wr.alloc (crBox g)).cell? ⟨wr.heap.size, 1, none⟩ = some (.int .i64 g.second) from (World.cell?_alloc_at _ _ _ _ rfl))
        have s2 := cell_regrown (show (wr.alloc (crBox g)).cell? ⟨wr.heap.size, 2, none⟩ = some (.int .i64 g.pos) from (World.cell?_alloc_at _ _ _ _ rfl))
        have s3 := cell_regrown (far (by omega) b0)
        have s4 := cell_regrown (far (by omega) b1)
        have s5 := cell_regrown (far (by omega) b2)
        have s6 := cell_regrown (far (by omega) m1)
        have s7 := cell_regrown (far (by omega) m2)
        clear far
        simp only [crBox] at s0 s1 s2 s3 s4 s5 s6 s7
        rcases Bool.eq_false_or_eq_true (g.beside f) with hbt | hbt
        all_goals
          simp only [hbt] at hbs
          have Hbs := Lib.hid hbs
          clear hbs
          go_wp2_with fail
          refine wp_region_quiet_below (by kernel_rfl) (by kernel_rfl) ?_
          repeat (go_big_quiet_step ((exact Calls.regrown_of (Hbs.out _))))
          refine wpQuiet_nil ?_
          intro w2 hw2
          obtain ⟨pw, hpw⟩ := hw2
          have hb2 := below_regrown (wr.alloc (crBox g)) pw.d pw.os
          simp only [crBox] at hb2
          rw [← hpw] at hb2
          clear hpw s0 s1 s2 s3 s4 s5 s6 s7
          have HBW := Lib.hid (HB.out.trans ((((Below.refl _ _).alloc (Nat.le_refl _) _).trans (hb2.mono (by simp))).mono (show w.heap.size + 2 ≤ wr.heap.size by omega)))
          have HQ := Lib.hid (show crossB L M f g = (g.beside f && !(decide (M < L[g.first]'n1) == decide (M < L[g.second]'n2))) by simp [crossB, n1, n2, bne])
          have Hbt := Lib.hid hbt
          clear hb2 hbt
          go_wp2
          all_goals first
            | (go_roundw
               case rel => exact ⟨k + 1, by omega, by go_num, any_next _ _ _ hlt Hany.out (by rw [HG.out, HQ.out, Hbt.out]; first | rfl | (rw [Bool.true_and]; assumption)), HBW.out⟩
               case measure => simp [intOf]; omega)
            | (go_ret
               refine ⟨.bool true, rfl, ?_, (((Below.refl _ _).alloc (Nat.le_refl _) _).alloc (by simp) _).trans (HBW.out.mono (by omega))⟩
               rw [crossedB, HM.out, any_true_at _ _ _ hlt (by rw [HG.out, HQ.out, Hbt.out, Bool.true_and]; assumption)])
      · go_wp2
        go_ret
        refine ⟨.bool false, rfl, ?_, ((((Below.refl _ _).alloc (Nat.le_refl _) _).alloc (by simp) _).trans (hb.mono (by omega)))⟩
        have hk' : k = crs.length := by omega
        subst hk'
        rw [crossedB, HM.out, any_done _ _ Hany.out]

end Go.Proofs.Yteckeobhlfddlaa
