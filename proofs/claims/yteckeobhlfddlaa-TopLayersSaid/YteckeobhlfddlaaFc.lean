/-
  The walk of 'lay'.
-/
import Derived.Test.YteckeobhlfddlaaFb
import Derived.Deep.LoopGhost
import Derived.Maps.AppendAt
namespace Go.Proofs.Yteckeobhlfddlaa
open Go.RowKit

/-- What the loop of 'lay' keeps. -/
structure LayW (w wr : World) (vl vh vc : Value) (nl nh nc : Nat) (xl xh xc : List Value) : Prop where
  T : Trip wr (w.heap.size + 1) 63 vl vh vc
  R : Trip wr w.heap.size 63 (.slice none 0 0) (.slice none 0 0) (.slice none 0 0)
  l : wr.ownsRow (w.heap.size + 2) 3 1 vl nl xl
  h : wr.ownsRow (w.heap.size + 2) 3 1 vh nh xh
  c : wr.ownsRow (w.heap.size + 2) 87 3 vc nc xc
  d1 : vl.ownBlock = none ∨ vl.ownBlock ≠ vh.ownBlock
  d2 : vl.ownBlock = none ∨ vl.ownBlock ≠ vc.ownBlock
  d3 : vh.ownBlock = none ∨ vh.ownBlock ≠ vc.ownBlock
  below : Below w.heap.size w wr

theorem apart_symm {x y : Option Nat} (h : x = none ∨ x ≠ y) : y = none ∨ y ≠ x := by
  cases y with
  | none => exact .inl rfl
  | some b => exact .inr fun e => h.elim (fun h => by rw [h] at e; cases e) (fun h => h e.symm)
theorem apart_new {w : World} {base : Nat} {e : TypeId} {size : Nat} {u v : Value} {n : Nat} {xs : List Value} {g m cap : Nat} (hu : w.ownsRow base e size u n xs) (h : v.ownBlock = none ∨ v.ownBlock ≠ u.ownBlock)
    (hat : some g = v.ownBlock ∨ w.heap.size ≤ g) : (Value.slice (some ⟨g, 0, none⟩) m cap).ownBlock = none ∨ (Value.slice (some ⟨g, 0, none⟩) m cap).ownBlock ≠ u.ownBlock := by
  refine .inr fun e2 => ?_
  have e2 : some g = u.ownBlock := e2
  rcases hat with e' | e'
  · rcases h with h | h
    · rw [h] at e'; cases e'
    · exact h (e'.symm.trans e2)
  · have := (hu.lt g e2.symm).2
    omega
theorem not_own {w : World} {base b : Nat} {e : TypeId} {size : Nat} {v : Value} {n : Nat} {xs : List Value} (h : w.ownsRow base e size v n xs) (hb : b < base) : some b ≠ v.ownBlock := fun e' => by
  have := (h.lt b e'.symm).1; omega

theorem LayW.base {w wr : World} {vl vh vc : Value} {nl nh nc : Nat} {xl xh xc : List Value} (S : LayW w wr vl vh vc nl nh nc xl xh xc) : w.heap.size + 2 ≤ wr.heap.size := by
  have := S.T.lt; omega

theorem LayW.low {w wr w1 : World} {vl vh vc : Value} {nl nh nc m : Nat} {xl xh xc ys : List Value} {g cap : Nat} (S : LayW w wr vl vh vc nl nh nc xl xh xc) (hown : w1.ownsRow (w.heap.size + 2) 3 1 (.slice (some ⟨g, 0, none⟩) m cap) m ys)
    (hg' : wr.grownBy w1 vl.ownBlock) (hat : some g = vl.ownBlock ∨ wr.heap.size ≤ g) :
    Trip w1 (w.heap.size + 1) 63 vl vh vc ∧ LayW w (w1.setCell ⟨w.heap.size + 1, 0, none⟩ (.slice (some ⟨g, 0, none⟩) m cap)) (.slice (some ⟨g, 0, none⟩) m cap) vh vc m nh nc ys xh xc := by
  have T1 := S.T.grown hg' (not_own S.l (by omega))
  have hb := S.base
  refine ⟨T1, T1.set0 (.slice (some ⟨g, 0, none⟩) m cap), (S.R.grown hg' (not_own S.l (by omega))).setOther (by simp) _, ownsRow_setCell_below hown (by simp) _, ownsRow_setCell_below (S.h.kept hg' (apart_symm S.d1)) (by simp) _, ownsRow_setCell_below (S.c.kept hg' (apart_symm S.d2)) (by simp) _,
    apart_new S.h S.d1 hat, apart_new S.c S.d2 hat, S.d3, (S.below.grown hg' (by omega) fun k e => by have := (S.l.lt k e).1; omega).setCell (by simp) _⟩
theorem LayW.high {w wr w1 : World} {vl vh vc : Value} {nl nh nc m : Nat} {xl xh xc ys : List Value} {g cap : Nat} (S : LayW w wr vl vh vc nl nh nc xl xh xc) (hown : w1.ownsRow (w.heap.size + 2) 3 1 (.slice (some ⟨g, 0, none⟩) m cap) m ys)
    (hg' : wr.grownBy w1 vh.ownBlock) (hat : some g = vh.ownBlock ∨ wr.heap.size ≤ g) :
    Trip w1 (w.heap.size + 1) 63 vl vh vc ∧ LayW w (w1.setCell ⟨w.heap.size + 1, 1, none⟩ (.slice (some ⟨g, 0, none⟩) m cap)) vl (.slice (some ⟨g, 0, none⟩) m cap) vc nl m nc xl ys xc := by
  have T1 := S.T.grown hg' (not_own S.h (by omega))
  have hb := S.base
  refine ⟨T1, T1.set1 (.slice (some ⟨g, 0, none⟩) m cap), (S.R.grown hg' (not_own S.h (by omega))).setOther (by simp) _, ownsRow_setCell_below (S.l.kept hg' S.d1) (by simp) _, ownsRow_setCell_below hown (by simp) _, ownsRow_setCell_below (S.c.kept hg' (apart_symm S.d3)) (by simp) _,
    apart_symm (apart_new S.l (apart_symm S.d1) hat), S.d2, apart_new S.c S.d3 hat, (S.below.grown hg' (by omega) fun k e => by have := (S.h.lt k e).1; omega).setCell (by simp) _⟩
theorem LayW.cr {w wr w1 : World} {vl vh vc : Value} {nl nh nc m : Nat} {xl xh xc ys : List Value} {g cap : Nat} (S : LayW w wr vl vh vc nl nh nc xl xh xc) (hown : w1.ownsRow (w.heap.size + 2) 87 3 (.slice (some ⟨g, 0, none⟩) m cap) m ys)
    (hg' : wr.grownBy w1 vc.ownBlock) (hat : some g = vc.ownBlock ∨ wr.heap.size ≤ g) :
    Trip w1 (w.heap.size + 1) 63 vl vh vc ∧ LayW w (w1.setCell ⟨w.heap.size + 1, 2, none⟩ (.slice (some ⟨g, 0, none⟩) m cap)) vl vh (.slice (some ⟨g, 0, none⟩) m cap) nl nh m xl xh ys := by
  have T1 := S.T.grown hg' (not_own S.c (by omega))
  have hb := S.base
  refine ⟨T1, T1.set2 (.slice (some ⟨g, 0, none⟩) m cap), (S.R.grown hg' (not_own S.c (by omega))).setOther (by simp) _, ownsRow_setCell_below (S.l.kept hg' S.d2) (by simp) _, ownsRow_setCell_below (S.h.kept hg' S.d3) (by simp) _, ownsRow_setCell_below hown (by simp) _,
    S.d1, apart_symm (apart_new S.l (apart_symm S.d2) hat), apart_symm (apart_new S.h (apart_symm S.d3) hat), (S.below.grown hg' (by omega) fun k e => by have := (S.c.lt k e).1; omega).setCell (by simp) _⟩

def LayS (w wr : World) (zs : List Int) (k : Nat) : Prop := ∃ vl vh vc, LayW w wr vl vh vc k k (k - 1) ((lowsTo zs k).map (Value.int .i64)) ((highsTo zs k).map (Value.int .i64)) (crCells (crsTo zs k))

theorem LayS.next {w wr : World} {vl vh vc : Value} {zs : List Int} {k nc : Nat} {lo hi : Int} {xc : List Value} (S : LayW w wr vl vh vc (k + 1) (k + 1) nc ((lowsTo zs k).map (Value.int .i64) ++ [.int .i64 lo]) ((highsTo zs k).map (Value.int .i64) ++ [.int .i64 hi]) xc)
    (h1 : lo = min (posAt zs k) (posAt zs (k + 1))) (h2 : hi = max (posAt zs k) (posAt zs (k + 1))) (h3 : nc = k) (h4 : xc = crCells (crsTo zs (k + 1))) : LayS w wr zs (k + 1) := by
  subst h1 h2 h3 h4
  refine ⟨vl, vh, vc, ?_⟩
  rw [lowsTo_succ, highsTo_succ]
  simpa using S
theorem posAt_even {zs : List Int} {k : Nat} (h : k < zs.length) (hp : ((k : Int) % 2 == 0) = true) : posAt zs (k + 1) = posAt zs k + zs[k] := by
  have : k % 2 = 0 := by simp at hp; omega
  simp [posAt, this, h]
theorem posAt_odd {zs : List Int} {k : Nat} (h : k < zs.length) (hp : ((k : Int) % 2 == 0) = false) : posAt zs (k + 1) = posAt zs k - zs[k] := by
  have : ¬ k % 2 = 0 := by simp at hp; omega
  simp [posAt, this, h]
theorem crs_next {zs : List Int} {k : Nat} (h : 0 < k) : crCells (crsTo zs k) ++ [.int .i64 ((k : Int) - 1), .int .i64 k, .int .i64 (posAt zs k)] = crCells (crsTo zs (k + 1)) := by
  rw [crsTo_succ zs k h, crCells_append]
  simp only [crCells, List.flatMap_cons, List.flatMap_nil, List.append_nil]
  rw [show ((k - 1 : Nat) : Int) = (k : Int) - 1 from by omega]

theorem LayS.start (w : World) (zs : List Int) : LayS w ((w.alloc (.cells #[.slice none 0 0, .slice none 0 0, .slice none 0 0] 63)).alloc (.cells #[.slice none 0 0, .slice none 0 0, .slice none 0 0] 63)) zs 0 := by
  refine ⟨.slice none 0 0, .slice none 0 0, .slice none 0 0, ?_, ?_, World.ownsRow_nil _ _ _ _, World.ownsRow_nil _ _ _ _, World.ownsRow_nil _ _ _ _, .inl rfl, .inl rfl, .inl rfl, ((Below.refl _ _).alloc (Nat.le_refl _) _).alloc (by simp) _⟩
  · have := heap_alloc_new (w.alloc (.cells #[.slice none 0 0, .slice none 0 0, .slice none 0 0] 63)) (.cells #[.slice none 0 0, .slice none 0 0, .slice none 0 0] 63)
    rw [World.size_alloc] at this
    exact this
  · exact (Below.heap_alloc _ _ _ (by simp)).trans (heap_alloc_new w _)

/-- What 'lay' hands back. -/
def LayPost (zs : List Int) (w : World) (e : Ending) (w' : World) : Prop := ∃ v, e = .returned (.tuple #[v, .int .i64 (posAt zs zs.length)]) ∧ ClothV w' w.heap.size (layCl zs) v ∧ Below w.heap.size w w'

theorem LayPost.mk {w wr : World} {vl vh vc : Value} {zs : List Int} (S : LayW w wr vl vh vc zs.length zs.length (zs.length - 1) ((lowsTo zs zs.length).map (Value.int .i64)) ((highsTo zs zs.length).map (Value.int .i64)) (crCells (crsTo zs zs.length))) :
    LayPost zs w (.returned (.tuple #[.agg #[vl, vh, vc], .int .i64 (posAt zs zs.length)])) (((wr.setCell ⟨w.heap.size, 0, none⟩ vl).setCell ⟨w.heap.size, 1, none⟩ vh).setCell ⟨w.heap.size, 2, none⟩ vc) := by
  have k : ∀ {e : TypeId} {size : Nat} {v : Value} {n : Nat} {xs : List Value}, wr.ownsRow (w.heap.size + 2) e size v n xs → (((wr.setCell ⟨w.heap.size, 0, none⟩ vl).setCell ⟨w.heap.size, 1, none⟩ vh).setCell ⟨w.heap.size, 2, none⟩ vc).ownsRow w.heap.size e size v n xs := fun h =>
    ownsRow_weaken (ownsRow_setCell_below (ownsRow_setCell_below (ownsRow_setCell_below h (by simp) _) (by simp) _) (by simp) _) (by omega)
  refine ⟨_, rfl, ⟨vl, vh, vc, rfl, ?_, ?_, ?_⟩, ((S.below.setCell (by simp) _).setCell (by simp) _).setCell (by simp) _⟩
  · simpa [layCl] using k S.l
  · simpa [layCl] using k S.h
  · simpa [layCl] using k S.c

set_option maxRecDepth 100000 in
set_option maxHeartbeats 1000000 in
theorem lay_any (a : Option Addr) (n cap : Nat) (zs : List Int) (w : World) (hn : zs.length = n) (hm : n ≤ 9) (hs : sizesB zs = true) (hz : Ints w a zs) :
    Calls Try.prog 38 #[.slice a n cap] w (LayPost zs w) := by
  subst hn
  have hx := Lib.hid hz.at
  have Hs := Lib.hid hs
  clear hz hs
  go_enter Try.func38, Try.ntmps38
  go_wp2
  go_loopw [5, 11] (fun at_ i wr => ∃ k : Nat, k ≤ zs.length ∧ i = .int .i64 k ∧ at_ = .int .i64 (posAt zs k) ∧ LayS w wr zs k) (fun _ i _ => zs.length - (intOf i).toNat)
  case atStart => exact ⟨0, Nat.zero_le _, rfl, rfl, LayS.start w zs⟩
  case round =>
    obtain ⟨k, hk, rfl, rfl, vl, vh, vc, S⟩ := hrel
    by_cases hlt : k < zs.length
    · rcases hx.out with h | ⟨b, off, rfl, hc⟩
      · subst h; simp at hlt
      have hck := hc k hlt
      clear hc hx
      have hckr := (S.below.cell (p := ⟨b, off + k, none⟩) (World.block_lt_of_cell? w _ hck)).trans hck
      clear hck
      have hbd := posAt_bound Hs.out k
      have hsz := size_in Hs.out k hlt
      have t0 := S.T.c0
      have t1 := S.T.c1
      have t2 := S.T.c2
      have f0 := S.T.fr 0
      have f1 := S.T.fr 1
      have f2 := S.T.fr 2
      have hb0 := Lib.hid S.base
      rcases Bool.eq_false_or_eq_true ((k : Int) % 2 == 0) with hpar | hpar
      · have HE := Lib.hid (posAt_even hlt hpar)
        go_wp2_with (first
          | (at_builtin; refine wpList_app_int rfl (.tmp 27) (.tmp 31) rfl (w.heap.size + 2) _ _ _ rfl (posAt zs k) _ rfl (by simp) S.l (by omega) (by first | exact hb0.out | omega) ?_; intro g1 cap1 w1 hown hgr hat hlt1; obtain ⟨T1, S1⟩ := S.low hown hgr hat; clear t0 t1 t2 f0 f1 f2; have q0 := T1.c0; have q1 := T1.c1; have q2 := T1.c2; have f0 := T1.fr 0; have f1 := T1.fr 1; have f2 := T1.fr 2; have hb1 := Lib.hid S1.base; clear hown hgr hat T1 S)
          | (at_builtin; refine wpList_app_int rfl (.tmp 35) (.tmp 39) rfl (w.heap.size + 2) _ _ _ rfl (posAt zs k + zs[k]) _ rfl (by simp) S1.h (by omega) (by first | exact hb1.out | omega) ?_; intro g2 cap2 w2 hown hgr hat hlt2; obtain ⟨T2, S2⟩ := S1.high hown hgr hat; clear q0 q1 q2 f0 f1 f2; have q0 := T2.c0; have q1 := T2.c1; have q2 := T2.c2; have f0 := T2.fr 0; have f1 := T2.fr 1; have f2 := T2.fr 2; have hb2 := Lib.hid S2.base; clear hown hgr hat T2 S1)
          | (at_builtin; refine wpList_app_crease rfl (.tmp 45) (.tmp 51) rfl (w.heap.size + 2) _ _ _ rfl ((k : Int) - 1) k (posAt zs k) _ rfl (by simp) S2.c (by omega) (by first | exact hb2.out | omega) ?_; intro g3 cap3 w3 hown hgr hat hlt3; obtain ⟨T3, S3⟩ := S2.cr hown hgr hat; clear q0 q1 q2 f0 f1 f2; have q0 := T3.c0; have q1 := T3.c1; have q2 := T3.c2; have f0 := T3.fr 0; have f1 := T3.fr 1; have f2 := T3.fr 2; have hb3 := Lib.hid S3.base; clear hown hgr hat T3 S2))
        · go_roundw
          case rel => exact ⟨k + 1, by omega, by go_num, by rw [HE.out], LayS.next S3 (by rw [HE.out]; omega) (by rw [HE.out]; omega) (by omega) (crs_next (by assumption))⟩
          case measure => simp [intOf]; omega
        · have hk0 : ¬ 0 < k := by assumption
          go_roundw
          case rel => exact ⟨k + 1, by omega, by go_num, by rw [HE.out], LayS.next S2 (by rw [HE.out]; omega) (by rw [HE.out]; omega) (by omega) (by have : k = 0 := (by omega); subst this; rfl)⟩
          case measure => simp [intOf]; omega
      · have HE := Lib.hid (posAt_odd hlt hpar)
        go_wp2_with (first
          | (at_builtin; refine wpList_app_int rfl (.tmp 27) (.tmp 31) rfl (w.heap.size + 2) _ _ _ rfl (posAt zs k - zs[k]) _ rfl (by simp) S.l (by omega) (by first | exact hb0.out | omega) ?_; intro g1 cap1 w1 hown hgr hat hlt1; obtain ⟨T1, S1⟩ := S.low hown hgr hat; clear t0 t1 t2 f0 f1 f2; have q0 := T1.c0; have q1 := T1.c1; have q2 := T1.c2; have f0 := T1.fr 0; have f1 := T1.fr 1; have f2 := T1.fr 2; have hb1 := Lib.hid S1.base; clear hown hgr hat T1 S)
          | (at_builtin; refine wpList_app_int rfl (.tmp 35) (.tmp 39) rfl (w.heap.size + 2) _ _ _ rfl (posAt zs k) _ rfl (by simp) S1.h (by omega) (by first | exact hb1.out | omega) ?_; intro g2 cap2 w2 hown hgr hat hlt2; obtain ⟨T2, S2⟩ := S1.high hown hgr hat; clear q0 q1 q2 f0 f1 f2; have q0 := T2.c0; have q1 := T2.c1; have q2 := T2.c2; have f0 := T2.fr 0; have f1 := T2.fr 1; have f2 := T2.fr 2; have hb2 := Lib.hid S2.base; clear hown hgr hat T2 S1)
          | (at_builtin; refine wpList_app_crease rfl (.tmp 45) (.tmp 51) rfl (w.heap.size + 2) _ _ _ rfl ((k : Int) - 1) k (posAt zs k) _ rfl (by simp) S2.c (by omega) (by first | exact hb2.out | omega) ?_; intro g3 cap3 w3 hown hgr hat hlt3; obtain ⟨T3, S3⟩ := S2.cr hown hgr hat; clear q0 q1 q2 f0 f1 f2; have q0 := T3.c0; have q1 := T3.c1; have q2 := T3.c2; have f0 := T3.fr 0; have f1 := T3.fr 1; have f2 := T3.fr 2; have hb3 := Lib.hid S3.base; clear hown hgr hat T3 S2))
        · go_roundw
          case rel => exact ⟨k + 1, by omega, by go_num, by rw [HE.out], LayS.next S3 (by rw [HE.out]; omega) (by rw [HE.out]; omega) (by omega) (crs_next (by assumption))⟩
          case measure => simp [intOf]; omega
        · have hk0 : ¬ 0 < k := by assumption
          go_roundw
          case rel => exact ⟨k + 1, by omega, by go_num, by rw [HE.out], LayS.next S2 (by rw [HE.out]; omega) (by rw [HE.out]; omega) (by omega) (by have : k = 0 := (by omega); subst this; rfl)⟩
          case measure => simp [intOf]; omega
    · obtain rfl : k = zs.length := by omega
      have t0 := S.T.c0
      have t1 := S.T.c1
      have t2 := S.T.c2
      have r0 := S.R.c0
      have r1 := S.R.c1
      have r2 := S.R.c2
      have g0 := S.R.fr 0
      have g1 := S.R.fr 1
      have g2 := S.R.fr 2
      obtain ⟨al, cl, rfl⟩ := ownsRow_slice S.l
      obtain ⟨ah, ch, rfl⟩ := ownsRow_slice S.h
      obtain ⟨ac, cc, rfl⟩ := ownsRow_slice S.c
      go_wp2
      refine bodyPost_ret (v := .tuple #[.agg #[.slice al zs.length cl, .slice ah zs.length ch, .slice ac (zs.length - 1) cc], .int .i64 (posAt zs zs.length)]) (by simp [results, Try.results38, go_sem, r0, r1, r2]) rfl (LayPost.mk S)

end Go.Proofs.Yteckeobhlfddlaa
