/-
  The walk of 'graphOf'.
-/
import Derived.Test.YteckeobhlfddlaaRg
import Derived.Deep.RegionWith
import Derived.Deep.CutRange
namespace Go.Proofs.Yteckeobhlfddlaa.Rib
open Go.RowKit Go.Sort

/-- A slice of edges. -/
def Edges (w : World) (a : Option Addr) (es : List (Int × Int)) : Prop := es = [] ∨ ∃ b off, a = some ⟨b, off, none⟩ ∧ ∀ i, i < es.length → w.cell? ⟨b, off + i * 2, none⟩ = some (.int .i64 (es[i]?.getD (0, 0)).1) ∧ w.cell? ⟨b, off + i * 2 + 1, none⟩ = some (.int .i64 (es[i]?.getD (0, 0)).2)

/-- What 'graphOf' hands back. -/
def GraphPost (n : Nat) (es : List (Int × Int)) (w : World) (e : Ending) (w' : World) : Prop := Below w.heap.size w w' ∧ match graphFrom n (startG n) es with
  | some gs => ∃ g, e = .returned (.tuple #[.slice (some ⟨g, 0, none⟩) n n, .bool true]) ∧ RowG w' g gs ∧ w.heap.size ≤ g
  | none => e = .returned (.tuple #[.slice none 0 0, .bool false])
theorem edge_bad {n : Nat} {gs : List Nat} {A B : Int} {es : List (Int × Int)} (h : badEdge n gs A B = true) : graphFrom n gs ((A, B) :: es) = none := by rw [graphFrom, if_pos h]
theorem edge_good {n : Nat} {gs : List Nat} {A B : Int} {es : List (Int × Int)} (h : badEdge n gs A B = false) : graphFrom n gs ((A, B) :: es) = graphFrom n (addEdge gs A.toNat B.toNat) es := by rw [graphFrom, if_neg (by simp [h])]

/-- What is known while an edge is laid: the sets' block, the edge's block. -/
def Mid (w : World) (B : Nat) (x y : Nat) (L : List Nat) (W : World) : Prop := RowG W w.heap.size L ∧ Below w.heap.size w W ∧ w.heap.size < B ∧ B < W.heap.size ∧ W.heap[B]? = some (.cells #[.int .i64 (x : Int), .int .i64 (y : Int)] 31 (0, 0))
theorem Mid.next {w W : World} {B x y : Nat} {L : List Nat} (h : Mid w B x y L W) (i z : Nat) (o : Obj) : Mid w B x y (L.set i z) ((W.setCell ⟨w.heap.size, i, none⟩ (.int .u16 (z : Int))).alloc o).drew := by
  obtain ⟨h1, h2, h3, h4, h5⟩ := h
  have hs : (W.setCell ⟨w.heap.size, i, none⟩ (.int .u16 (z : Int))).heap.size = W.heap.size := sz_set _ _ _
  refine ⟨(Below.heap_alloc _ _ _ (by rw [hs]; omega)).trans (h1.put i z), ((h2.setCell (Nat.le_refl _) _).alloc (by rw [hs]; omega) _).drew, h3, ?_, ?_⟩
  · show B < ((W.setCell _ _).alloc o).heap.size
    rw [sz_alloc, hs]; omega
  · refine (Below.heap_alloc _ _ _ (by rw [hs]; omega)).trans ((Below.heap_setCell W _ _ B ?_).trans h5)
    show B ≠ w.heap.size
    omega
theorem Mid.c0 {w W : World} {B x y : Nat} {L : List Nat} (h : Mid w B x y L W) : W.cell? ⟨B, 0, none⟩ = some (.int .i64 (x : Int)) := by simp [World.cell?, h.2.2.2.2]
theorem Mid.c1 {w W : World} {B x y : Nat} {L : List Nat} (h : Mid w B x y L W) : W.cell? ⟨B, 1, none⟩ = some (.int .i64 (y : Int)) := by simp [World.cell?, h.2.2.2.2]
theorem setOf_one (y : Nat) (hy : y < 16) (wx : World) : Calls Try.prog 27 #[.slice (some ⟨wx.heap.size, 0, none⟩) 1 1] (wx.alloc (.cells #[.int .i64 (y : Int)] 3)).drew fun e w' => e = .returned (.int .u16 (2 ^ y : Nat)) ∧ (wx.alloc (.cells #[.int .i64 (y : Int)] 3)).drew = w' := by
  have := setOf_any (some ⟨wx.heap.size, 0, none⟩) 1 1 [y] (wx.alloc (.cells #[.int .i64 (y : Int)] 3)).drew rfl (by omega) (by simp; omega) (fun i hi => ⟨wx.heap.size, 0, rfl, by
    have : i = 0 := by simpa using hi
    subst this
    show (wx.alloc (.cells #[.int .i64 (y : Int)] 3)).cell? _ = _
    exact World.cell?_alloc_at _ _ _ _ rfl⟩)
  rwa [show setN' [y] = 2 ^ y by simp [setN']] at this

set_option maxRecDepth 100000 in
set_option maxHeartbeats 2000000 in
theorem graphOf_any (a : Option Addr) (n m cap : Nat) (es : List (Int × Int)) (w : World) (hn : 1 ≤ n) (hm : n ≤ 12) (hl : es.length = m) (hmm : m ≤ 1000) (he : Edges w a es) :
    Calls Try.prog 14 #[.int .i64 n, .slice a m cap] w (GraphPost n es w) := by
  have hmk := make_sets n (by omega)
  have HX := Lib.hid he
  have HL := Lib.hid hl
  have HR := Lib.hid (row_new w n)
  clear he hl
  go_enter Try.func14, Try.ntmps14
  go_wp2
  go_loopw [20] (fun i wr => ∃ k : Nat, k ≤ n ∧ i = .int .i64 k ∧ Hid (RowG wr w.heap.size (startTo n k)) ∧ Below w.heap.size w wr ∧ w.heap.size < wr.heap.size) (fun i _ => n - (intOf i).toNat)
  case atStart => exact ⟨0, Nat.zero_le _, rfl, HR, (Below.refl _ _).alloc (Nat.le_refl _) _, by simp⟩
  case round =>
    obtain ⟨k, hk, rfl, hrow, hb, hsz⟩ := hrel
    by_cases hlt : k < n
    · have HB := Lib.hid hb
      have HW := Lib.hid (wrap_one k (by omega))
      have HS1 := Lib.hid (fun (wx : World) => setOf_any (some ⟨wx.heap.size, 0, none⟩) 1 1 [k] (wx.alloc (.cells #[.int .i64 (k : Int)] 3)) rfl (by omega) (by simp; omega) (fun i hi => ⟨wx.heap.size, 0, rfl, by
        have : i = 0 := by simpa using hi
        subst this
        exact World.cell?_alloc_at _ _ _ _ rfl⟩))
      have hr2 : RowG (wr.alloc (.cells #[.int .i64 (k : Int)] 3)) w.heap.size (startTo n k) := (Below.heap_alloc wr _ _ hsz).trans hrow.out
      have HR2 := Lib.hid hr2
      have hkL : k < (startTo n k).length := by rw [startTo_len hk]; exact hlt
      have c1 := hr2.at hkL
      have c2 := hr2.free k
      have HN := Lib.hid (startTo_next hlt)
      have HQ : Hid (setN' [k] = 2 ^ k) := Lib.hid (by simp [setN'])
      clear hb hr2 hkL
      go_wp2_with (go_at_call 27; refine (HS1.out _).mono ?_; rintro e w' ⟨rfl, rfl⟩)
      go_roundw
      case rel =>
        refine ⟨k + 1, by omega, by go_num, ?_, ?_, ?_⟩
        · have := hrow.out.put k (setN' [k])
          rw [HQ.out, HN.out, ← HQ.out] at this
          exact Lib.hid ((Below.heap_alloc _ _ _ (by rw [sz_set]; exact hsz)).trans this)
        · exact (HB.out.setCell (Nat.le_refl _) _).alloc (by rw [sz_set]; omega) _
        · rw [sz_alloc, sz_set]; omega
      case measure => simp [intOf]; omega
    · obtain rfl : k = n := by omega
      rw [startTo_done] at hrow
      have HB0 := Lib.hid hb
      have hlt0 : Hid (∀ i, i < (startG k).length → (startG k)[i]?.getD 0 < 65536) := Lib.hid (fun i hi => startG_lt hm i (by rw [startG_len] at hi; exact hi))
      obtain ⟨G, hG⟩ : ∃ G, startG k = G := ⟨_, rfl⟩
      have hGl : G.length = k := by rw [← hG, startG_len]
      rw [hG] at hrow hlt0
      have HGG := Lib.hid hG
      clear hb hlt hG
      go_wp2
      go_loopw [32] (fun i w2 => ∃ j : Nat, ∃ gs : List Nat, j ≤ m ∧ i = .int .i64 j ∧ Hid (RowG w2 w.heap.size gs) ∧ gs.length = k ∧ Hid (∀ i, i < gs.length → gs[i]?.getD 0 < 65536) ∧ Hid (graphFrom k G es = graphFrom k gs (es.drop j)) ∧ Hid (Below w.heap.size w w2) ∧ w.heap.size < w2.heap.size) (fun i _ => m - (intOf i).toNat)
      case atStart => exact ⟨0, G, Nat.zero_le _, rfl, hrow, hGl, hlt0, Lib.hid rfl, HB0, hsz⟩
      case round =>
        obtain ⟨j, gs, hj, rfl, hrow2, hgl, hglt, hE, hb2, hsz2⟩ := hrel
        by_cases hjm : j < m
        · have hjL : j < es.length := by rw [HL.out]; exact hjm
          rcases HX.out with h | ⟨b, off, rfl, hc⟩
          · subst h; simp at hjL
          obtain ⟨c0, c1⟩ := hc j hjL
          replace c0 := (hb2.out.cell (p := ⟨b, off + j * 2, none⟩) (World.block_lt_of_cell? w _ c0)).trans c0
          replace c1 := (hb2.out.cell (p := ⟨b, off + j * 2 + 1, none⟩) (World.block_lt_of_cell? w _ c1)).trans c1
          have HD : Hid (es.drop j = (es[j]?.getD (0, 0)) :: es.drop (j + 1)) := Lib.hid (by rw [List.drop_eq_getElem_cons hjL, List.getElem?_eq_getElem hjL]; rfl)
          obtain ⟨⟨A, B⟩, hAB⟩ : ∃ p, es[j]?.getD (0, 0) = p := ⟨_, rfl⟩
          rw [hAB] at c0 c1 HD
          simp only [] at c0 c1
          clear hc hAB hjL
          by_cases h1 : A < 0
          · have HE2 : Hid (graphFrom k G es = none) := Lib.hid (by rw [hE.out, HD.out]; exact edge_bad (by simp [badEdge, h1]))
            go_wp2
            go_quiet (fail)
            go_wp2
            go_ret2
            exact ⟨below_drewN (hb2.out.alloc (by omega) _) _, by rw [HGG.out, HE2.out]; rfl⟩
          · have q1 : 0 ≤ A := by omega
            have q2 : decide (A < 0) = false := decide_eq_false h1
            have q3 : (A < 0) = False := eq_false h1
            by_cases h2 : B ≤ A
            · have HE2 : Hid (graphFrom k G es = none) := Lib.hid (by rw [hE.out, HD.out]; exact edge_bad (by simp [badEdge, h2]))
              go_wp2
              go_quiet (fail)
              go_wp2
              go_ret2
              exact ⟨below_drewN (hb2.out.alloc (by omega) _) _, by rw [HGG.out, HE2.out]; rfl⟩
            · have q4 : decide (B ≤ A) = false := decide_eq_false h2
              have q5 : (B ≤ A) = False := eq_false h2
              by_cases h3 : (k : Int) ≤ B
              · have HE2 : Hid (graphFrom k G es = none) := Lib.hid (by rw [hE.out, HD.out]; exact edge_bad (by simp [badEdge, h3]))
                go_wp2
                go_quiet (fail)
                go_wp2
                go_ret2
                exact ⟨below_drewN (hb2.out.alloc (by omega) _) _, by rw [HGG.out, HE2.out]; rfl⟩
              · have q6 : decide ((k : Int) ≤ B) = false := decide_eq_false h3
                have q7 : ((k : Int) ≤ B) = False := eq_false h3
                obtain ⟨x, rfl⟩ := Int.eq_ofNat_of_zero_le (show 0 ≤ A by omega)
                obtain ⟨y, rfl⟩ := Int.eq_ofNat_of_zero_le (show 0 ≤ B by omega)
                have hy : y < k := by omega
                have hxy : x < y := by omega
                have cx := hrow2.out.at (j := x) (by rw [hgl]; omega)
                have hgx := get_lt hglt.out x
                have HBE : Hid (badEdge k gs (x : Int) (y : Int) = (gs[x]?.getD 0).testBit y) := Lib.hid (by
                  have e1 : decide ((x : Int) < 0) = false := decide_eq_false h1
                  have e2 : decide ((y : Int) ≤ x) = false := decide_eq_false h2
                  have e3 : decide ((k : Int) ≤ y) = false := decide_eq_false h3
                  rw [badEdge, e1, e2, e3]; simp)
                obtain ⟨u, hu⟩ : ∃ u, gs[x]?.getD 0 = u := ⟨_, rfl⟩
                rw [hu] at cx hgx HBE
                have H1 := Lib.hid (fun wx => has_any u y wx hgx (by omega))
                cases hq : u.testBit y with
                | true =>
                  have HE2 : Hid (graphFrom k G es = none) := Lib.hid (by rw [hE.out, HD.out]; exact edge_bad (by rw [HBE.out, hq]))
                  rw [hq] at H1
                  go_wp2
                  go_quiet ((refine (H1.out _).mono ?_; rintro e w' ⟨rfl, rfl⟩; exact ⟨rfl, _, rfl⟩))
                  go_wp2
                  go_ret2
                  exact ⟨below_drewN (hb2.out.alloc (by omega) _) _, by rw [HGG.out, HE2.out]; rfl⟩
                | false =>
                  have HE2 : Hid (graphFrom k G es = graphFrom k (addEdge gs x y) (es.drop (j + 1))) := Lib.hid (by rw [hE.out, HD.out]; exact edge_good (by rw [HBE.out, hq]))
                  rw [hq] at H1
                  go_wp2
                  go_quiet ((refine (H1.out _).mono ?_; rintro e w' ⟨rfl, rfl⟩; exact ⟨rfl, _, rfl⟩))
                  obtain ⟨w5, hw5⟩ : ∃ w5, (wr.alloc (.cells #[.int .i64 (x : Int), .int .i64 (y : Int)] 31)).drewN nq = w5 := ⟨_, rfl⟩
                  have HE5 : Hid (RowG w5 w.heap.size gs ∧ Below w.heap.size w w5 ∧ w5.heap.size = wr.heap.size + 1 ∧ w5.heap[wr.heap.size]? = some (.cells #[.int .i64 (x : Int), .int .i64 (y : Int)] 31 (0, 0))) := Lib.hid (by
                    rw [← hw5]
                    exact ⟨(Below.heap_alloc wr _ _ hsz2).trans hrow2.out, below_drewN (hb2.out.alloc (by omega) _) _, by show (wr.alloc _).heap.size = _; simp, heap_alloc_new wr _⟩)
                  rw [hw5]
                  clear hw5
                  have HM5 : Hid (Mid w wr.heap.size x y gs w5) := Lib.hid ⟨HE5.out.1, HE5.out.2.1, hsz2, by rw [HE5.out.2.2.1]; omega, HE5.out.2.2.2⟩
                  have hsz5 : w.heap.size < w5.heap.size := by rw [HE5.out.2.2.1]; omega
                  have hsn5 : wr.heap.size < w5.heap.size := by rw [HE5.out.2.2.1]; omega
                  clear HE5
                  have d0 := HM5.out.c0
                  have d1 := HM5.out.c1
                  have d2 : w5.cell? ⟨w.heap.size, x, none⟩ = some (.int .u16 ((u : Nat) : Int)) := by have := HM5.out.1.at (j := x) (by rw [hgl]; omega); rw [hu] at this; exact this
                  have d3 : w5.frozen? ⟨w.heap.size, x, none⟩ = false := HM5.out.1.free x
                  have HSy := Lib.hid (setOf_one y (by omega))
                  have HSx := Lib.hid (setOf_one x (by omega))
                  have hyp : 2 ^ y < 65536 := Nat.pow_lt_pow_right (m := y) (n := 16) (by omega) (by omega)
                  have hxp : 2 ^ x < 65536 := Nat.pow_lt_pow_right (m := x) (n := 16) (by omega) (by omega)
                  have HO1 : Hid (bits .or .u16 (u : Int) ((2 ^ y : Nat) : Int) = ((u ||| 2 ^ y : Nat) : Int)) := Lib.hid (u16_or_nat _ _ hgx hyp)
                  obtain ⟨v1, hv1⟩ : ∃ v, gs[y]?.getD 0 = v := ⟨_, rfl⟩
                  have hv1l : v1 < 65536 := by rw [← hv1]; exact get_lt hglt.out y
                  have HO2 : Hid (bits .or .u16 (v1 : Int) ((2 ^ x : Nat) : Int) = ((v1 ||| 2 ^ x : Nat) : Int)) := Lib.hid (u16_or_nat _ _ hv1l hxp)
                  have HSET : Hid (addEdge gs x y = (gs.set x (u ||| 2 ^ y)).set y (v1 ||| 2 ^ x)) := Lib.hid (by
                    have : ¬ (x = y) := by omega
                    simp [addEdge, hu, hv1, this])
                  have HGET : Hid ((gs.set x (u ||| 2 ^ y))[y]?.getD 0 = v1) := Lib.hid (by
                    have : ¬ (x = y) := by omega
                    simp [this, hv1])
                  have HLT2 : Hid (∀ i, i < (addEdge gs x y).length → (addEdge gs x y)[i]?.getD 0 < 65536) := Lib.hid (addEdge_lt hglt.out x y (by omega) (by omega))
                  have HU := Lib.hid hu
                  have HV1 := Lib.hid hv1
                  obtain ⟨p1, hp1⟩ : ∃ p, 2 ^ y = p := ⟨_, rfl⟩
                  obtain ⟨p2, hp2⟩ : ∃ p, 2 ^ x = p := ⟨_, rfl⟩
                  rw [hp1] at HO1 HSET HGET HSy
                  rw [hp2] at HO2 HSET HSx
                  clear hu hv1 hyp hxp hp1 hp2
                  go_wp2
                  go_cut [] from 62 to 84 (fun wx => Mid w wr.heap.size x y (gs.set x (u ||| p1)) wx)
                  case first =>
                    go_region_with (go_at_call 27; refine (HSy.out _).mono ?_; rintro e w' ⟨rfl, rfl⟩)
                    all_goals (go_wp2_with fail; go_meet; rw [HO1.out]; exact HM5.out.next _ _ _)
                  case rest =>
                    clear d0 d1 d2 d3 hsz5 hsn5
                    have HM6 := Lib.hid hcut
                    clear hcut
                    have hsz5 : w.heap.size < wc.heap.size := Nat.lt_trans HM6.out.2.2.1 HM6.out.2.2.2.1
                    have hsn5 : wr.heap.size < wc.heap.size := HM6.out.2.2.2.1
                    have d0 := HM6.out.c0
                    have d1 := HM6.out.c1
                    have d2 : wc.cell? ⟨w.heap.size, y, none⟩ = some (.int .u16 ((v1 : Nat) : Int)) := by have := HM6.out.1.at (j := y) (by rw [List.length_set, hgl]; omega); rw [HGET.out] at this; exact this
                    have d3 : wc.frozen? ⟨w.heap.size, y, none⟩ = false := HM6.out.1.free y
                    go_wp2
                    go_region_with (go_at_call 27; refine (HSx.out _).mono ?_; rintro e w' ⟨rfl, rfl⟩)
                    all_goals
                      go_wp2_with fail
                      go_roundw
                      case rel =>
                        have HM7 := HM6.out.next y (v1 ||| p2) (.cells #[.int .i64 (x : Int)] 3)
                        rw [HO2.out]
                        refine ⟨j + 1, addEdge gs x y, by omega, by go_num, Lib.hid ?_, by rw [addEdge_len]; exact hgl, HLT2, HE2, Lib.hid HM7.2.1, Nat.lt_trans HM7.2.2.1 HM7.2.2.2.1⟩
                        rw [HSET.out]; exact HM7.1
                      case measure => simp [intOf]; omega
        · obtain rfl : j = m := by omega
          have HE2 : Hid (graphFrom k G es = some gs) := Lib.hid (by rw [hE.out, List.drop_eq_nil_of_le (by rw [HL.out]; exact Nat.le_refl _), graphFrom])
          go_wp2
          go_ret2
          refine ⟨hb2.out, ?_⟩
          rw [HGG.out, HE2.out]
          exact ⟨_, rfl, hrow2.out, Nat.le_refl _⟩

end Go.Proofs.Yteckeobhlfddlaa.Rib
