/-
  strap: 'Normal'.
-/
import Derived.Test.YtbcggbmjbljnfaaBm
import Derived.Laws.ResultCell
namespace Go.Proofs.Ytbcggbmjbljnfaa
open Go.RowKit Go.Sort

theorem results_row_tmp {P : Program} {fn : Func} {p u : Tmp} {ty : TypeId} (h : fn.results = #[.cell p ty, .tmp u]) (tmps : Array Value) (w : World) (g : Nat) (t : TypeId) (cs : Array Value) (fr : Nat × Nat) (d : TypeDesc)
    (hp : tmps.getD p undef = .pointer (some ⟨g, 0, none⟩)) (hg : w.heap[g]? = some (.cells cs t fr))
    (hu : P.underlying ty = some d) (hd : (match d with | .struct _ | .array _ _ => true | _ => false) = true) (hi : (P.info? ty).map (·.size) = some cs.size) :
    (results fn tmps).run P w = .ok (.tuple #[.agg cs, tmps.getD u undef]) w := by
  have hp' : tmps[p]?.getD undef = .pointer (some ⟨g, 0, none⟩) := by simpa using hp
  rw [results_cell_tmp h]
  simp [hp', asAddr, run_loadVar_row w g t ty cs fr d hg hu hd hi, Result.andThen]


/-- A braid and no error. -/
def GivesBE (n : Nat) (pw : Int) (ps : List (List Nat)) (w : World) (e : Ending) (w' : World) : Prop := ∃ a c, e = .returned (.tuple #[.agg #[.int .i64 pw, .slice a ps.length c], .int .i64 0]) ∧ FacV w' n (.slice a ps.length c) ps ∧ Below w.heap.size w w'
set_option maxRecDepth 100000 in
set_option maxHeartbeats 4000000 in
theorem Normal_good (n f m cap : Nat) (a : Option Addr) (ws : List Int) (r : Int × List (List Nat)) (w : World) (h1 : 2 ≤ n) (hn : n ≤ 8) (hm : m ≤ 60) (hl : ws.length = m) (hz : Ints w a ws) (hws : ws.all (letS n) = true) (hq : normTo f n (0, []) ws = some r) :
    Calls Try.prog 24 #[.int .i64 (n : Int), .slice a m cap] w (GivesBE n r.1 r.2 w) := by
  obtain ⟨w0, hw0⟩ : ∃ w0, w.alloc (.cells #[.int .i64 0, .slice none 0 0] 37) = w0 := ⟨_, rfl⟩
  have H0 : Hid (Below w.heap.size w w0 ∧ BrBox w0 n w.heap.size 0 [] ∧ w.alloc (.cells #[.int .i64 0, .slice none 0 0] 37) = w0) := Lib.hid (by
    refine ⟨?_, ?_, hw0⟩
    · rw [← hw0]; exact (Below.refl _ w).alloc (Nat.le_refl _) _
    · rw [← hw0]; exact ⟨_, heap_alloc_new w _, FacV.nil _ _⟩)
  have hs0 : w0.heap.size = w.heap.size + 1 := by rw [← hw0]; simp
  have hze := hz.below H0.out.1
  have HCK := Lib.hid (check_any (n : Int) 60 a m cap ws w0 hl (by omega) hze)
  rw [show checkZ (n : Int) ws 60 = 0 by
    rw [checkZ, if_pos (by simp; omega), if_pos hws, if_neg (by omega)]] at HCK
  have HFO := Lib.hid (forms_any n w0)
  have HZ := Lib.hid hze
  have HOW := Lib.hid (fun (b : Nat) (wx : World) (hc : wx.cell? ⟨b, 0, none⟩ = some (.int .i64 (n : Int))) (hzx : Ints wx a ws) => ofWordB_any n f b m cap a ws r wx h1 (by omega) hm hl hzx (fun z hz => letS_iff.1 (List.all_eq_true.1 hws z hz)) hc hq)
  clear hw0 hz hws hq hze hl
  go_enter Try.func24, Try.ntmps24
  go_wp2_with (fail)
  try rw [H0.out.2.2]
  refine HCK.out.mono ?_
  rintro e w' ⟨rfl, rfl⟩
  go_wp2_with (fail)
  refine HFO.out.mono ?_
  rintro e w2 ⟨b, rfl, hcb, hb2⟩
  have H2 := Lib.hid (And.intro hcb hb2)
  clear hcb hb2
  go_wp2_with (fail)
  refine (HOW.out b w2 H2.out.1 (HZ.out.below H2.out.2)).mono ?_
  rintro e w3 ⟨v, rfl, ⟨fv, rfl, hf⟩, hb3⟩
  have hbx := (H0.out.2.1.below H2.out.2).below hb3
  have hbw := H0.out.1.trans ((H2.out.2.trans (hb3.mono H2.out.2.size)).mono H0.out.1.size)
  have H3 := Lib.hid (And.intro hbw (hbx.put (pw' := r.1) h1 hf))
  obtain ⟨fx, hbl, ax, cx, vx, rfl, _⟩ := hbx
  obtain ⟨af, cf, vf, rfl, _⟩ := hf
  have k0 := box_cell0 hbl
  have k1 := box_cell1 hbl
  have f0 := row_free hbl 0
  have f1 := row_free hbl 1
  clear hbl hb3 hbw
  go_wp2_with (fail)
  obtain ⟨hbw, fy, hby, hfy⟩ := H3.out
  obtain ⟨ay, cy, vy, rfl, _⟩ := id hfy
  refine bodyPost_ret_by (results_row_tmp (P := Try.prog) rfl _ _ w.heap.size 37 _ (0, 0) _ rfl hby Try.underlying37 rfl (by kernel_rfl)) rfl ?_
  exact ⟨ay, cy, rfl, hfy, (hbw.setCell (p := ⟨w.heap.size, 0, none⟩) (by simp) _).setCell (p := ⟨w.heap.size, 1, none⟩) (by simp) _⟩

set_option maxRecDepth 100000 in
set_option maxHeartbeats 4000000 in
theorem equalFunc_any (n : Nat) (a b : Option Addr) (m l ca cb : Nat) (xs ys : List (List Nat)) (w : World) (hn : n ≤ 100) (hx : FacV w n (.slice a m ca) xs) (hy : FacV w n (.slice b l cb) ys) (hxl : xs.length = m) (hyl : ys.length = l) (hm : m ≤ 1000) :
    Calls Try.prog 69 #[.slice a m ca, .slice b l cb, .func (.func 70) #[] #[]] w fun e w' => e = .returned (.bool (decide (xs = ys))) ∧ Below w.heap.size w w' := by
  by_cases hml : m = l
  · subst hml
    have HX := Lib.hid hx
    have HY := Lib.hid hy
    have HXL := Lib.hid hxl
    have HYL := Lib.hid hyl
    have HNE : Hid (∀ k : Nat, xs[k]?.getD [] ≠ ys[k]?.getD [] → decide (xs = ys) = false) := Lib.hid (fun k h => decide_eq_false fun e => h (by rw [e]))
    have HEQ : Hid ((∀ j : Nat, j < m → xs[j]?.getD [] = ys[j]?.getD []) → decide (xs = ys) = true) := Lib.hid (fun h => decide_eq_true (List.ext_getElem (by omega) fun i h1 h2 => by
      have := h i (by omega)
      rwa [List.getElem?_eq_getElem h1, List.getElem?_eq_getElem h2] at this))
    clear hx hy hxl hyl
    go_enter Try.func69, Try.ntmps69
    go_wp2_with (fail)
    go_loopw [17, 7, 8, 9] (fun i _ _ _ wr => ∃ k : Nat, k ≤ m ∧ i = .int .i64 k ∧ Hid (∀ j, j < k → xs[j]?.getD [] = ys[j]?.getD []) ∧ Hid (Below w.heap.size w wr)) (fun i _ _ _ _ => m - (intOf i).toNat)
    case atStart => exact ⟨0, Nat.zero_le _, rfl, Lib.hid (fun j hj => by omega), Lib.hid (Below.refl _ _)⟩
    case round =>
      obtain ⟨k, hk, rfl, HP, HW⟩ := hrel
      by_cases hlt : k < m
      · have hkI : (k : Int) < (m : Int) := by omega
        have hX := HX.out.below HW.out
        have hY := HY.out.below HW.out
        obtain ⟨ba, oa, rfl, a', ca', c0, hi0, hz0⟩ := hX.at (i := k) (by rw [HXL.out]; exact hlt)
        obtain ⟨bb, ob, rfl, b', cb', c1, hi1, hz1⟩ := hY.at (i := k) (by rw [HYL.out]; exact hlt)
        have HN := Lib.hid (HNE.out k)
        have HNX : Hid (xs[k]?.getD [] = ys[k]?.getD [] → ∀ j, j < k + 1 → xs[j]?.getD [] = ys[j]?.getD []) := Lib.hid (fun h j hj => by
          by_cases e : j = k
          · rw [e]; exact h
          · exact HP.out j (by omega))
        obtain ⟨p, hp⟩ : ∃ p, xs[k]?.getD [] = p := ⟨_, rfl⟩
        obtain ⟨q, hq⟩ : ∃ q, ys[k]?.getD [] = q := ⟨_, rfl⟩
        rw [hp] at hi0 hz0 HN HNX
        rw [hq] at hi1 hz1 HN HNX
        have HCE := Lib.hid (equalR_any a' b' n n ca' cb' p q wr hi0.1 hi1.1 (by omega) hz0 hz1)
        clear hX hY hp hq hi0 hi1 hz0 hz1
        by_cases hpq : p = q
        · have HF := Lib.hid (HNX.out hpq)
          have HC2 := Lib.hid HCE.out
          rw [decide_eq_true hpq] at HC2
          clear HN HNX HCE hpq
          go_wp2_with (fail)
          refine HC2.out.mono ?_
          rintro e w2 ⟨rfl, hb2⟩
          have H2 := Lib.hid (HW.out.trans (hb2.mono HW.out.size))
          clear hb2
          go_wp2_with (fail)
          exact ⟨⟨k + 1, by omega, by go_num, HF, H2⟩, by simp [intOf]; omega⟩
        · have HF := Lib.hid (HN.out hpq)
          have HC2 := Lib.hid HCE.out
          rw [decide_eq_false hpq] at HC2
          clear HN HNX HCE hpq
          go_wp2_with (fail)
          refine HC2.out.mono ?_
          rintro e w2 ⟨rfl, hb2⟩
          have H2 := Lib.hid (HW.out.trans (hb2.mono HW.out.size))
          clear hb2
          go_wp2_with (fail)
          go_ret
          exact ⟨by rw [HF.out]; rfl, H2.out⟩
      · obtain rfl : k = m := by omega
        have HF := Lib.hid (HEQ.out HP.out)
        go_wp2_with (fail)
        go_ret
        exact ⟨by rw [HF.out]; rfl, HW.out⟩
  · have hI : ¬ ((m : Int) = (l : Int)) := by omega
    have HF : Hid (decide (xs = ys) = false) := Lib.hid (decide_eq_false fun e => hml (by rw [← hxl, ← hyl, e]))
    go_enter Try.func69, Try.ntmps69
    go_wp2_with (fail)
    go_ret
    exact ⟨by rw [HF.out]; rfl, Below.refl _ _⟩

end Go.Proofs.Ytbcggbmjbljnfaa
