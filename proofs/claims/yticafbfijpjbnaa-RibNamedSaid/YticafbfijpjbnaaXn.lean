/-
  The walk of 'without': a graph without a node.
-/
import Derived.Test.YticafbfijpjbnaaXm
namespace Go.Proofs.Yticafbfijpjbnaa
open Go.RowKit Go.Sort

theorem without1_any (i v : Int) (bv : Nat) (w : World) (hi : 0 ≤ i ∧ i ≤ 12) (hc : w.cell? ⟨bv, 0, none⟩ = some (.int .i64 v)) :
    Calls Try.prog 64 #[.int .i64 i, .pointer (some ⟨bv, 0, none⟩)] w fun e w' => e = .returned (.int .i64 (dnZ v i)) ∧ w = w' := by
  by_cases h : v < i
  · have hd : dnZ v i = i - 1 := by rw [dnZ, if_pos h]
    rw [hd]
    go_enter Try.func64, Try.ntmps64
    go_wp2
    go_ret
    exact ⟨rfl, rfl⟩
  · have hd : dnZ v i = i := by rw [dnZ, if_neg h]
    rw [hd]
    go_enter Try.func64, Try.ntmps64
    go_wp2
    go_ret
    exact ⟨rfl, rfl⟩
theorem eg_wo1 : ∀ args w, (callFunc 64 args).run Try.prog w = .ok (.enter 64 args) w := enters_of Try.func64 (by kernel_rfl) rfl
set_option maxRecDepth 100000 in
/-- A call of the closure, in a region that draws. -/
theorem step_call_wo {W : World} {ops : Array Oper} {o : Oper} {a : Act} {K : Act → World → Prop} {Q : Exit → Act → World → Prop} {E : Prop} (hgd : o.guard = none) (s x : Operand)
    (ho : o.op = .call { callee := .value s, args := #[x], argTypes := #[3] }) (bv : Nat) (hs : a.eval s = .func (.func 64) #[] #[.pointer (some ⟨bv, 0, none⟩)]) (i z : Int) (hx : a.eval x = .int .i64 i)
    (hc : Calls Try.prog 64 #[.int .i64 i, .pointer (some ⟨bv, 0, none⟩)] W fun e w' => e = .returned (.int .i64 z) ∧ W = w') (h : K (a.put o.dst (.int .i64 z)) W) :
    if Region.wanted o (yielded ops a.tmps) = true then Oper.wp Try.prog o a W K Q else E := by
  have hw : Region.wanted o (yielded ops a.tmps) = true := by simp [Region.wanted, hgd]
  rw [if_pos hw]
  unfold Oper.wp
  simp [execOp, ho, resolve, invoke, hs, hx, eg_wo1, Result.andThen]
  refine hc.mono ?_
  rintro e w' ⟨rfl, rfl⟩
  exact h
/-- 'l = append(l, p)' of one pair, in a region that draws. -/
theorem step_app_pair1 {W : World} {ops : Array Oper} {o : Oper} {a : Act} {K : Act → World → Prop} {Q : Exit → Act → World → Prop} {E : Prop} (hgd : o.guard = none) (s x : Operand)
    (ho : o.op = .call { callee := .builtin .append, args := #[s, x], argTypes := #[22, 22] }) (base : Nat) (v : Value) (n : Nat) (es : List (Int × Int)) (hs : a.eval s = v) (z y : Int) (b : Nat)
    (hx : a.eval x = .slice (some ⟨b, 0, none⟩) 1 1) (hc : W.cell? ⟨b, 0, none⟩ = some (.int .i64 z) ∧ W.cell? ⟨b, 1, none⟩ = some (.int .i64 y)) (hown : W.ownsRow base 65 2 v n (prCells es)) (hn : n ≤ 1000000) (hbase : base ≤ W.heap.size)
    (h : ∀ (g cap : Nat) (w' : World), w'.ownsRow base 65 2 (.slice (some ⟨g, 0, none⟩) (n + 1) cap) (n + 1) (prCells (es ++ [(z, y)])) → W.grownBy w' v.ownBlock → K (a.put o.dst (.slice (some ⟨g, 0, none⟩) (n + 1) cap)) w') :
    if Region.wanted o (yielded ops a.tmps) = true then Oper.wp Try.prog o a W K Q else E := by
  obtain ⟨i0, hi, hz0, hz1, hz2⟩ := info_parts Try.infoPair
  obtain ⟨v', w', hrun, hown', hg, _, _⟩ := run_append_own_at (P := Try.prog) W base 22 o.type 65 i0 (.agg #[.int .i64 0, .int .i64 0]) 2 16 Try.underlying22 hi hz0 hz1 hz2 rfl (by decide) v n (prCells es) hown ⟨b, 0, none⟩ 1 1 [.int .i64 z, .int .i64 y] rfl (fun j u hj => by
    have hjl : j < 2 := (List.getElem?_eq_some_iff.1 hj).1
    have hadd : (⟨b, 0, none⟩ : Addr).add j = ⟨b, j, none⟩ := by unfold Addr.add; split <;> simp_all
    rw [hadd]
    match j, hjl with
    | 0, _ => simp at hj; subst hj; exact hc.1
    | 1, _ => simp at hj; subst hj; exact hc.2) (by intro u hu; simp at hu; rcases hu with rfl | rfl <;> rfl) (by unfold maxLen; omega) (by omega) hbase
  have hw : Region.wanted o (yielded ops a.tmps) = true := by simp [Region.wanted, hgd]
  rw [if_pos hw]
  obtain ⟨g, cap, rfl⟩ := ownsRow_succ' hown'
  unfold Oper.wp
  simp [execOp, ho, resolve, invoke, builtin, hs, hx, hrun, Result.andThen]
  exact h g cap w' (by simpa [prCells] using hown') hg

/-- What 'without' keeps. -/
def WS (w : World) (N v : Int) (a : Option Addr) (m cap : Nat) (aE : Option Addr) (cE : Nat) (es : List (Int × Int)) (wr : World) : Prop :=
  Below w.heap.size w wr ∧ wr.heap[w.heap.size]? = some (.cells #[.int .i64 N, .slice a m cap] 24 (0, 0)) ∧ wr.heap[w.heap.size + 1]? = some (.cells #[.int .i64 v] 3 (0, 0)) ∧
  wr.heap[w.heap.size + 2]? = some (.cells #[.int .i64 0, .slice none 0 0] 24 (0, 0)) ∧ wr.heap[w.heap.size + 3]? = some (.cells #[.int .i64 (N - 1), .slice aE es.length cE] 24 (0, 0)) ∧
  wr.ownsRow w.heap.size 65 2 (.slice aE es.length cE) es.length (prCells es)
theorem WS.alloc {w : World} {N v : Int} {a : Option Addr} {m cap : Nat} {aE : Option Addr} {cE : Nat} {es : List (Int × Int)} {wr : World} (h : WS w N v a m cap aE cE es wr) (o : Obj) : WS w N v a m cap aE cE es (wr.alloc o) := by
  obtain ⟨h1, h2, h3, h4, h5, h6⟩ := h
  have lt : ∀ {k : Nat} {x : Obj}, wr.heap[k]? = some x → k < wr.heap.size := fun h => (Array.getElem?_eq_some_iff.1 h).1
  exact ⟨h1.alloc h1.size _, (Below.heap_alloc _ _ _ (lt h2)).trans h2, (Below.heap_alloc _ _ _ (lt h3)).trans h3, (Below.heap_alloc _ _ _ (lt h4)).trans h4, (Below.heap_alloc _ _ _ (lt h5)).trans h5, h6.alloc _⟩
theorem WS.drew {w : World} {N v : Int} {a : Option Addr} {m cap : Nat} {aE : Option Addr} {cE : Nat} {es : List (Int × Int)} {wr : World} (h : WS w N v a m cap aE cE es wr) : WS w N v a m cap aE cE es wr.drew := by
  obtain ⟨h1, h2, h3, h4, h5, h6⟩ := h
  exact ⟨h1.drew, h2, h3, h4, h5, h6⟩
theorem WS.push {w : World} {N v : Int} {a : Option Addr} {m cap : Nat} {aE : Option Addr} {cE g cp : Nat} {es : List (Int × Int)} {e : Int × Int} {W W' : World} (h : WS w N v a m cap aE cE es W) (hg : W.grownBy W' (Value.slice aE es.length cE).ownBlock)
    (hr : W'.ownsRow w.heap.size 65 2 (.slice (some ⟨g, 0, none⟩) (es.length + 1) cp) (es.length + 1) (prCells (es ++ [e]))) :
    W'.heap[w.heap.size + 3]? = some (.cells #[.int .i64 (N - 1), .slice aE es.length cE] 24 (0, 0)) ∧ WS w N v a m cap (some ⟨g, 0, none⟩) cp (es ++ [e]) (W'.setCell ⟨w.heap.size + 3, 1, none⟩ (.slice (some ⟨g, 0, none⟩) (es.length + 1) cp)) := by
  obtain ⟨h1, h2, h3, h4, h5, h6⟩ := h
  have lt : ∀ {k : Nat} {x : Obj}, W.heap[k]? = some x → k < W.heap.size := fun h => (Array.getElem?_eq_some_iff.1 h).1
  have k2 := (hg.block _ (lt h2) (row_ne h2 h6 (by decide))).trans h2
  have k3 := (hg.block _ (lt h3) (row_ne h3 h6 (by decide))).trans h3
  have k4 := (hg.block _ (lt h4) (row_ne h4 h6 (by decide))).trans h4
  have k5 := (hg.block _ (lt h5) (row_ne h5 h6 (by decide))).trans h5
  have hb : Below w.heap.size w W' := h1.grown hg h1.size (fun k hk => (h6.lt k hk).1)
  have hl : (es ++ [e]).length = es.length + 1 := by simp
  refine ⟨k5, hb.setCell (by show w.heap.size ≤ w.heap.size + 3; omega) _, (Below.heap_setCell W' _ _ _ (by show w.heap.size ≠ w.heap.size + 3; omega)).trans k2, (Below.heap_setCell W' _ _ _ (by show w.heap.size + 1 ≠ w.heap.size + 3; omega)).trans k3,
    (Below.heap_setCell W' _ _ _ (by show w.heap.size + 2 ≠ w.heap.size + 3; omega)).trans k4, ?_, ?_⟩
  · rw [hl]; exact heap_setCell_self k5 _
  · rw [hl]; exact ownsRow_set_ne hr (row_ne k5 hr (by decide)) _
theorem WS.ret {w : World} {N v : Int} {a : Option Addr} {m cap : Nat} {aE : Option Addr} {cE : Nat} {es : List (Int × Int)} {W : World} (h : WS w N v a m cap aE cE es W) :
    ((W.setCell ⟨w.heap.size + 2, 0, none⟩ (.int .i64 (N - 1))).setCell ⟨w.heap.size + 2, 1, none⟩ (.slice aE es.length cE)).heap[w.heap.size + 2]? = some (.cells #[.int .i64 (N - 1), .slice aE es.length cE] 24 (0, 0)) ∧
      Edges ((W.setCell ⟨w.heap.size + 2, 0, none⟩ (.int .i64 (N - 1))).setCell ⟨w.heap.size + 2, 1, none⟩ (.slice aE es.length cE)) aE es ∧ Below w.heap.size w ((W.setCell ⟨w.heap.size + 2, 0, none⟩ (.int .i64 (N - 1))).setCell ⟨w.heap.size + 2, 1, none⟩ (.slice aE es.length cE)) := by
  obtain ⟨h1, h2, h3, h4, h5, h6⟩ := h
  have q1 : (W.setCell ⟨w.heap.size + 2, 0, none⟩ (.int .i64 (N - 1))).heap[w.heap.size + 2]? = some (.cells #[.int .i64 (N - 1), .slice none 0 0] 24 (0, 0)) := heap_setCell_self h4 _
  have hne := row_ne h4 h6 (by decide)
  exact ⟨heap_setCell_self q1 _, Edges.of_owns (ownsRow_set_ne (ownsRow_set_ne h6 hne _) hne _), (h1.setCell (by show w.heap.size ≤ w.heap.size + 2; omega) _).setCell (by show w.heap.size ≤ w.heap.size + 2; omega) _⟩
theorem wo_yes {v : Int} {es : List (Int × Int)} {k : Nat} (hk : k < es.length) (h : keepE v (es[k]?.getD (0, 0)) = true) : woE v (es.take (k + 1)) = woE v (es.take k) ++ [dnE v (es[k]?.getD (0, 0))] := by
  rw [List.getElem?_eq_getElem hk, Option.getD_some] at h ⊢
  rw [woE, List.take_succ_eq_append_getElem hk, List.filter_append, List.map_append, List.filter_cons, if_pos h]
  rfl
theorem wo_no {v : Int} {es : List (Int × Int)} {k : Nat} (hk : k < es.length) (h : keepE v (es[k]?.getD (0, 0)) = false) : woE v (es.take (k + 1)) = woE v (es.take k) := by
  rw [List.getElem?_eq_getElem hk, Option.getD_some] at h
  rw [woE, List.take_succ_eq_append_getElem hk, List.filter_append, List.filter_cons, if_neg (by rw [h]; simp), List.filter_nil, List.append_nil]
  rfl

set_option maxRecDepth 100000 in
set_option maxHeartbeats 8000000 in
theorem without_any (N v : Int) (a : Option Addr) (m cap : Nat) (es : List (Int × Int)) (w : World) (hN : 2 ≤ N ∧ N ≤ 12) (hr : ∀ e ∈ es, 0 ≤ e.1 ∧ e.1 < e.2 ∧ e.2 < N) (hl : es.length = m) (hm : m ≤ 1000) (he : Edges w a es) :
    Calls Try.prog 36 #[.agg #[.int .i64 N, .slice a m cap], .int .i64 v] w (NetV (N - 1) (woE v es) w) := by
  have HE := Lib.hid he
  have HL := Lib.hid hl
  have HR := Lib.hid hr
  have hws : WS w N v a m cap none 0 [] ((((w.alloc (.cells #[.int .i64 N, .slice a m cap] 24)).alloc (.cells #[.int .i64 v] 3)).alloc (.cells #[.int .i64 0, .slice none 0 0] 24)).alloc (.cells #[.int .i64 (N - 1), .slice none 0 0] 24)) := by
    have a1 := heap_alloc_new w (.cells #[.int .i64 N, .slice a m cap] 24)
    have a2 := heap_alloc_new (w.alloc (.cells #[.int .i64 N, .slice a m cap] 24)) (.cells #[.int .i64 v] 3)
    have a3 := heap_alloc_new ((w.alloc (.cells #[.int .i64 N, .slice a m cap] 24)).alloc (.cells #[.int .i64 v] 3)) (.cells #[.int .i64 0, .slice none 0 0] 24)
    have a4 := heap_alloc_new (((w.alloc (.cells #[.int .i64 N, .slice a m cap] 24)).alloc (.cells #[.int .i64 v] 3)).alloc (.cells #[.int .i64 0, .slice none 0 0] 24)) (.cells #[.int .i64 (N - 1), .slice none 0 0] 24)
    simp only [sz_alloc] at a2 a3 a4
    refine ⟨(((((Below.refl _ w).alloc (Nat.le_refl _) _).alloc (by simp) _).alloc (by simp <;> omega) _).alloc (by simp <;> omega) _), ?_, ?_, ?_, a4, rfl, .inl ⟨rfl, rfl⟩⟩
    · exact (Below.heap_alloc _ _ _ (by simp <;> omega)).trans ((Below.heap_alloc _ _ _ (by simp <;> omega)).trans ((Below.heap_alloc _ _ _ (by simp)).trans a1))
    · exact (Below.heap_alloc _ _ _ (by simp <;> omega)).trans ((Below.heap_alloc _ _ _ (by simp)).trans a2)
    · exact (Below.heap_alloc _ _ _ (by simp)).trans a3
  have HWS := Lib.hid hws
  clear he hl hr hws
  go_enter Try.func36, Try.ntmps36
  go_wp2
  go_loopw [7, 8] (fun i _ wr => ∃ (k cE : Nat) (aE : Option Addr), k ≤ m ∧ i = .int .i64 k ∧ Hid (WS w N v a m cap aE cE (woE v (es.take k)) wr)) (fun i _ _ => m - (intOf i).toNat)
  case atStart => exact ⟨0, 0, none, Nat.zero_le _, rfl, HWS⟩
  case round =>
    obtain ⟨k, cE, aE, hkm, rfl, HG⟩ := hrel
    have d1 : wr.cell? ⟨w.heap.size, 1, none⟩ = some (.slice a m cap) := by simp [World.cell?, HG.out.2.1]
    have hlen : (woE v (es.take k)).length ≤ k := by
      rw [woE, List.length_map]
      exact Nat.le_trans (List.length_filter_le _ _) (by simp; omega)
    by_cases hlt : k < m
    · have hkL : k < es.length := by rw [HL.out]; exact hlt
      rcases HE.out with h | ⟨b, off, rfl, hc⟩
      · subst h; simp at hkL
      obtain ⟨c0, c1⟩ := hc k hkL
      replace c0 := (HG.out.1.cell (p := ⟨b, off + k * 2, none⟩) (World.block_lt_of_cell? w _ c0)).trans c0
      replace c1 := (HG.out.1.cell (p := ⟨b, off + k * 2 + 1, none⟩) (World.block_lt_of_cell? w _ c1)).trans c1
      have hrg := HR.out _ (List.getElem_mem hkL)
      have hyes := wo_yes (v := v) hkL
      have hnot := wo_no (v := v) hkL
      rw [show es[k] = es[k]?.getD (0, 0) by rw [List.getElem?_eq_getElem hkL]; rfl] at hrg
      obtain ⟨p, hp⟩ : ∃ p, es[k]?.getD (0, 0) = p := ⟨_, rfl⟩
      obtain ⟨x, y⟩ := p
      rw [hp] at c0 c1 hrg hyes hnot
      simp only [keepE, dnE] at c0 c1 hrg hyes hnot
      obtain ⟨L, hL⟩ : ∃ L, woE v (es.take k) = L := ⟨_, rfl⟩
      rw [hL] at HG hyes hnot hlen
      have HYES := Lib.hid hyes
      have HNOT := Lib.hid hnot
      have d2 : wr.cell? ⟨w.heap.size + 1, 0, none⟩ = some (.int .i64 v) := by simp [World.cell?, HG.out.2.2.1]
      have d3 : wr.cell? ⟨w.heap.size + 3, 1, none⟩ = some (.slice aE L.length cE) := by simp [World.cell?, HG.out.2.2.2.2.1]
      have hsz : w.heap.size + 3 < wr.heap.size := World.block_lt_of_cell? wr _ d3
      have hsz1 : w.heap.size + 1 < wr.heap.size := by omega
      have hsz0 : w.heap.size < wr.heap.size := by omega
      have hkI : (k : Int) < (m : Int) := by omega
      clear hc hp hL hyes hnot
      have HGA := Lib.hid (HG.out.alloc (.cells #[.int .i64 x, .int .i64 y] 65))
      by_cases hx : x = v
      · have hb1 : (x != v) = false := by simp [hx]
        have HN := Lib.hid (HNOT.out (by simp [hx]))
        rw [hx] at HGA
        go_wp2
        go_roundw
        case rel => exact ⟨k + 1, cE, aE, by omega, by go_num, by rw [HN.out]; exact HGA⟩
        case measure => simp [intOf]; omega
      · have hb1 : (x != v) = true := by simpa using hx
        by_cases hy : y = v
        · have hb2 : (y != v) = false := by simp [hy]
          have HN := Lib.hid (HNOT.out (by simp [hy]))
          rw [hy] at HGA
          go_wp2
          go_roundw
          case rel => exact ⟨k + 1, cE, aE, by omega, by go_num, by rw [HN.out]; exact HGA⟩
          case measure => simp [intOf]; omega
        · have hb2 : (y != v) = true := by simpa using hy
          have HN := Lib.hid (HYES.out (by simp [hx, hy]))
          have HW1 := Lib.hid (fun (i : Int) (wx : World) (hi : 0 ≤ i ∧ i ≤ 12) (h : wx.cell? ⟨w.heap.size + 1, 0, none⟩ = some (.int .i64 v)) => without1_any i v (w.heap.size + 1) wx hi h)
          have HX1 := Lib.hid (fun wx h => HW1.out x wx (by omega) h)
          have HY1 := Lib.hid (fun wx h => HW1.out y wx (by omega) h)
          obtain ⟨zx, hzx⟩ : ∃ z, dnZ v x = z := ⟨_, rfl⟩
          obtain ⟨zy, hzy⟩ : ∃ z, dnZ v y = z := ⟨_, rfl⟩
          rw [hzx, hzy] at HN
          rw [hzx] at HX1
          rw [hzy] at HY1
          clear hzx hzy HW1 HYES HNOT
          go_wp2
          have e2 : (wr.alloc (.cells #[.int .i64 x, .int .i64 y] 65)).cell? ⟨w.heap.size + 1, 0, none⟩ = some (.int .i64 v) := by simp [World.cell?, HGA.out.2.2.1]
          have e3 : (wr.alloc (.cells #[.int .i64 x, .int .i64 y] 65)).cell? ⟨w.heap.size + 3, 1, none⟩ = some (.slice aE L.length cE) := by simp [World.cell?, HGA.out.2.2.2.2.1]
          have e4 : (wr.alloc (.cells #[.int .i64 x, .int .i64 y] 65)).frozen? ⟨w.heap.size + 3, 1, none⟩ = false := row_free HGA.out.2.2.2.2.1 1
          have e5 : (wr.alloc (.cells #[.int .i64 x, .int .i64 y] 65)).cell? ⟨wr.heap.size, 0, none⟩ = some (.int .i64 x) := by simp
          have e6 : (wr.alloc (.cells #[.int .i64 x, .int .i64 y] 65)).cell? ⟨wr.heap.size, 1, none⟩ = some (.int .i64 y) := by simp
          have e7 : w.heap.size + 3 < (wr.alloc (.cells #[.int .i64 x, .int .i64 y] 65)).heap.size := by simp; omega
          obtain ⟨bp, hbp⟩ : ∃ bp, wr.heap.size = bp := ⟨_, rfl⟩
          try rw [hbp]
          rw [hbp] at e5 e6
          generalize wr.alloc (.cells #[.int .i64 x, .int .i64 y] 65) = w5 at HGA e2 e3 e4 e5 e6 e7 ⊢
          clear d1 d2 d3 c0 c1 hbp hsz hsz1 hsz0 HG
          go_region_law (first
            | (refine step_call_wo rfl (.tmp 38) (.tmp 40) rfl (w.heap.size + 1) (by simp [Act.eval, Act.put]) x zx (by simp [Act.eval, Act.put]) (HX1.out _ (by exact e2)) ?_)
            | (refine step_call_wo rfl (.tmp 42) (.tmp 44) rfl (w.heap.size + 1) (by simp [Act.eval, Act.put]) y zy (by simp [Act.eval, Act.put]) (HY1.out _ (by exact e2)) ?_)
            | (refine step_app_pair1 rfl (.tmp 37) (.tmp 47) rfl w.heap.size (.slice aE L.length cE) L.length L (by simp [Act.eval, Act.put]) zx zy w5.heap.size (by simp [Act.eval, Act.put]) (by refine ⟨?_, ?_⟩ <;> exact World.cell?_alloc_at _ _ _ _ rfl) (HGA.out.2.2.2.2.2.alloc _) (by omega) (by have := HGA.out.1.size; simp; omega) ?_; intro g cp w7 hr7 hg7
               have h7 := WS.push (e := (zx, zy)) (by first | exact (HGA.out.alloc _).drew | exact HGA.out.alloc _ | exact (HGA.out.drew).alloc _ | exact ((HGA.out.drew).alloc _).drew) hg7 hr7
               have H7 := Lib.hid h7
               have e8 : w7.cell? ⟨w.heap.size + 3, 1, none⟩ = some (.slice aE L.length cE) := by simp [World.cell?, h7.1]
               have e9 : w7.frozen? ⟨w.heap.size + 3, 1, none⟩ = false := row_free h7.1 1
               clear hr7 hg7 h7))
          all_goals
            go_wp2_with (fail)
            go_roundw
            case rel => exact ⟨k + 1, cp, some ⟨g, 0, none⟩, by omega, by go_num, by rw [HN.out]; exact Lib.hid H7.out.2⟩
            case measure => simp [intOf]; omega
    · obtain rfl : k = m := by omega
      have htk : es.take k = es := List.take_of_length_le (by rw [HL.out]; exact Nat.le_refl _)
      rw [htk] at HG
      obtain ⟨L, hL⟩ : ∃ L, woE v es = L := ⟨_, rfl⟩
      rw [hL] at HG
      have HLL := Lib.hid hL
      have e0 : wr.cell? ⟨w.heap.size + 3, 0, none⟩ = some (.int .i64 (N - 1)) := by simp [World.cell?, HG.out.2.2.2.2.1]
      have e1 : wr.cell? ⟨w.heap.size + 3, 1, none⟩ = some (.slice aE L.length cE) := by simp [World.cell?, HG.out.2.2.2.2.1]
      have z0 : wr.cell? ⟨w.heap.size + 2, 0, none⟩ = some (.int .i64 0) := by simp [World.cell?, HG.out.2.2.2.1]
      have z1 : wr.cell? ⟨w.heap.size + 2, 1, none⟩ = some (.slice none 0 0) := by simp [World.cell?, HG.out.2.2.2.1]
      have z2 : wr.frozen? ⟨w.heap.size + 2, 0, none⟩ = false := row_free HG.out.2.2.2.1 0
      have z3 : wr.frozen? ⟨w.heap.size + 2, 1, none⟩ = false := row_free HG.out.2.2.2.1 1
      clear htk hL hlen
      go_wp2
      obtain ⟨r1, r2, r3⟩ := HG.out.ret
      refine bodyPost_ret_by (results_cell_row (P := Try.prog) rfl _ _ (w.heap.size + 2) 24 #[.int .i64 (N - 1), .slice aE L.length cE] (0, 0) _ rfl r1 Try.underlying24 rfl (by kernel_rfl)) rfl ?_
      exact ⟨aE, cE, by rw [HLL.out], by rw [HLL.out]; exact r2, r3⟩

end Go.Proofs.Yticafbfijpjbnaa
