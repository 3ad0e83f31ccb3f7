/-
  The walk of 'overlaps': the graph of some intervals.
-/
import Derived.Test.YthlbedhjekbfpaaDoorZa
import Derived.Test.YthlbedhjekbfpaaDoorXm
import Derived.Deep.CutRange
import Derived.Deep.CutBlock
namespace Go.Proofs.YthlbedhjekbfpaaDoor
open Go.RowKit Go.Sort

theorem results_row_tmp {P : Program} {fn : Func} {p u : Tmp} {ty : TypeId} (h : fn.results = #[.cell p ty, .tmp u]) (tmps : Array Value) (w : World) (g : Nat) (t : TypeId) (cs : Array Value) (fr : Nat × Nat) (d : TypeDesc)
    (hp : tmps.getD p undef = .pointer (some ⟨g, 0, none⟩)) (hg : w.heap[g]? = some (.cells cs t fr))
    (hu : P.underlying ty = some d) (hd : (match d with | .struct _ | .array _ _ => true | _ => false) = true) (hi : (P.info? ty).map (·.size) = some cs.size) :
    (results fn tmps).run P w = .ok (.tuple #[.agg cs, tmps.getD u undef]) w := by
  have hp' : tmps[p]?.getD undef = .pointer (some ⟨g, 0, none⟩) := by simpa using hp
  rw [results_cell_tmp h]
  simp [hp', asAddr, run_loadVar_row w g t ty cs fr d hg hu hd hi, Result.andThen]

/-- 'l = append(l, s)' of one span. -/
theorem wpList_app_span1 {W : World} {ops : Array Oper} {rest : List Oper} {o : Oper} {a : Act} {Q : Exit → Act → World → Prop} (hgd : o.guard = none) (s x : Operand)
    (ho : o.op = .call { callee := .builtin .append, args := #[s, x], argTypes := #[41, 41] }) (base : Nat) (v : Value) (n : Nat) (es : List (Int × Int)) (hs : a.eval s = v) (z y : Int) (b : Nat)
    (hx : a.eval x = .slice (some ⟨b, 0, none⟩) 1 1) (hb : b = W.heap.size) (hown : W.ownsRow base 80 2 v n (prCells es)) (hn : n ≤ 1000000) (hbase : base ≤ W.heap.size)
    (h : ∀ (g cap : Nat) (w' : World), w'.ownsRow base 80 2 (.slice (some ⟨g, 0, none⟩) (n + 1) cap) (n + 1) (prCells (es ++ [(z, y)])) → W.grownBy w' v.ownBlock → wpList Tryd.prog ops Q rest (a.put o.dst (.slice (some ⟨g, 0, none⟩) (n + 1) cap)) w') :
    wpList Tryd.prog ops Q (o :: rest) a (W.alloc (.cells #[.int .i64 z, .int .i64 y] 80)) := by
  obtain ⟨i0, hi, hz0, hz1, hz2⟩ := info_parts Tryd.infoSpan
  refine wpList_append_own_at _ hgd s x 41 ho base 80 i0 (.agg #[.int .i64 0, .int .i64 0]) 2 16 Tryd.underlying41 hi hz0 hz1 hz2 rfl (by decide) v n (prCells es) hs (hown.alloc _) ⟨b, 0, none⟩ 1 1 [.int .i64 z, .int .i64 y] hx rfl (cells_new W [.int .i64 z, .int .i64 y] _ b hb) (by intro u hu; simp at hu; rcases hu with rfl | rfl <;> rfl) (by unfold maxLen; omega) (by omega) (by simp; omega) ?_
  intro v' w' hown' hg _ _
  obtain ⟨g, cap, rfl⟩ := ownsRow_succ' hown'
  exact h g cap w' (by simpa [prCells] using hown') (grown_alloc hg)

/-- What the first loop keeps. -/
def S1 (w : World) (v : Value) (k : Nat) (sp : List (Int × Int)) (wr : World) : Prop :=
  sp.length = k ∧ sp.all spanB = true ∧ Below w.heap.size w wr ∧ wr.heap[w.heap.size]? = some (.cells #[.int .i64 0, .slice none 0 0] 24 (0, 0)) ∧
    wr.heap[w.heap.size + 2]? = some (.cells #[.int .i64 0, .slice none 0 0] 24 (0, 0)) ∧ wr.ownsRow w.heap.size 80 2 v k (prCells sp)
theorem S1.push {w W : World} {v : Value} {k : Nat} {sp : List (Int × Int)} {z y : Int} (h : S1 w v k sp W) (hz : spanB (z, y) = true) {g cp : Nat} {w' : World}
    (hr : w'.ownsRow w.heap.size 80 2 (.slice (some ⟨g, 0, none⟩) (k + 1) cp) (k + 1) (prCells (sp ++ [(z, y)]))) (hg : W.grownBy w' v.ownBlock) : S1 w (.slice (some ⟨g, 0, none⟩) (k + 1) cp) (k + 1) (sp ++ [(z, y)]) w' := by
  obtain ⟨h1, h2, h3, h4, h5, h6⟩ := h
  exact ⟨by simp [h1], by rw [List.all_append, h2]; simp [hz], h3.grown hg h3.size (fun k hk => (h6.lt k hk).1), (hg.block _ (Array.getElem?_eq_some_iff.1 h4).1 (row_ne h4 h6 (by decide))).trans h4, (hg.block _ (Array.getElem?_eq_some_iff.1 h5).1 (row_ne h5 h6 (by decide))).trans h5, hr⟩
theorem span_ok {z y : Int} (h1 : 0 ≤ z ∧ z < 30) (h2 : 0 ≤ y ∧ y < 12) : spanB (z, z + y) = true := by
  simp only [spanB, Bool.and_eq_true, decide_eq_true_eq]; omega
/-- The cells of a row of spans that lies in a block. -/
def SpW (wx : World) (g : Nat) (sp : List (Int × Int)) : Prop := ∀ i, i < sp.length → wx.cell? ⟨g, i * 2, none⟩ = some (.int .i64 (atS sp i).1) ∧ wx.cell? ⟨g, i * 2 + 1, none⟩ = some (.int .i64 (atS sp i).2)
theorem SpW.of_owns {w : World} {base g n cap : Nat} {sp : List (Int × Int)} (h : w.ownsRow base 80 2 (.slice (some ⟨g, 0, none⟩) n cap) n (prCells sp)) : SpW w g sp := by
  have hn : sp.length = n := by have := h.1; rw [prCells_length] at this; omega
  intro i hi
  have hp := prCells_get sp i hi
  have e0 := h.cellAt (i * 2) (by omega)
  have e1 := h.cellAt (i * 2 + 1) (by omega)
  rw [hp.1] at e0
  rw [hp.2] at e1
  exact ⟨e0, e1⟩
theorem SpW.same {w w' : World} {g : Nat} {sp : List (Int × Int)} (h : SpW w g sp) (e : w'.heap[g]? = w.heap[g]?) : SpW w' g sp := fun i hi => by
  obtain ⟨a, b⟩ := h i hi
  have c : ∀ j, w'.cell? ⟨g, j, none⟩ = w.cell? ⟨g, j, none⟩ := fun j => by simp only [World.cell?, e]
  exact ⟨(c _).trans a, (c _).trans b⟩
theorem SpW.edges {w : World} {g : Nat} {sp : List (Int × Int)} (h : SpW w g sp) : Edges w (some ⟨g, 0, none⟩) sp := .inr ⟨g, 0, rfl, fun i hi => by rw [Nat.zero_add]; exact h i hi⟩
/-- What the loops over two nodes keep. -/
def OS (w : World) (g n : Nat) (sp : List (Int × Int)) (aE : Option Addr) (cE : Nat) (es : List (Int × Int)) (wr : World) : Prop :=
  GS w (w.heap.size + 2) n aE cE es wr ∧ SpW wr g sp ∧ (∃ cs, wr.heap[g]? = some (.cells cs 80 (0, 0)))
theorem OS.far {w wr : World} {g n : Nat} {sp : List (Int × Int)} {aE : Option Addr} {cE : Nat} {es : List (Int × Int)} (h : OS w g n sp aE cE es wr) : some g ≠ (Value.slice aE es.length cE).ownBlock ∧ w.heap.size + 2 ≠ g ∧ g < wr.heap.size := by
  obtain ⟨⟨_, h2, _, h4⟩, _, ⟨cs, h5⟩⟩ := h
  refine ⟨row_ne h5 h4 (by decide), fun e => ?_, (Array.getElem?_eq_some_iff.1 h5).1⟩
  subst e
  rw [h2] at h5
  have := Option.some.inj h5
  injection this with _ e2 _
  exact absurd e2 (by decide)
theorem OS.drew {w wr : World} {g n : Nat} {sp : List (Int × Int)} {aE : Option Addr} {cE : Nat} {es : List (Int × Int)} (h : OS w g n sp aE cE es wr) (q : Nat) : OS w g n sp aE cE es (wr.drewN q) :=
  ⟨⟨below_drewN h.1.1 _, h.1.2.1, h.1.2.2.1, h.1.2.2.2⟩, h.2.1, h.2.2⟩
theorem OS.alloc {w wr : World} {g n : Nat} {sp : List (Int × Int)} {aE : Option Addr} {cE : Nat} {es : List (Int × Int)} (h : OS w g n sp aE cE es wr) (o : Obj) : OS w g n sp aE cE es (wr.alloc o) := by
  have hf := h.far
  obtain ⟨⟨h1, h2, h3, h4⟩, h5, ⟨cs, h6⟩⟩ := h
  have e := Below.heap_alloc wr o g hf.2.2
  exact ⟨⟨h1.alloc h1.size _, (Below.heap_alloc _ _ _ (Array.getElem?_eq_some_iff.1 h2).1).trans h2, (Below.heap_alloc _ _ _ (Array.getElem?_eq_some_iff.1 h3).1).trans h3, h4.alloc _⟩, h5.same e, cs, e.trans h6⟩
theorem OS.push {w W w' : World} {g n : Nat} {sp : List (Int × Int)} {aE : Option Addr} {cE : Nat} {es : List (Int × Int)} {e : Int × Int} (h : OS w g n sp aE cE es W) {G cp : Nat}
    (hr : w'.ownsRow w.heap.size 40 2 (.slice (some ⟨G, 0, none⟩) (es.length + 1) cp) (es.length + 1) (prCells (es ++ [e]))) (hg : W.grownBy w' (Value.slice aE es.length cE).ownBlock) :
    OS w g n sp (some ⟨G, 0, none⟩) cp (es ++ [e]) (w'.setCell ⟨w.heap.size + 2, 1, none⟩ (.slice (some ⟨G, 0, none⟩) (es.length + 1) cp)) ∧ w'.heap[w.heap.size + 2]? = some (.cells #[.int .i64 n, .slice aE es.length cE] 24 (0, 0)) := by
  obtain ⟨f1, f2, f3⟩ := h.far
  obtain ⟨k1, k2, ⟨cs, k3⟩⟩ := h
  have e1 : w'.heap[g]? = W.heap[g]? := hg.block g f3 f1
  have e2 : (w'.setCell ⟨w.heap.size + 2, 1, none⟩ (.slice (some ⟨G, 0, none⟩) (es.length + 1) cp)).heap[g]? = W.heap[g]? := (Below.heap_setCell w' _ _ _ (fun e => f2 e.symm)).trans e1
  have q := k1.grow hg
  exact ⟨⟨GS.push (by omega) q hr, k2.same e2, cs, e2.trans k3⟩, q.1⟩

theorem OS.start {w W : World} {g n cS : Nat} {sp : List (Int × Int)} (h : S1 w (.slice (some ⟨g, 0, none⟩) n cS) n sp W) : OS w g n sp none 0 [] (W.setCell ⟨w.heap.size + 2, 0, none⟩ (.int .i64 n)) := by
  obtain ⟨_, _, h3, h4, h5, h6⟩ := h
  have f := row_ne h5 h6 (by decide)
  have hne : g ≠ w.heap.size + 2 := fun e => f (by rw [← e]; rfl)
  have e : (W.setCell ⟨w.heap.size + 2, 0, none⟩ (.int .i64 n)).heap[g]? = W.heap[g]? := Below.heap_setCell W _ _ _ hne
  refine ⟨⟨h3.setCell (by show w.heap.size ≤ w.heap.size + 2; omega) _, heap_setCell_self h5 _, (Below.heap_setCell W _ _ _ (by show w.heap.size ≠ w.heap.size + 2; omega)).trans h4, rfl, .inl ⟨rfl, rfl⟩⟩, (SpW.of_owns h6).same e, ?_⟩
  rcases h6.2 with ⟨e', _⟩ | ⟨g', _, cs, e', _, hg, _⟩
  · cases e'
  · cases e'; exact ⟨cs, e.trans hg⟩
theorem OS.ret {w W : World} {g n : Nat} {sp : List (Int × Int)} {aE : Option Addr} {cE : Nat} {es : List (Int × Int)} (h : OS w g n sp aE cE es W) :
    ((W.setCell ⟨w.heap.size, 0, none⟩ (.int .i64 n)).setCell ⟨w.heap.size, 1, none⟩ (.slice aE es.length cE)).heap[w.heap.size]? = some (.cells #[.int .i64 n, .slice aE es.length cE] 24 (0, 0)) ∧
      Edges ((W.setCell ⟨w.heap.size, 0, none⟩ (.int .i64 n)).setCell ⟨w.heap.size, 1, none⟩ (.slice aE es.length cE)) aE es ∧ Edges ((W.setCell ⟨w.heap.size, 0, none⟩ (.int .i64 n)).setCell ⟨w.heap.size, 1, none⟩ (.slice aE es.length cE)) (some ⟨g, 0, none⟩) sp ∧
      Below w.heap.size w ((W.setCell ⟨w.heap.size, 0, none⟩ (.int .i64 n)).setCell ⟨w.heap.size, 1, none⟩ (.slice aE es.length cE)) := by
  obtain ⟨k1, k2, ⟨cs, k3⟩⟩ := h
  obtain ⟨r1, r2, r3⟩ := k1.ret
  have hne : g ≠ w.heap.size := fun e => by
    have k4 := k1.2.2.1
    subst e
    rw [k4] at k3
    have := Option.some.inj k3
    injection this with _ e2 _
    exact absurd e2 (by decide)
  refine ⟨r1, r2, (k2.same ?_).edges, r3⟩
  exact (Below.heap_setCell _ _ _ _ hne).trans (Below.heap_setCell _ _ _ _ hne)

theorem net_cell {w : World} {B : Nat} {u v : Value} {t : TypeId} (h : w.heap[B]? = some (.cells #[u, v] t (0, 0))) : w.cell? ⟨B, 1, none⟩ = some v := by simp [World.cell?, h]
/-- What 'overlaps' hands back. -/
def OvV (w : World) (e : Ending) (w' : World) : Prop := ∃ (n cE g cS : Nat) (aE : Option Addr) (es sp : List (Int × Int)), (1 ≤ n ∧ n ≤ 12) ∧ sp.length = n ∧ sp.all spanB = true ∧ OvI sp n es n 0 ∧
  e = .returned (.tuple #[.agg #[.int .i64 n, .slice aE es.length cE], .slice (some ⟨g, 0, none⟩) n cS]) ∧ Edges w' aE es ∧ Edges w' (some ⟨g, 0, none⟩) sp ∧ Below w.heap.size w w'

set_option maxRecDepth 100000 in
set_option maxHeartbeats 8000000 in
theorem overlaps_any (a : Option Addr) (m cap : Nat) (xs : List (Int × Int)) (w : World) (hl : xs.length = m) (_hm : m ≤ 9223372036854775807) (he : Edges w a xs) :
    Calls Tryd.prog 22 #[.slice a m cap] w (OvV w) := by
  have HE := Lib.hid he
  have HL := Lib.hid hl
  have HF := Lib.hid (fun (v : Int) (wx : World) => fold1_any v 30 wx (by omega) (by omega))
  have HF2 := Lib.hid (fun (v : Int) (wx : World) => fold1_any v 12 wx (by omega) (by omega))
  have HFR := Lib.hid (fun (v : Int) => foldZ_range v (n := 30) (by omega))
  have HFR2 := Lib.hid (fun (v : Int) => foldZ_range v (n := 12) (by omega))
  have hs1 : S1 w (.slice (some ⟨w.heap.size + 1, 0, none⟩) 0 0) 0 [] (((w.alloc (.cells #[.int .i64 0, .slice none 0 0] 24)).alloc (.cells #[] 80)).alloc (.cells #[.int .i64 0, .slice none 0 0] 24)) := by
    have h1 := heap_alloc_new ((w.alloc (.cells #[.int .i64 0, .slice none 0 0] 24)).alloc (.cells #[] 80)) (.cells #[.int .i64 0, .slice none 0 0] 24)
    have h2 := heap_alloc_new (w.alloc (.cells #[.int .i64 0, .slice none 0 0] 24)) (.cells #[] 80)
    rw [sz_alloc, sz_alloc] at h1
    rw [sz_alloc] at h2
    refine ⟨rfl, rfl, (((Below.refl _ w).alloc (Nat.le_refl _) _).alloc (by simp) _).alloc (by simp; omega) _, ?_, h1, rfl, .inr ⟨w.heap.size + 1, 0, #[], rfl, by omega, (Below.heap_alloc _ _ _ (by simp)).trans h2, Nat.le_refl _, by unfold maxLen; omega, rfl, rfl⟩⟩
    exact ((Below.heap_alloc _ _ _ (by simp; omega)).trans (Below.heap_alloc _ _ _ (by simp))).trans (heap_alloc_new w _)
  have HS1 := Lib.hid hs1
  clear he hl hs1
  go_enter Tryd.func22, Tryd.ntmps22
  go_upto_block 0 with fail
  go_cut [4, 6, 7] from 12 to 40 (fun v4 v6 v7 wx => ∃ (k cS : Nat) (aS : Option Addr) (sp : List (Int × Int)), k ≤ 12 ∧ v4 = .slice aS k cS ∧ Hid (S1 w (.slice aS k cS) k sp wx))
  case first =>
    go_wp2_with fail
    go_loopw [6, 4, 7] (fun i v _ wr => ∃ (k cS : Nat) (aS : Option Addr) (sp : List (Int × Int)), k ≤ m ∧ k ≤ 12 ∧ i = .int .i64 k ∧ v = .slice aS k cS ∧ Hid (S1 w (.slice aS k cS) k sp wr)) (fun i _ _ _ => 12 - (intOf i).toNat)
    case atStart => exact ⟨0, 0, _, [], Nat.zero_le _, by omega, rfl, rfl, HS1⟩
    case round =>
      obtain ⟨k, cS, aS, sp, hkm, hk12, rfl, rfl, HG⟩ := hrel
      by_cases hlt : k < m
      · by_cases hlt4 : k < 12
        · have hkL : k < xs.length := by rw [HL.out]; exact hlt
          rcases HE.out with h | ⟨b, off, rfl, hc⟩
          · subst h; simp at hkL
          obtain ⟨c0, c1⟩ := hc k hkL
          replace c0 := (HG.out.2.2.1.cell (p := ⟨b, off + k * 2, none⟩) (World.block_lt_of_cell? w _ c0)).trans c0
          replace c1 := (HG.out.2.2.1.cell (p := ⟨b, off + k * 2 + 1, none⟩) (World.block_lt_of_cell? w _ c1)).trans c1
          obtain ⟨p, hp⟩ : ∃ p, xs[k]?.getD (0, 0) = p := ⟨_, rfl⟩
          obtain ⟨x, y⟩ := p
          rw [hp] at c0 c1
          simp only [] at c0 c1
          have HFX := Lib.hid (HF.out x)
          have HFY := Lib.hid (HF2.out y)
          have hzx := HFR.out x
          have hzy := HFR2.out y
          obtain ⟨zx, hzx'⟩ : ∃ z, foldZ x 30 = z := ⟨_, rfl⟩
          obtain ⟨zy, hzy'⟩ : ∃ z, foldZ y 12 = z := ⟨_, rfl⟩
          rw [hzx'] at HFX hzx
          rw [hzy'] at HFY hzy
          have hkI : (k : Int) < (m : Int) := by omega
          have HOK := Lib.hid (span_ok hzx hzy)
          have hsz := HG.out.2.2.1.size
          clear hc hp hzx' hzy'
          go_wp2_with (fail)
          refine (HFX.out _).mono ?_
          rintro e w' ⟨rfl, rfl⟩
          go_wp2_with (fail)
          refine (HFY.out _).mono ?_
          rintro e w' ⟨rfl, rfl⟩
          go_wp2_with (at_builtin; refine wpList_app_span1 rfl (.tmp 28) (.tmp 39) rfl w.heap.size (.slice aS k cS) k sp rfl zx (zx + zy) _ rfl (by simp) HG.out.2.2.2.2.2 (by omega) hsz ?_; intro g cp w7 hr7 hg7; have H7 := Lib.hid (HG.out.push HOK.out hr7 hg7); clear hr7 hg7)
          go_roundw
          case rel => exact ⟨k + 1, cp, _, _, by omega, by omega, by go_num, rfl, H7⟩
          case measure => simp [intOf]; omega
        · go_wp2
          go_meet
          exact ⟨k, cS, aS, sp, hk12, rfl, HG⟩
      · go_wp2
        go_meet
        exact ⟨k, cS, aS, sp, hk12, rfl, HG⟩
  case rest =>
    obtain ⟨k, cS, aS, sp, hk12, rfl, HG⟩ := hcut
    clear HF HF2 HFR HFR2 HE HL HS1
    have hsz := HG.out.2.2.1.size
    go_upto_if 43 with fail
    go_cut [4] from 41 to 47 (fun v4 wy => ∃ (n cS g : Nat) (sp : List (Int × Int)), (1 ≤ n ∧ n ≤ 12) ∧ v4 = .slice (some ⟨g, 0, none⟩) n cS ∧ Hid (S1 w (.slice (some ⟨g, 0, none⟩) n cS) n sp wy))
    case first =>
      by_cases h0 : k = 0
      · subst h0
        go_wp2_with (at_builtin; refine wpList_app_span1 rfl (.tmp 44) (.tmp 46) rfl w.heap.size (.slice aS 0 cS) 0 sp rfl 0 0 _ rfl rfl HG.out.2.2.2.2.2 (by omega) hsz ?_; intro g cp w7 hr7 hg7; have H7 := Lib.hid (HG.out.push (by decide) hr7 hg7); clear hr7 hg7)
        go_meet
        exact ⟨1, cp, g, _, by omega, rfl, H7⟩
      · obtain ⟨g, cap', rfl, rfl⟩ : ∃ g cap', aS = some ⟨g, 0, none⟩ ∧ cS = cap' := by
          rcases HG.out.2.2.2.2.2.2 with ⟨_, h⟩ | ⟨g, c, _, h, _⟩
          · exact absurd h h0
          · injection h with h1 _ h3; exact ⟨g, c, h1, h3⟩
        have hne : ¬ (k : Int) = 0 := by omega
        go_wp2
        go_meet
        exact ⟨k, cS, g, sp, by omega, rfl, HG⟩
    case rest =>
      obtain ⟨n, cS, g, sp, hn, rfl, HG⟩ := hcut
      have hsz := HG.out.2.2.1.size
      have HSL := Lib.hid HG.out.1
      have HSB := Lib.hid HG.out.2.1
      have HOS := Lib.hid (OS.start HG.out)
      have f0 : wc.frozen? ⟨w.heap.size + 1 + 1, 0, none⟩ = false := row_free HG.out.2.2.2.2.1 0
      have d0 : wc.cell? ⟨w.heap.size + 1 + 1, 0, none⟩ = some (.int .i64 0) := by simp [World.cell?, HG.out.2.2.2.2.1]
      go_wp2
      generalize wc.setCell ⟨w.heap.size + 1 + 1, 0, none⟩ (.int .i64 n) = w3 at HOS ⊢
      clear f0 d0 HG hsz
      go_loopw [8, 9] (fun i _ wr => ∃ (k cE : Nat) (aE : Option Addr) (es : List (Int × Int)), k ≤ n ∧ i = .int .i64 k ∧ Hid (OvI sp n es k 0) ∧ Hid (OS w g n sp aE cE es wr)) (fun i _ _ => n - (intOf i).toNat)
      case atStart => exact ⟨0, 0, none, [], Nat.zero_le _, rfl, Lib.hid (OvI.zero sp hn.1 hn.2), HOS⟩
      case round =>
        obtain ⟨k, cE, aE, es, hk, rfl, HOV, HO⟩ := hrel
        have d0 : wr.cell? ⟨w.heap.size + 1 + 1, 0, none⟩ = some (.int .i64 n) := by simp [World.cell?, HO.out.1.2.1]
        by_cases hlt : k < n
        · have hkn : (k : Int) < (n : Int) := by omega
          have HO1 := Lib.hid (HOV.out.row (Nat.zero_le _))
          obtain ⟨p, hp⟩ : ∃ p, atS sp k = p := ⟨_, rfl⟩
          obtain ⟨x1, x2⟩ := p
          have HCK : Hid (∀ wx, SpW wx g sp → wx.cell? ⟨g, k * 2, none⟩ = some (.int .i64 x1) ∧ wx.cell? ⟨g, k * 2 + 1, none⟩ = some (.int .i64 x2)) := Lib.hid (fun wx hx => by
            have := hx k (by rw [HSL.out]; exact hlt); rwa [hp] at this)
          have HPK := Lib.hid hp
          clear hp HOV
          go_wp2
          clear d0
          go_loopw [9] (fun j wi => ∃ (b cE : Nat) (aE : Option Addr) (es : List (Int × Int)), k + 1 ≤ b ∧ b ≤ n ∧ j = .int .i64 b ∧ Hid (OvI sp n es k b) ∧ Hid (OS w g n sp aE cE es wi)) (fun j _ => n - (intOf j).toNat)
          case atStart => exact ⟨k + 1, cE, aE, es, Nat.le_refl _, by omega, by go_num, HO1, HO⟩
          case round =>
            rename World => w6
            clear HO HO1
            obtain ⟨b, cE, aE, es, hkb, hb, rfl, HOV, HO⟩ := hrel
            have d0 : w6.cell? ⟨w.heap.size + 1 + 1, 0, none⟩ = some (.int .i64 n) := by simp [World.cell?, HO.out.1.2.1]
            by_cases hltb : b < n
            · have hbn : (b : Int) < (n : Int) := by omega
              obtain ⟨c0, c1⟩ := HCK.out w6 HO.out.2.1
              have hbL : b < sp.length := by rw [HSL.out]; exact hltb
              obtain ⟨e0, e1⟩ := HO.out.2.1 b hbL
              have hg6 : g < w6.heap.size := HO.out.far.2.2
              have HSK := Lib.hid (fun h => HOV.out.skip (b := b) h)
              have HMO := Lib.hid (fun h => HOV.out.more (b := b) (by omega) hltb h)
              have HEL : es.length ≤ 1000 := by have := HOV.out.few; omega
              obtain ⟨q, hq⟩ : ∃ q, atS sp b = q := ⟨_, rfl⟩
              obtain ⟨y1, y2⟩ := q
              have hmt : meetB (atS sp k) (atS sp b) = (decide (x1 ≤ y2) && decide (y1 ≤ x2)) := by rw [hq, HPK.out]; rfl
              rw [hmt] at HSK HMO
              rw [hq] at e0 e1
              simp only [] at e0 e1
              clear hq hmt hbL HOV
              rcases Bool.eq_false_or_eq_true (decide (x1 ≤ y2)) with q1 | q1 <;> rcases Bool.eq_false_or_eq_true (decide (y1 ≤ x2)) with q2 | q2
              · -- they meet
                rw [q1, q2] at HMO
                have HMO2 := Lib.hid (HMO.out rfl)
                clear HMO HSK
                go_wp2
                go_quiet (fail)
                have HO5 := Lib.hid (HO.out.drew nq)
                generalize w6.drewN nq = w5 at HO5 ⊢
                clear d0 c0 c1 e0 e1 HO q1 q2
                have d1 : w5.cell? ⟨w.heap.size + 1 + 1, 1, none⟩ = some (.slice aE es.length cE) := by simp [World.cell?, HO5.out.1.2.1]
                have d2 : w5.frozen? ⟨w.heap.size + 1 + 1, 1, none⟩ = false := row_free HO5.out.1.2.1 1
                have hsz5 := HO5.out.1.1.size
                have hlt5 : w.heap.size + 1 + 1 < w5.heap.size := World.block_lt_of_cell? w5 _ d1
                go_wp2_with (at_builtin; refine wpList_app_pair1 rfl (.tmp 90) (.tmp 94) rfl w.heap.size (.slice aE es.length cE) _ es rfl (k : Int) (b : Int) _ rfl (by simp) HO5.out.1.2.2.2 (by omega) hsz5 ?_; intro G cp w7 hr7 hg7; have H7 := Lib.hid (HO5.out.push hr7 hg7); have e4 : w7.cell? ⟨w.heap.size + 1 + 1, 1, none⟩ = some (.slice aE es.length cE) := net_cell H7.out.2; have e5 : w7.frozen? ⟨w.heap.size + 1 + 1, 1, none⟩ = false := row_free H7.out.2 1; clear hr7 hg7)
                go_roundw
                case rel => exact ⟨b + 1, cp, some ⟨G, 0, none⟩, _, by omega, by omega, by go_num, HMO2, Lib.hid H7.out.1⟩
                case measure => simp [intOf]; omega
              all_goals
                rw [q1, q2] at HSK
                have HSK2 := Lib.hid (HSK.out rfl)
                clear HMO HSK
                go_wp2
                go_quiet (fail)
                have HO5 := Lib.hid (HO.out.drew nq)
                generalize w6.drewN nq = w5 at HO5 ⊢
                clear d0 c0 c1 e0 e1 HO q1 q2
                go_wp2
                go_roundw
                case rel => exact ⟨b + 1, cE, aE, es, by omega, by omega, by go_num, HSK2, HO5⟩
                case measure => simp [intOf]; omega
            · obtain rfl : b = n := by omega
              have HDN := Lib.hid (HOV.out.done hn.2)
              clear HOV
              go_wp2
              go_roundw
              case rel => exact ⟨k + 1, cE, aE, es, by omega, by go_num, HDN, HO⟩
              case measure => simp [intOf]; omega
        · obtain rfl : k = n := by omega
          have d1 : wr.cell? ⟨w.heap.size + 1 + 1, 1, none⟩ = some (.slice aE es.length cE) := by simp [World.cell?, HO.out.1.2.1]
          have z0 : wr.cell? ⟨w.heap.size, 0, none⟩ = some (.int .i64 0) := by simp [World.cell?, HO.out.1.2.2.1]
          have z1 : wr.cell? ⟨w.heap.size, 1, none⟩ = some (.slice none 0 0) := by simp [World.cell?, HO.out.1.2.2.1]
          have z2 : wr.frozen? ⟨w.heap.size, 0, none⟩ = false := row_free HO.out.1.2.2.1 0
          have z3 : wr.frozen? ⟨w.heap.size, 1, none⟩ = false := row_free HO.out.1.2.2.1 1
          go_wp2
          obtain ⟨r1, r2, r3, r4⟩ := HO.out.ret
          refine bodyPost_ret_by (results_row_tmp (P := Tryd.prog) rfl _ _ w.heap.size 24 #[.int .i64 k, .slice aE es.length cE] (0, 0) _ rfl r1 Tryd.underlying24 rfl (by kernel_rfl)) rfl ?_
          exact ⟨k, cE, g, cS, aE, es, sp, hn, HSL.out, HSB.out, HOV.out, rfl, r2, r3, r4⟩

end Go.Proofs.YthlbedhjekbfpaaDoor
