/-
  The walks of 'fold1' and 'graph': a valid graph made of any pairs.
-/
import Derived.Test.YticafbfijpjbnaaXl
import Derived.Test.YticafbfijpjbnaaRz
namespace Go.Proofs.Yticafbfijpjbnaa
open Go.RowKit Go.Sort

/-- What 'fold1' hands back. -/
def foldZ (v n : Int) : Int := (v.tmod n + n) % n
theorem tmod_low (v : Int) {n : Int} (hn : 0 < n) : -n < v.tmod n := by
  by_cases h : 0 ≤ v
  · have := Int.tmod_nonneg n h
    omega
  · have h1 := Int.tmod_lt_of_pos (-v) hn
    rw [Int.neg_tmod] at h1
    omega
theorem foldZ_range (v : Int) {n : Int} (hn : 1 ≤ n) : 0 ≤ foldZ v n ∧ foldZ v n < n := by
  exact ⟨Int.emod_nonneg _ (by omega), Int.emod_lt_of_pos _ (by omega)⟩
theorem fold1_any (v n : Int) (w : World) (hn : 1 ≤ n) (hn2 : n ≤ 12) :
    Calls Try.prog 63 #[.int .i64 v, .int .i64 n] w fun e w' => e = .returned (.int .i64 (foldZ v n)) ∧ w = w' := by
  have h1 : -n < v.tmod n := tmod_low v (by omega)
  have h2 : v.tmod n < n := Int.tmod_lt_of_pos v (by omega)
  have hne : n ≠ 0 := by omega
  have HF : Hid (foldZ v n = (v.tmod n + n) % n) := Lib.hid rfl
  obtain ⟨z, hz⟩ : ∃ z, v.tmod n = z := ⟨_, rfl⟩
  rw [hz] at h1 h2 HF
  go_enter Try.func63, Try.ntmps63
  go_wp2
  go_ret
  exact ⟨by rw [HF.out]; rfl, rfl⟩

/-- 'l = append(l, p)' of one pair. -/
theorem wpList_app_pair1 {W : World} {ops : Array Oper} {rest : List Oper} {o : Oper} {a : Act} {Q : Exit → Act → World → Prop} (hgd : o.guard = none) (s x : Operand)
    (ho : o.op = .call { callee := .builtin .append, args := #[s, x], argTypes := #[22, 22] }) (base : Nat) (v : Value) (n : Nat) (es : List (Int × Int)) (hs : a.eval s = v) (z y : Int) (b : Nat)
    (hx : a.eval x = .slice (some ⟨b, 0, none⟩) 1 1) (hb : b = W.heap.size) (hown : W.ownsRow base 65 2 v n (prCells es)) (hn : n ≤ 1000000) (hbase : base ≤ W.heap.size)
    (h : ∀ (g cap : Nat) (w' : World), w'.ownsRow base 65 2 (.slice (some ⟨g, 0, none⟩) (n + 1) cap) (n + 1) (prCells (es ++ [(z, y)])) → W.grownBy w' v.ownBlock → wpList Try.prog ops Q rest (a.put o.dst (.slice (some ⟨g, 0, none⟩) (n + 1) cap)) w') :
    wpList Try.prog ops Q (o :: rest) a (W.alloc (.cells #[.int .i64 z, .int .i64 y] 65)) := by
  obtain ⟨i0, hi, hz0, hz1, hz2⟩ := info_parts Try.infoPair
  refine wpList_append_own_at _ hgd s x 22 ho base 65 i0 (.agg #[.int .i64 0, .int .i64 0]) 2 16 Try.underlying22 hi hz0 hz1 hz2 rfl (by decide) v n (prCells es) hs (hown.alloc _) ⟨b, 0, none⟩ 1 1 [.int .i64 z, .int .i64 y] hx rfl (cells_new W [.int .i64 z, .int .i64 y] _ b hb) (by intro u hu; simp at hu; rcases hu with rfl | rfl <;> rfl) (by unfold maxLen; omega) (by omega) (by simp; omega) ?_
  intro v' w' hown' hg _ _
  obtain ⟨g, cap, rfl⟩ := ownsRow_succ' hown'
  exact h g cap w' (by simpa [prCells] using hown') (grown_alloc hg)

/-- What 'graph' keeps. -/
def GS (w : World) (B : Nat) (N : Int) (aE : Option Addr) (cE : Nat) (es : List (Int × Int)) (wr : World) : Prop :=
  Below w.heap.size w wr ∧ wr.heap[B]? = some (.cells #[.int .i64 N, .slice aE es.length cE] 24 (0, 0)) ∧ wr.heap[w.heap.size]? = some (.cells #[.int .i64 0, .slice none 0 0] 24 (0, 0)) ∧ wr.ownsRow w.heap.size 65 2 (.slice aE es.length cE) es.length (prCells es)
theorem GS.grow {w W W' : World} {B : Nat} {N : Int} {aE : Option Addr} {cE : Nat} {es : List (Int × Int)} (h : GS w B N aE cE es W) (hg : W.grownBy W' (Value.slice aE es.length cE).ownBlock) :
    W'.heap[B]? = some (.cells #[.int .i64 N, .slice aE es.length cE] 24 (0, 0)) ∧ W'.heap[w.heap.size]? = some (.cells #[.int .i64 0, .slice none 0 0] 24 (0, 0)) ∧ Below w.heap.size w W' := by
  obtain ⟨h1, h2, h3, h4⟩ := h
  exact ⟨(hg.block B (Array.getElem?_eq_some_iff.1 h2).1 (row_ne h2 h4 (by decide))).trans h2, (hg.block _ (Array.getElem?_eq_some_iff.1 h3).1 (row_ne h3 h4 (by decide))).trans h3, h1.grown hg h1.size (fun k hk => (h4.lt k hk).1)⟩
theorem GS.push {w W' : World} {B : Nat} {N : Int} {aE : Option Addr} {cE g cp : Nat} {es : List (Int × Int)} {e : Int × Int} (hB : w.heap.size < B)
    (h : W'.heap[B]? = some (.cells #[.int .i64 N, .slice aE es.length cE] 24 (0, 0)) ∧ W'.heap[w.heap.size]? = some (.cells #[.int .i64 0, .slice none 0 0] 24 (0, 0)) ∧ Below w.heap.size w W')
    (hr : W'.ownsRow w.heap.size 65 2 (.slice (some ⟨g, 0, none⟩) (es.length + 1) cp) (es.length + 1) (prCells (es ++ [e]))) :
    GS w B N (some ⟨g, 0, none⟩) cp (es ++ [e]) (W'.setCell ⟨B, 1, none⟩ (.slice (some ⟨g, 0, none⟩) (es.length + 1) cp)) := by
  obtain ⟨h2, h3, h1⟩ := h
  have hl : (es ++ [e]).length = es.length + 1 := by simp
  refine ⟨h1.setCell (Nat.le_of_lt hB) _, ?_, (Below.heap_setCell W' _ _ _ (by show w.heap.size ≠ B; omega)).trans h3, ?_⟩
  · rw [hl]; exact heap_setCell_self h2 _
  · rw [hl]; exact ownsRow_set_ne hr (row_ne h2 hr (by decide)) _
theorem GS.ret {w W : World} {B : Nat} {N : Int} {aE : Option Addr} {cE : Nat} {es : List (Int × Int)} (h : GS w B N aE cE es W) :
    ((W.setCell ⟨w.heap.size, 0, none⟩ (.int .i64 N)).setCell ⟨w.heap.size, 1, none⟩ (.slice aE es.length cE)).heap[w.heap.size]? = some (.cells #[.int .i64 N, .slice aE es.length cE] 24 (0, 0)) ∧
      Edges ((W.setCell ⟨w.heap.size, 0, none⟩ (.int .i64 N)).setCell ⟨w.heap.size, 1, none⟩ (.slice aE es.length cE)) aE es ∧ Below w.heap.size w ((W.setCell ⟨w.heap.size, 0, none⟩ (.int .i64 N)).setCell ⟨w.heap.size, 1, none⟩ (.slice aE es.length cE)) := by
  obtain ⟨h1, h2, h3, h4⟩ := h
  have q1 : (W.setCell ⟨w.heap.size, 0, none⟩ (.int .i64 N)).heap[w.heap.size]? = some (.cells #[.int .i64 N, .slice none 0 0] 24 (0, 0)) := heap_setCell_self h3 _
  have hne := row_ne h3 h4 (by decide)
  exact ⟨heap_setCell_self q1 _, Edges.of_owns (ownsRow_set_ne (ownsRow_set_ne h4 hne _) hne _), (h1.setCell (Nat.le_refl _) _).setCell (Nat.le_refl _) _⟩
/-- A graph that is handed back. -/
def NetV (N : Int) (es : List (Int × Int)) (w : World) (e : Ending) (w' : World) : Prop := ∃ aE cE, e = .returned (.agg #[.int .i64 N, .slice aE es.length cE]) ∧ Edges w' aE es ∧ Below w.heap.size w w'

set_option maxRecDepth 100000 in
set_option maxHeartbeats 8000000 in
theorem graph_any (n0 M : Int) (a : Option Addr) (m cap : Nat) (xs : List (Int × Int)) (w : World) (h0 : 0 ≤ n0 ∧ n0 ≤ 255) (hM : 1 ≤ M ∧ M ≤ 12) (hl : xs.length = m) (hm : m ≤ 9223372036854775807) (he : Edges w a xs) :
    Calls Try.prog 35 #[.int .u8 n0, .slice a m cap, .int .i64 M] w fun e w' => ∃ N es, (1 ≤ N ∧ N ≤ M) ∧ graphR N es = true ∧ es.length ≤ 40 ∧ NetV N es w e w' := by
  have HE := Lib.hid he
  have HL := Lib.hid hl
  have hN1 : 0 ≤ n0 % M := Int.emod_nonneg _ (by omega)
  have hN2 : n0 % M < M := Int.emod_lt_of_pos _ (by omega)
  obtain ⟨N, hN⟩ : ∃ N, n0 % M + 1 = N := ⟨_, rfl⟩
  have hNr : 1 ≤ N ∧ N ≤ M := by omega
  have hwN : wrap64 (n0 % M + 1) = N := by unfold wrap64; omega
  have hMne : M ≠ 0 := by omega
  have HF := Lib.hid (fun (v : Int) (wx : World) => fold1_any v N wx (by omega) (by omega))
  have HFR := Lib.hid (fun (v : Int) => foldZ_range v (n := N) (by omega))
  have hgs : GS w (w.heap.size + 1) N none 0 [] ((w.alloc (.cells #[.int .i64 0, .slice none 0 0] 24)).alloc (.cells #[.int .i64 N, .slice none 0 0] 24)) := by
    have h1 := heap_alloc_new (w.alloc (.cells #[.int .i64 0, .slice none 0 0] 24)) (.cells #[.int .i64 N, .slice none 0 0] 24)
    rw [sz_alloc] at h1
    refine ⟨((Below.refl _ w).alloc (Nat.le_refl _) _).alloc (by simp) _, h1, ?_, rfl, .inl ⟨rfl, rfl⟩⟩
    exact (Below.heap_alloc _ _ _ (by simp)).trans (heap_alloc_new w _)
  have HGS := Lib.hid hgs
  clear he hl hgs
  go_enter Try.func35, Try.ntmps35
  go_wp2
  go_loopw [8, 9, 10, 11] (fun i _ _ _ wr => ∃ (k cE : Nat) (es : List (Int × Int)) (aE : Option Addr), k ≤ m ∧ k ≤ 40 ∧ i = .int .i64 k ∧ es.length ≤ k ∧ Hid (graphR N es = true) ∧ Hid (GS w (w.heap.size + 1) N aE cE es wr)) (fun i _ _ _ _ => 40 - (intOf i).toNat)
  case atStart => exact ⟨0, 0, [], none, Nat.zero_le _, by omega, rfl, Nat.le_refl _, Lib.hid (by rw [graphR_iff]; exact ⟨by omega, by simp, List.nodup_nil⟩), HGS⟩
  case round =>
    obtain ⟨k, cE, es, aE, hkm, hk40, rfl, hel, HGR, HG⟩ := hrel
    have d0 : wr.cell? ⟨w.heap.size + 1, 0, none⟩ = some (.int .i64 N) := by simp [World.cell?, HG.out.2.1]
    have d1 : wr.cell? ⟨w.heap.size + 1, 1, none⟩ = some (.slice aE es.length cE) := by simp [World.cell?, HG.out.2.1]
    have d2 : wr.frozen? ⟨w.heap.size + 1, 1, none⟩ = false := row_free HG.out.2.1 1
    have hws : w.heap.size + 1 < wr.heap.size := World.block_lt_of_cell? wr _ d0
    have fin : GS w (w.heap.size + 1) N aE cE es wr → True := fun _ => trivial
    by_cases hlt : k < m
    · by_cases hlt4 : k < 40
      · have hkL : k < xs.length := by rw [HL.out]; exact hlt
        rcases HE.out with h | ⟨b, off, rfl, hc⟩
        · subst h; simp at hkL
        obtain ⟨c0, c1⟩ := hc k hkL
        replace c0 := (HG.out.1.cell (p := ⟨b, off + k * 2, none⟩) (World.block_lt_of_cell? w _ c0)).trans c0
        replace c1 := (HG.out.1.cell (p := ⟨b, off + k * 2 + 1, none⟩) (World.block_lt_of_cell? w _ c1)).trans c1
        obtain ⟨p, hp⟩ : ∃ p, xs[k]?.getD (0, 0) = p := ⟨_, rfl⟩
        obtain ⟨x, y⟩ := p
        rw [hp] at c0 c1
        simp only [] at c0 c1
        have HFX := Lib.hid (HF.out x)
        have HFY := Lib.hid (HF.out y)
        have hzx := HFR.out x
        have hzy := HFR.out y
        obtain ⟨zx, hzx'⟩ : ∃ z, foldZ x N = z := ⟨_, rfl⟩
        obtain ⟨zy, hzy'⟩ : ∃ z, foldZ y N = z := ⟨_, rfl⟩
        rw [hzx'] at HFX hzx
        rw [hzy'] at HFY hzy
        have hkI : (k : Int) < (m : Int) := by omega
        clear hc hp hzx' hzy' fin
        go_wp2
        go_quiet (first
          | with_reducible exact quiet_same (HFX.out _)
          | with_reducible exact quiet_same (HFY.out _))
        have hg5 : GS w (w.heap.size + 1) N aE cE es (wr.drewN nq) := ⟨below_drewN HG.out.1 _, HG.out.2.1, HG.out.2.2.1, HG.out.2.2.2⟩
        have e0 : (wr.drewN nq).cell? ⟨w.heap.size + 1, 0, none⟩ = some (.int .i64 N) := d0
        have e1 : (wr.drewN nq).cell? ⟨w.heap.size + 1, 1, none⟩ = some (.slice aE es.length cE) := d1
        have e2 : (wr.drewN nq).frozen? ⟨w.heap.size + 1, 1, none⟩ = false := d2
        have e3 : w.heap.size + 1 < (wr.drewN nq).heap.size := hws
        clear d0 d1 d2 c0 c1 hws
        generalize wr.drewN nq = w5 at hg5 e0 e1 e2 e3 ⊢
        have HG5 := Lib.hid hg5
        clear hg5 HG
        have HGA : Hid (∀ o, GS w (w.heap.size + 1) N aE cE es (w5.alloc o)) := Lib.hid (fun o => ⟨HG5.out.1.alloc HG5.out.1.size _, (Below.heap_alloc _ _ _ e3).trans HG5.out.2.1, (Below.heap_alloc _ _ _ (by omega)).trans HG5.out.2.2.1, HG5.out.2.2.2.alloc _⟩)
        by_cases hzz : zx = zy
        · have hbne : (zx != zy) = false := by simp [hzz]
          go_wp2
          go_roundw
          case rel => exact ⟨k + 1, cE, es, aE, by omega, by omega, by go_num, by omega, HGR, Lib.hid (HGA.out _)⟩
          case measure => simp [intOf]; omega
        · have hbne : (zx != zy) = true := by simpa using hzz
          have HNR := Lib.hid (fun o => Near_any aE es.length cE es zx zy (w5.alloc o) rfl (by omega) (Edges.of_owns (HGA.out o).2.2.2))
          obtain ⟨t, ht⟩ : ∃ t, nearB es zx zy = t := ⟨_, rfl⟩
          rw [ht] at HNR
          cases t with
          | true =>
            go_wp2_with (go_at_call 45; refine (HNR.out _).mono ?_; rintro e w' ⟨rfl, rfl⟩)
            go_roundw
            case rel => exact ⟨k + 1, cE, es, aE, by omega, by omega, by go_num, by omega, HGR, Lib.hid (HGA.out _)⟩
            case measure => simp [intOf]; omega
          | false =>
            have HSN := Lib.hid (graphR_snoc HGR.out hzx hzy hzz ht)
            have hle : (es ++ [(min zx zy, max zx zy)]).length = es.length + 1 := by simp
            obtain ⟨zm, hzm⟩ : ∃ z, min zx zy = z := ⟨_, rfl⟩
            obtain ⟨zM, hzM⟩ : ∃ z, max zx zy = z := ⟨_, rfl⟩
            rw [hzm, hzM] at HSN hle
            have HLE := Lib.hid hle
            have hown := HG5.out.2.2.2
            have hsz5 := HG5.out.1.size
            clear ht hle
            go_wp2_with (first
              | (go_at_call 45; refine (HNR.out _).mono ?_; rintro e w' ⟨rfl, rfl⟩)
              | (at_builtin; refine wpList_app_pair1 rfl (.tmp 63) (.tmp 65) rfl w.heap.size (.slice aE es.length cE) _ es rfl zm zM _ rfl (by simp) (HGA.out _).2.2.2 (by omega) (HGA.out _).1.size ?_; intro g cp w7 hr7 hg7; have h7 := (HGA.out _).grow hg7; have H7 := Lib.hid (And.intro h7 hr7); have e4 : w7.cell? ⟨w.heap.size + 1, 1, none⟩ = some (.slice aE es.length cE) := by simp [World.cell?, h7.1]
                 have e5 : w7.frozen? ⟨w.heap.size + 1, 1, none⟩ = false := row_free h7.1 1
                 clear hr7 hg7 h7))
            go_roundw
            case rel => exact ⟨k + 1, cp, _, some ⟨g, 0, none⟩, by omega, by omega, by go_num, by rw [HLE.out]; omega, HSN, Lib.hid (GS.push (by omega) H7.out.1 H7.out.2)⟩
            case measure => simp [intOf]; omega
      · have z0 : wr.cell? ⟨w.heap.size, 0, none⟩ = some (.int .i64 0) := by simp [World.cell?, HG.out.2.2.1]
        have z1 : wr.cell? ⟨w.heap.size, 1, none⟩ = some (.slice none 0 0) := by simp [World.cell?, HG.out.2.2.1]
        have z2 : wr.frozen? ⟨w.heap.size, 0, none⟩ = false := row_free HG.out.2.2.1 0
        have z3 : wr.frozen? ⟨w.heap.size, 1, none⟩ = false := row_free HG.out.2.2.1 1
        clear fin
        go_wp2
        obtain ⟨r1, r2, r3⟩ := HG.out.ret
        refine bodyPost_ret_by (results_cell_row (P := Try.prog) rfl _ _ w.heap.size 24 #[.int .i64 N, .slice aE es.length cE] (0, 0) _ rfl r1 Try.underlying24 rfl (by kernel_rfl)) rfl ?_
        exact ⟨N, es, hNr, HGR.out, by omega, aE, cE, rfl, r2, r3⟩
    · have z0 : wr.cell? ⟨w.heap.size, 0, none⟩ = some (.int .i64 0) := by simp [World.cell?, HG.out.2.2.1]
      have z1 : wr.cell? ⟨w.heap.size, 1, none⟩ = some (.slice none 0 0) := by simp [World.cell?, HG.out.2.2.1]
      have z2 : wr.frozen? ⟨w.heap.size, 0, none⟩ = false := row_free HG.out.2.2.1 0
      have z3 : wr.frozen? ⟨w.heap.size, 1, none⟩ = false := row_free HG.out.2.2.1 1
      clear fin
      go_wp2
      obtain ⟨r1, r2, r3⟩ := HG.out.ret
      refine bodyPost_ret_by (results_cell_row (P := Try.prog) rfl _ _ w.heap.size 24 #[.int .i64 N, .slice aE es.length cE] (0, 0) _ rfl r1 Try.underlying24 rfl (by kernel_rfl)) rfl ?_
      exact ⟨N, es, hNr, HGR.out, by omega, aE, cE, rfl, r2, r3⟩

end Go.Proofs.Yticafbfijpjbnaa
