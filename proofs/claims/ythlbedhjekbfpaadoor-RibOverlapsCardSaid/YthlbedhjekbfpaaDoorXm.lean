/-
  The walks of 'fold1' and 'graph': a valid graph made of any pairs.
-/
import Derived.Test.YthlbedhjekbfpaaDoorXa
import Derived.Test.YthlbedhjekbfpaaDoorRz
namespace Go.Proofs.YthlbedhjekbfpaaDoor
open Go.RowKit Go.Sort

/-- What 'fold1' hands back. -/
def foldZ (v n : Int) : Int := (v.tmod n + n) % n
theorem tmod_low (v : Int) {n : Int} (hn : 0 < n) : -n < v.tmod n := by
  by_cases h : 0 ≤ v
  · have := Int.tmod_nonneg n h
    omega
  · have h1 := Int.tmod_lt_of_pos (-v) hn
    rw [Int.neg_tmod] at h1
    omega
theorem foldZ_range (v : Int) {n : Int} (hn : 1 ≤ n) : 0 ≤ foldZ v n ∧ foldZ v n < n := by
  exact ⟨Int.emod_nonneg _ (by omega), Int.emod_lt_of_pos _ (by omega)⟩
theorem fold1_any (v n : Int) (w : World) (hn : 1 ≤ n) (hn2 : n ≤ 1000) :
    Calls Tryd.prog 45 #[.int .i64 v, .int .i64 n] w fun e w' => e = .returned (.int .i64 (foldZ v n)) ∧ w = w' := by
  have h1 : -n < v.tmod n := tmod_low v (by omega)
  have h2 : v.tmod n < n := Int.tmod_lt_of_pos v (by omega)
  have hne : n ≠ 0 := by omega
  have HF : Hid (foldZ v n = (v.tmod n + n) % n) := Lib.hid rfl
  obtain ⟨z, hz⟩ : ∃ z, v.tmod n = z := ⟨_, rfl⟩
  rw [hz] at h1 h2 HF
  go_enter Tryd.func45, Tryd.ntmps45
  go_wp2
  go_ret
  exact ⟨by rw [HF.out]; rfl, rfl⟩

/-- 'l = append(l, p)' of one pair. -/
theorem wpList_app_pair1 {W : World} {ops : Array Oper} {rest : List Oper} {o : Oper} {a : Act} {Q : Exit → Act → World → Prop} (hgd : o.guard = none) (s x : Operand)
    (ho : o.op = .call { callee := .builtin .append, args := #[s, x], argTypes := #[22, 22] }) (base : Nat) (v : Value) (n : Nat) (es : List (Int × Int)) (hs : a.eval s = v) (z y : Int) (b : Nat)
    (hx : a.eval x = .slice (some ⟨b, 0, none⟩) 1 1) (hb : b = W.heap.size) (hown : W.ownsRow base 40 2 v n (prCells es)) (hn : n ≤ 1000000) (hbase : base ≤ W.heap.size)
    (h : ∀ (g cap : Nat) (w' : World), w'.ownsRow base 40 2 (.slice (some ⟨g, 0, none⟩) (n + 1) cap) (n + 1) (prCells (es ++ [(z, y)])) → W.grownBy w' v.ownBlock → wpList Tryd.prog ops Q rest (a.put o.dst (.slice (some ⟨g, 0, none⟩) (n + 1) cap)) w') :
    wpList Tryd.prog ops Q (o :: rest) a (W.alloc (.cells #[.int .i64 z, .int .i64 y] 40)) := by
  obtain ⟨i0, hi, hz0, hz1, hz2⟩ := info_parts Tryd.infoPair
  refine wpList_append_own_at _ hgd s x 22 ho base 40 i0 (.agg #[.int .i64 0, .int .i64 0]) 2 16 Tryd.underlying22 hi hz0 hz1 hz2 rfl (by decide) v n (prCells es) hs (hown.alloc _) ⟨b, 0, none⟩ 1 1 [.int .i64 z, .int .i64 y] hx rfl (cells_new W [.int .i64 z, .int .i64 y] _ b hb) (by intro u hu; simp at hu; rcases hu with rfl | rfl <;> rfl) (by unfold maxLen; omega) (by omega) (by simp; omega) ?_
  intro v' w' hown' hg _ _
  obtain ⟨g, cap, rfl⟩ := ownsRow_succ' hown'
  exact h g cap w' (by simpa [prCells] using hown') (grown_alloc hg)

/-- What 'graph' keeps. -/
def GS (w : World) (B : Nat) (N : Int) (aE : Option Addr) (cE : Nat) (es : List (Int × Int)) (wr : World) : Prop :=
  Below w.heap.size w wr ∧ wr.heap[B]? = some (.cells #[.int .i64 N, .slice aE es.length cE] 24 (0, 0)) ∧ wr.heap[w.heap.size]? = some (.cells #[.int .i64 0, .slice none 0 0] 24 (0, 0)) ∧ wr.ownsRow w.heap.size 40 2 (.slice aE es.length cE) es.length (prCells es)
theorem GS.grow {w W W' : World} {B : Nat} {N : Int} {aE : Option Addr} {cE : Nat} {es : List (Int × Int)} (h : GS w B N aE cE es W) (hg : W.grownBy W' (Value.slice aE es.length cE).ownBlock) :
    W'.heap[B]? = some (.cells #[.int .i64 N, .slice aE es.length cE] 24 (0, 0)) ∧ W'.heap[w.heap.size]? = some (.cells #[.int .i64 0, .slice none 0 0] 24 (0, 0)) ∧ Below w.heap.size w W' := by
  obtain ⟨h1, h2, h3, h4⟩ := h
  exact ⟨(hg.block B (Array.getElem?_eq_some_iff.1 h2).1 (row_ne h2 h4 (by decide))).trans h2, (hg.block _ (Array.getElem?_eq_some_iff.1 h3).1 (row_ne h3 h4 (by decide))).trans h3, h1.grown hg h1.size (fun k hk => (h4.lt k hk).1)⟩
theorem GS.push {w W' : World} {B : Nat} {N : Int} {aE : Option Addr} {cE g cp : Nat} {es : List (Int × Int)} {e : Int × Int} (hB : w.heap.size < B)
    (h : W'.heap[B]? = some (.cells #[.int .i64 N, .slice aE es.length cE] 24 (0, 0)) ∧ W'.heap[w.heap.size]? = some (.cells #[.int .i64 0, .slice none 0 0] 24 (0, 0)) ∧ Below w.heap.size w W')
    (hr : W'.ownsRow w.heap.size 40 2 (.slice (some ⟨g, 0, none⟩) (es.length + 1) cp) (es.length + 1) (prCells (es ++ [e]))) :
    GS w B N (some ⟨g, 0, none⟩) cp (es ++ [e]) (W'.setCell ⟨B, 1, none⟩ (.slice (some ⟨g, 0, none⟩) (es.length + 1) cp)) := by
  obtain ⟨h2, h3, h1⟩ := h
  have hl : (es ++ [e]).length = es.length + 1 := by simp
  refine ⟨h1.setCell (Nat.le_of_lt hB) _, ?_, (Below.heap_setCell W' _ _ _ (by show w.heap.size ≠ B; omega)).trans h3, ?_⟩
  · rw [hl]; exact heap_setCell_self h2 _
  · rw [hl]; exact ownsRow_set_ne hr (row_ne h2 hr (by decide)) _
theorem GS.ret {w W : World} {B : Nat} {N : Int} {aE : Option Addr} {cE : Nat} {es : List (Int × Int)} (h : GS w B N aE cE es W) :
    ((W.setCell ⟨w.heap.size, 0, none⟩ (.int .i64 N)).setCell ⟨w.heap.size, 1, none⟩ (.slice aE es.length cE)).heap[w.heap.size]? = some (.cells #[.int .i64 N, .slice aE es.length cE] 24 (0, 0)) ∧
      Edges ((W.setCell ⟨w.heap.size, 0, none⟩ (.int .i64 N)).setCell ⟨w.heap.size, 1, none⟩ (.slice aE es.length cE)) aE es ∧ Below w.heap.size w ((W.setCell ⟨w.heap.size, 0, none⟩ (.int .i64 N)).setCell ⟨w.heap.size, 1, none⟩ (.slice aE es.length cE)) := by
  obtain ⟨h1, h2, h3, h4⟩ := h
  have q1 : (W.setCell ⟨w.heap.size, 0, none⟩ (.int .i64 N)).heap[w.heap.size]? = some (.cells #[.int .i64 N, .slice none 0 0] 24 (0, 0)) := heap_setCell_self h3 _
  have hne := row_ne h3 h4 (by decide)
  exact ⟨heap_setCell_self q1 _, Edges.of_owns (ownsRow_set_ne (ownsRow_set_ne h4 hne _) hne _), (h1.setCell (Nat.le_refl _) _).setCell (Nat.le_refl _) _⟩
/-- A graph that is handed back. -/
def NetV (N : Int) (es : List (Int × Int)) (w : World) (e : Ending) (w' : World) : Prop := ∃ aE cE, e = .returned (.agg #[.int .i64 N, .slice aE es.length cE]) ∧ Edges w' aE es ∧ Below w.heap.size w w'

end Go.Proofs.YthlbedhjekbfpaaDoor
