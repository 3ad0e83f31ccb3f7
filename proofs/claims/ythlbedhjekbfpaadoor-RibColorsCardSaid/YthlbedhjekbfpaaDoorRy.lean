/-
  The walk of 'few': a copy of a graph with few edges.
-/
import Derived.Test.YthlbedhjekbfpaaDoorRx
import Derived.Deep.RegionHeld3
import Derived.Laws.AppendOwnNone
namespace Go.Proofs.YthlbedhjekbfpaaDoor
open Go.RowKit Go.Sort

theorem Tryd.infoPair : (Tryd.prog.info? 40).map (fun i => (i.zero, i.size, i.bytes)) = some (some (.agg #[.int .i64 0, .int .i64 0]), 2, 16) := by kernel_rfl
/-- The cells of some edges. -/
def prCells (es : List (Int × Int)) : List Value := es.flatMap fun e => [.int .i64 e.1, .int .i64 e.2]
theorem prCells_length (es : List (Int × Int)) : (prCells es).length = es.length * 2 := by
  induction es with
  | nil => rfl
  | cons e es ih => simp only [prCells, List.flatMap_cons, List.length_append, List.length_cons, List.length_nil] at ih ⊢; omega
theorem prCells_get (es : List (Int × Int)) : ∀ (i : Nat), i < es.length → (prCells es)[i * 2]? = some (.int .i64 (es[i]?.getD (0, 0)).1) ∧ (prCells es)[i * 2 + 1]? = some (.int .i64 (es[i]?.getD (0, 0)).2) := by
  induction es with
  | nil => intro i hi; simp at hi
  | cons e es ih =>
    intro i hi
    have hc : prCells (e :: es) = .int .i64 e.1 :: .int .i64 e.2 :: prCells es := rfl
    rw [hc]
    cases i with
    | zero => simp
    | succ i =>
      have h := ih i (by simpa using hi)
      rw [show (i + 1) * 2 = i * 2 + 1 + 1 by omega, show i * 2 + 1 + 1 + 1 = (i * 2 + 1) + 1 + 1 by omega]
      simp only [List.getElem?_cons_succ]
      exact h
theorem prCells_one (es : List (Int × Int)) : ∀ v ∈ prCells es, v.oneCell' = true := by
  intro v hv
  simp only [prCells, List.mem_flatMap] at hv
  obtain ⟨f, _, hf⟩ := hv
  rcases List.mem_cons.1 hf with rfl | hf
  · rfl
  · rcases List.mem_cons.1 hf with rfl | hf
    · rfl
    · cases hf
theorem Edges.of_owns {w : World} {base n cap : Nat} {a : Option Addr} {es : List (Int × Int)} (h : w.ownsRow base 40 2 (.slice a n cap) n (prCells es)) : Edges w a es := by
  have hn : es.length = n := by have := h.1; rw [prCells_length] at this; omega
  rcases h.2 with ⟨_, h0⟩ | ⟨g, cap', cur, e, _⟩
  · exact .inl (List.eq_nil_of_length_eq_zero (by omega))
  · cases e
    refine .inr ⟨g, 0, rfl, fun i hi => ?_⟩
    have hp := prCells_get es i hi
    have e0 := h.cellAt (i * 2) (by omega)
    have e1 := h.cellAt (i * 2 + 1) (by omega)
    rw [hp.1] at e0
    rw [hp.2] at e1
    rw [Nat.zero_add]
    exact ⟨e0, e1⟩

/-- Where some edges can be read from. -/
def SrcE (W : World) (ad : Option Addr) (r c : Nat) (L : List (Int × Int)) : Prop := L.length = r ∧ ((ad = none ∧ r = 0 ∧ c = 0) ∨ ∃ q, ad = some q ∧ ∀ j u, (prCells L)[j]? = some u → W.cell? (q.add j) = some u)
theorem SrcE.below {W0 W : World} {ad : Option Addr} {r c : Nat} {L : List (Int × Int)} (h : SrcE W0 ad r c L) (hb : Below W0.heap.size W0 W) : SrcE W ad r c L := by
  refine ⟨h.1, h.2.imp id ?_⟩
  rintro ⟨q, rfl, hc⟩
  exact ⟨q, rfl, fun j u hj => (hb.cell (World.block_lt_of_cell? W0 _ (hc j u hj))).trans (hc j u hj)⟩
theorem SrcE.of_edges {W : World} {b off r c : Nat} {L : List (Int × Int)} (hl : L.length = r) (hc : ∀ i, i < r → W.cell? ⟨b, off + i * 2, none⟩ = some (.int .i64 (L[i]?.getD (0, 0)).1) ∧ W.cell? ⟨b, off + i * 2 + 1, none⟩ = some (.int .i64 (L[i]?.getD (0, 0)).2)) : SrcE W (some ⟨b, off, none⟩) r c L := by
  refine ⟨hl, .inr ⟨_, rfl, fun j u hj => ?_⟩⟩
  have hjl : j < (prCells L).length := (List.getElem?_eq_some_iff.1 hj).1
  rw [prCells_length, hl] at hjl
  have hadd : (⟨b, off, none⟩ : Addr).add j = ⟨b, off + j, none⟩ := by unfold Addr.add; split <;> simp_all
  rw [hadd]
  have hi2 : j / 2 < r := by omega
  have hp := prCells_get L (j / 2) (by omega)
  have hcc := hc (j / 2) hi2
  rcases Nat.mod_two_eq_zero_or_one j with hm | hm
  · have e : j = j / 2 * 2 := by omega
    rw [e] at hj ⊢
    rw [hp.1] at hj
    rw [hcc.1, hj]
  · have e : j = j / 2 * 2 + 1 := by omega
    rw [e] at hj ⊢
    rw [hp.2] at hj
    rw [← Nat.add_assoc, hcc.2, hj]

/-- 'append([]api.Pair{}, x...)' in a region that draws. -/
theorem step_app_pairs {W : World} {ops : Array Oper} {o : Oper} {a : Act} {K : Act → World → Prop} {Q : Exit → Act → World → Prop} {E : Prop} (hgd : o.guard = none) (s x : Operand)
    (ho : o.op = .call { callee := .builtin .append, args := #[s, x], argTypes := #[22, 22] }) (B : Nat) (hs : a.eval s = .slice (some ⟨B, 0, none⟩) 0 0) (hB : W.heap[B]? = some (.cells #[] 40 (0, 0)))
    (ad : Option Addr) (r c : Nat) (L : List (Int × Int)) (hx : a.eval x = .slice ad r c) (hsrc : SrcE W ad r c L) (hn : r ≤ 1000)
    (h : ∀ (a' : Option Addr) (c' : Nat) (w' : World), w'.ownsRow B 40 2 (.slice a' r c') r (prCells L) → W.grownBy w' (some B) → K (a.put o.dst (.slice a' r c')) w') :
    if Region.wanted o (yielded ops a.tmps) = true then Oper.wp Tryd.prog o a W K Q else E := by
  have hw : Region.wanted o (yielded ops a.tmps) = true := by simp [Region.wanted, hgd]
  rw [if_pos hw]
  obtain ⟨i0, hi, hz0, hz1, hz2⟩ := info_parts Tryd.infoPair
  have hBlt : B < W.heap.size := (Array.getElem?_eq_some_iff.1 hB).1
  have hown : W.ownsRow B 40 2 (.slice (some ⟨B, 0, none⟩) 0 0) 0 [] := ⟨rfl, .inr ⟨B, 0, #[], rfl, Nat.le_refl _, hB, Nat.le_refl _, by unfold maxLen; omega, rfl, rfl⟩⟩
  obtain ⟨hl, hsrc⟩ := hsrc
  rcases hsrc with ⟨rfl, rfl, rfl⟩ | ⟨q, rfl, hc⟩
  · obtain rfl := List.eq_nil_of_length_eq_zero hl
    have hrun := run_append_owned_none (P := Tryd.prog) (w := W) B 22 o.type 40 i0 2 Tryd.underlying22 hi (.slice (some ⟨B, 0, none⟩) 0 0) 0 [] hown
    unfold Oper.wp
    simp [execOp, ho, resolve, invoke, builtin, hs, hx, hrun, Result.andThen]
    exact h _ _ W hown ⟨rfl, rfl, rfl, Nat.le_refl _, fun _ _ _ => rfl⟩
  · obtain ⟨v', w', hrun, hown', hg, _, _⟩ := run_append_own_at (P := Tryd.prog) W B 22 o.type 40 i0 (.agg #[.int .i64 0, .int .i64 0]) 2 16 Tryd.underlying22 hi hz0 hz1 hz2 rfl (by decide) (.slice (some ⟨B, 0, none⟩) 0 0) 0 [] hown q r c (prCells L) (by rw [prCells_length, hl]) hc (prCells_one L) (by unfold maxLen; omega) (by omega) (by omega)
    obtain ⟨a', c', rfl⟩ := ownsRow_slice hown'
    unfold Oper.wp
    simp only [Nat.zero_add, List.nil_append] at hown' hrun
    simp [execOp, ho, resolve, invoke, builtin, hs, hx, hrun, Result.andThen]
    exact h a' c' w' hown' hg

end Go.Proofs.YthlbedhjekbfpaaDoor
