/-
  strap: the laws' arguments: a slice of small numbers, a place.
-/
import Derived.Test.YtbcggbmjbljnfaaEc
import Derived.Lib.SmallJoins
import Derived.Carry
namespace Go.Proofs.Ytbcggbmjbljnfaa
open Go.ChangeShapes Go.WideShapes Go.ChangeAt Go.RowKit

theorem laidOut : laidOutB Try.prog = true := by kernel_rfl
/-- An argument reads as before when the world has grown. -/
theorem arg_kept {H : Type} {enc : TypeId × Value → H} {t : TypeId} (hr : Try.prog.readableRec t = true) (hrow : t < Try.prog.types.size) {W : World} {v : Value} {d : DataW H} {ps : List MemPlace}
    (h : DataW.Trod enc Try.prog W 0 (fun _ => true) true t v d ps) (hlt : ∀ x ∈ ps, x.block < W.heap.size) {W' : World} (hb : Below W.heap.size W W') : DataW.Trod enc Try.prog W' 0 (fun b => decide (b < W.heap.size)) true t v d ps :=
  Below.trod laidOut hr hrow h hb hlt
theorem cellsI8 : Try.prog.cellsOf 115 = 1 := by kernel_rfl
theorem i8_bd {z : Int} (h : (Lit.int .i8 z).wf = true) : -128 ≤ z ∧ z ≤ 127 := by
  simp only [Lit.wf, Bool.and_eq_true, decide_eq_true_eq] at h
  exact h
set_option maxRecDepth 100000 in
/-- A slice of small numbers, opened. -/
theorem arg_int8s {H : Type} {enc : TypeId × Value → H} {W : World} {fuel : Nat} {v : Value} {x : DataW H × List MemPlace} (hf : DataW.trod enc Try.prog W 0 (fun _ => true) true fuel 63 [v] = some x) :
    ∃ (a : Option Addr) (n cap : Nat) (zs : List Int), v = .slice a n cap ∧ zs.length = n ∧ n ≤ 9223372036854775807 ∧ Ints8 W a zs := by
  rcases open_ints Try.underlying63 Try.underlying115 cellsI8 hf with ⟨hcs, _⟩ | ⟨a, len, cap, zs, hcs, _, hl, hm, hz, _, hcell, hwz⟩
  · simp at hcs
    subst hcs
    exact ⟨none, 0, 0, [], rfl, rfl, by omega, by simp, fun i hi => by simp at hi⟩
  · simp at hcs
    subst hcs
    simp only [if_true] at hz
    refine ⟨some a, len, cap, zs.take len, rfl, by simp; omega, by unfold maxLen at hm; omega, fun z hz => i8_bd (hwz z (List.mem_of_mem_take hz)), fun i hi => ?_⟩
    rw [List.length_take] at hi
    obtain ⟨b, off, spot⟩ := a
    have hspot : spot = none := by simpa [Addr.add] using World.cell?_spot (hcell 0 (by omega))
    subst hspot
    refine ⟨b, off, rfl, ?_⟩
    have hc := hcell i (by omega)
    rw [add_plain] at hc
    rw [hc, List.getElem?_take, if_pos (by omega), List.getD_eq_getElem?_getD]
theorem cellsU8 : Try.prog.cellsOf 5 = 1 := by kernel_rfl
theorem cellsBool : Try.prog.cellsOf 4 = 1 := by kernel_rfl
theorem cellsPlace : Try.prog.cellsOf 65 = 5 := by kernel_rfl
set_option maxRecDepth 100000 in
/-- A place, opened. -/
theorem arg_place {H : Type} {enc : TypeId × Value → H} {W : World} {base : Nat} {v : Value} {d : DataW H} {p : List MemPlace} (hok : Value.okWide Try.prog W .any base 65 v)
    (h : DataW.Trod enc Try.prog W 0 (fun _ => true) true 65 v d p) :
    ∃ (p0 p1 p2 p3 : Int) (mi : Bool), v = .agg #[.int .u8 p0, .int .u8 p1, .int .u8 p2, .int .u8 p3, .bool mi] ∧ (0 ≤ p0 ∧ p0 ≤ 255) ∧ (0 ≤ p1 ∧ p1 ≤ 255) ∧ (0 ≤ p2 ∧ p2 ≤ 255) ∧ (0 ≤ p3 ∧ p3 ≤ 255) := by
  obtain ⟨cs, rfl, hsz⟩ := okWide_struct Try.underlying65 hok
  obtain ⟨l⟩ := cs
  match l, hsz.trans cellsPlace with
  | [c0, c1, c2, c3, c4], _ =>
    obtain ⟨fuel, hf⟩ := h
    obtain ⟨xs, n, _, _, _, hlen, hg⟩ := DataW.trod_struct Try.underlying65 hf
    have hlen5 : xs.length = 5 := hlen
    have u : ∀ (j : Nat) (c : Value), j < 5 → DataW.trod enc Try.prog W 0 (fun _ => true) true n 5 [c] = xs[j]? → ∃ q, c = .int .u8 q ∧ 0 ≤ q ∧ q ≤ 255 := fun j c hj hc => by
      rw [List.getElem?_eq_getElem (by omega)] at hc
      obtain ⟨q, e, _, hw⟩ := DataW.trod_int Try.underlying5 hc
      simp only [List.cons.injEq, and_true] at e
      exact ⟨q, e, u8_bd hw⟩
    obtain ⟨p0, rfl, b0⟩ := u 0 c0 (by omega) (by simpa [Value.cells, cellsU8] using hg 0 _ rfl)
    obtain ⟨p1, rfl, b1⟩ := u 1 c1 (by omega) (by simpa [Value.cells, cellsU8] using hg 1 _ rfl)
    obtain ⟨p2, rfl, b2⟩ := u 2 c2 (by omega) (by simpa [Value.cells, cellsU8] using hg 2 _ rfl)
    obtain ⟨p3, rfl, b3⟩ := u 3 c3 (by omega) (by simpa [Value.cells, cellsU8] using hg 3 _ rfl)
    have g4 : DataW.trod enc Try.prog W 0 (fun _ => true) true n 4 [c4] = xs[4]? := by simpa [Value.cells, cellsBool] using hg 4 _ rfl
    rw [List.getElem?_eq_getElem (by omega)] at g4
    obtain ⟨mi, e, _⟩ := DataW.trod_bool Try.underlying4 g4
    simp only [List.cons.injEq, and_true] at e
    subst e
    exact ⟨p0, p1, p2, p3, mi, rfl, b0, b1, b2, b3⟩

end Go.Proofs.Ytbcggbmjbljnfaa
