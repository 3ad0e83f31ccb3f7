/-
  Pure: the graph of some spans; 'Spans' of an interval graph returns no error.
-/
import Derived.Test.YteckeobhlfddlaaXa
import Derived.Test.YteckeobhlfddlaaXg
import Derived.Test.YteckeobhlfddlaaXf
namespace Go.Proofs.Yteckeobhlfddlaa.Rib
open Go.RowKit Go.Sort

/-! ### The graph of some spans -/
/-- The edges up to a place of the loop: all of the rows before a, and of the row a those before b. -/
structure OvI (sp : List (Int × Int)) (n : Nat) (es : List (Int × Int)) (a b : Nat) : Prop where
  ok : graphR n es = true
  few : es.length ≤ a * 12 + b
  near : ∀ x y : Nat, x < y → y < n → (nearB es x y = true ↔ meetB (atS sp x) (atS sp y) = true ∧ (x < a ∨ x = a ∧ y < b))
theorem OvI.zero (sp : List (Int × Int)) {n : Nat} (h1 : 1 ≤ n) (h2 : n ≤ 12) : OvI sp n [] 0 0 where
  ok := by rw [graphR_iff]; exact ⟨by omega, by simp, List.nodup_nil⟩
  few := by simp
  near x y _ _ := by simp [nearB]
theorem OvI.row {sp es : List (Int × Int)} {n a b : Nat} (h : OvI sp n es a b) (hb : b ≤ a + 1) : OvI sp n es a (a + 1) where
  ok := h.ok
  few := by have := h.few; omega
  near x y h1 h2 := by
    rw [h.near x y h1 h2]
    refine and_congr_right fun _ => ?_
    omega
theorem OvI.done {sp es : List (Int × Int)} {n a : Nat} (h : OvI sp n es a n) (hn : n ≤ 12) : OvI sp n es (a + 1) 0 where
  ok := h.ok
  few := by have := h.few; omega
  near x y h1 h2 := by
    rw [h.near x y h1 h2]
    refine and_congr_right fun _ => ?_
    omega
theorem OvI.skip {sp es : List (Int × Int)} {n a b : Nat} (h : OvI sp n es a b) (hm : meetB (atS sp a) (atS sp b) = false) : OvI sp n es a (b + 1) where
  ok := h.ok
  few := by have := h.few; omega
  near x y h1 h2 := by
    rw [h.near x y h1 h2]
    refine and_congr_right fun hxy => ?_
    have : ¬ (x = a ∧ y = b) := fun ⟨e1, e2⟩ => by subst e1; subst e2; rw [hm] at hxy; cases hxy
    omega
theorem OvI.more {sp es : List (Int × Int)} {n a b : Nat} (h : OvI sp n es a b) (hab : a < b) (hb : b < n) (hm : meetB (atS sp a) (atS sp b) = true) : OvI sp n (es ++ [((a : Int), (b : Int))]) a (b + 1) where
  ok := by
    have h1 : nearB es a b = false := by
      rw [Bool.eq_false_iff]
      intro e
      have := (h.near a b hab hb).1 e
      omega
    have := graphR_snoc h.ok (a := a) (b := b) (by omega) (by omega) (by omega) h1
    rwa [show min (a : Int) b = a by omega, show max (a : Int) b = b by omega] at this
  few := by have := h.few; rw [List.length_append]; simp; omega
  near x y h1 h2 := by
    have e : pairAt x y ((a : Int), (b : Int)) = true ↔ x = a ∧ y = b := by
      unfold pairAt
      simp only [Bool.and_eq_true, beq_iff_eq, bne_iff_ne, ne_eq]
      omega
    rw [nearB_snoc, Bool.or_eq_true, h.near x y h1 h2, e]
    constructor
    · rintro (⟨h3, h4⟩ | ⟨rfl, rfl⟩)
      · exact ⟨h3, by omega⟩
      · exact ⟨hm, by omega⟩
    · rintro ⟨h3, h4⟩
      by_cases he : x = a ∧ y = b
      · exact .inr he
      · exact .inl ⟨h3, by omega⟩
theorem OvI.match {sp es : List (Int × Int)} {n : Nat} (h : OvI sp n es n 0) : matchR es sp n = true := by
  rw [matchR, List.all_eq_true]
  intro a ha
  rw [List.all_eq_true]
  intro b hb
  rw [List.mem_range] at ha hb
  rw [matchRAt, beq_iff_eq, nearB_comm, meetB_comm, Bool.eq_iff_iff, h.near b a hb ha]
  exact ⟨fun k => k.1, fun k => ⟨k, by omega⟩⟩


/-- Of a graph with spans: no error of 'Spans' and 'Order'. -/
theorem rep_order {n : Nat} {gs : List Nat} {es : List (Int × Int)} (h : Adj n gs es) (h2 : n ≤ 12) {L H : Nat → Int} (hr : Rep es n L H) : (ordI n gs).length = n ∧ (ordN n gs).length = n := by
  have ho := (chdB_iff h h2 (full_lt n)).2 (interval_chd hr)
  rw [← chord_chdB h h2, chord_same h h2, decide_eq_true_iff] at ho
  exact ⟨by rw [ordI, List.length_map]; exact ho, ho⟩
theorem SpansV.ok {n : Nat} {gs : List Nat} {es : List (Int × Int)} (h : Adj n gs es) (h1 : 1 ≤ n) (h2 : n ≤ 12) {L H : Nat → Int} (hr : Rep es n L H) {w w' : World} {e : Ending} (hv : SpansV n gs w e w') : ∃ v, e = .returned (.tuple #[v, .int .i64 0]) ∧ Below w.heap.size w w' := by
  obtain ⟨hb, hv⟩ := hv
  obtain ⟨ho, ho'⟩ := rep_order h h2 hr
  have hf := clique_few h h2 h1 ho'
  have hne := interval_row h h2 h1 hr (by rw [srt_len]; omega)
  rw [if_neg (by omega)] at hv
  cases hso : searchN (srtN (cliquesN gs)) (srtN (cliquesN gs)).length 0 with
  | none => exact absurd hso hne
  | some r =>
    rw [hso] at hv
    obtain ⟨g, he, _⟩ := hv
    exact ⟨_, he, hb⟩
theorem OrderV.ok {n : Nat} {gs : List Nat} {es : List (Int × Int)} (h : Adj n gs es) (h2 : n ≤ 12) {L H : Nat → Int} (hr : Rep es n L H) {w w' : World} {e : Ending} (hv : OrderV n gs w e w') : ∃ v, e = .returned (.tuple #[v, .int .i64 0]) ∧ Below w.heap.size w w' := by
  obtain ⟨hb, hv⟩ := hv
  obtain ⟨ho, _⟩ := rep_order h h2 hr
  rw [if_neg (by omega)] at hv
  obtain ⟨a, c, he, _⟩ := hv
  exact ⟨_, he, hb⟩

end Go.Proofs.Yteckeobhlfddlaa.Rib
