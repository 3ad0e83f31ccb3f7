/-
  The error of the functions for chordal graphs: the law's 'chordal'; 'chordalOf' and 'Order' of what is no graph.
-/
import Derived.Test.YthlbedhjekbfpaaDoorUc
import Derived.Test.YthlbedhjekbfpaaDoorUb
namespace Go.Proofs.YthlbedhjekbfpaaDoor
open Go.RowKit Go.Sort

/-- The error that the document names: 1 of what is no graph, 5 of a graph that is not chordal. -/
def chordE (N : Int) (es : List (Int × Int)) : Int := if graphR N es = true then (if chordR es N.toNat = true then 0 else 5) else 1

set_option maxRecDepth 100000 in
set_option maxHeartbeats 2000000 in
theorem lawChordal_any (N : Int) (a : Option Addr) (m cap : Nat) (es : List (Int × Int)) (w : World) (hl : es.length = m) (hm : m ≤ 1000) (he : Edges w a es) :
    Calls Tryd.prog 10 #[.agg #[.int .i64 N, .slice a m cap]] w fun e w' => e = .returned (.int .i64 (chordE N es)) ∧ Below w.heap.size w w' := by
  have hb0 : Below w.heap.size w (w.alloc (.cells #[.int .i64 N, .slice a m cap] 24)) := (Below.refl _ w).alloc (Nat.le_refl _) _
  have HB0 := Lib.hid hb0
  have HG := Lib.hid (fun (wx : World) (hx : Below w.heap.size w wx) => Graph_any a m cap es N wx hl hm (he.below hx))
  have d0 : (w.alloc (.cells #[.int .i64 N, .slice a m cap] 24)).cell? ⟨w.heap.size, 0, none⟩ = some (.int .i64 N) := by simp
  have d1 : (w.alloc (.cells #[.int .i64 N, .slice a m cap] 24)).cell? ⟨w.heap.size, 1, none⟩ = some (.slice a m cap) := by simp
  have HD := Lib.hid (And.intro d0 d1)
  rcases Bool.eq_false_or_eq_true (graphR N es) with hg | hg
  · obtain ⟨n, gs, rfl, h1, h2, hadj, _⟩ := graphOf_good hg
    have HC := Lib.hid (fun (wx : World) (hx : Below w.heap.size w wx) => RefChordal_any a m cap n es wx h2 hl hm (he.below hx))
    have HE : Hid (chordE n es = if chordR es n = true then 0 else 5) := Lib.hid (by rw [chordE, if_pos hg]; rfl)
    rw [hg] at HG
    clear hg hadj hl he hb0
    obtain ⟨b, hb⟩ : ∃ b, chordR es n = b := ⟨_, rfl⟩
    rw [hb] at HC HE
    obtain ⟨E, hE⟩ : ∃ E, chordE n es = E := ⟨_, rfl⟩
    rw [hE] at HE ⊢
    clear hb hE
    go_enter Tryd.func10, Tryd.ntmps10
    go_wp2_with (fail)
    refine (HG.out _ HB0.out).mono ?_
    rintro e w1 ⟨rfl, hb1⟩
    have HB1 := Lib.hid (HB0.out.trans (hb1.mono HB0.out.size))
    replace d0 := (hb1.cell (World.block_lt_of_cell? _ _ d0)).trans d0
    replace d1 := (hb1.cell (World.block_lt_of_cell? _ _ d1)).trans d1
    clear hb1
    go_wp2_with (fail)
    refine (HC.out _ HB1.out).mono ?_
    rintro e w2 ⟨rfl, hb2⟩
    have HB2 := Lib.hid (HB1.out.trans (hb2.mono HB1.out.size))
    clear hb2
    cases b with
    | true =>
      have hE0 : E = 0 := HE.out
      subst hE0
      go_wp2_with (fail)
      go_ret
      exact ⟨rfl, HB2.out⟩
    | false =>
      have hE0 : E = 5 := HE.out
      subst hE0
      go_wp2_with (fail)
      go_ret
      exact ⟨rfl, HB2.out⟩
  · have HE : Hid (chordE N es = 1) := Lib.hid (by rw [chordE, if_neg (by rw [hg]; simp)])
    rw [hg] at HG
    obtain ⟨E, hE⟩ : ∃ E, chordE N es = E := ⟨_, rfl⟩
    rw [hE] at HE ⊢
    have hE0 : E = 1 := HE.out
    subst hE0
    clear hg hl he hb0 hE
    go_enter Tryd.func10, Tryd.ntmps10
    go_wp2_with (fail)
    refine (HG.out _ HB0.out).mono ?_
    rintro e w1 ⟨rfl, hb1⟩
    have HB1 := Lib.hid (HB0.out.trans (hb1.mono HB0.out.size))
    clear hb1 d0 d1
    go_wp2_with (fail)
    go_ret
    exact ⟨rfl, HB1.out⟩

set_option maxRecDepth 100000 in
set_option maxHeartbeats 2000000 in
theorem chordalOf_bad {N : Int} {es : List (Int × Int)} (h : graphR N es = false) (a : Option Addr) (m cap : Nat) (w : World) (hl : es.length = m) (hm : m ≤ 1000) (he : Edges w a es) :
    Calls Tryd.prog 32 #[.int .i64 N, .slice a m cap] w fun e w' => e = .returned (.tuple #[.slice none 0 0, .slice none 0 0, .int .i64 1]) ∧ Below w.heap.size w w' := by
  have HC := Lib.hid (graphOf_wrong h a m cap w hl hm he)
  clear h hl he
  go_enter Tryd.func32, Tryd.ntmps32
  go_wp2_with (go_at_call 33; refine HC.out.mono ?_; rintro e w1 ⟨rfl, hb⟩; have HB := Lib.hid hb; clear hb)
  go_ret3
  exact ⟨rfl, HB.out⟩

set_option maxRecDepth 100000 in
set_option maxHeartbeats 2000000 in
theorem Order_bad {N : Int} {es : List (Int × Int)} (h : graphR N es = false) (a : Option Addr) (m cap : Nat) (w : World) (hl : es.length = m) (hm : m ≤ 1000) (he : Edges w a es) :
    Calls Tryd.prog 8 #[.int .i64 N, .slice a m cap] w (Gives2 (.slice none 0 0) (.int .i64 1) w) := by
  have HC := Lib.hid (chordalOf_bad h a m cap w hl hm he)
  clear h hl he
  go_enter Tryd.func8, Tryd.ntmps8
  go_wp2_with (go_at_call 32; refine HC.out.mono ?_; rintro e w1 ⟨rfl, hb⟩; have HB := Lib.hid hb; clear hb)
  go_ret2
  exact ⟨rfl, HB.out⟩

end Go.Proofs.YthlbedhjekbfpaaDoor
