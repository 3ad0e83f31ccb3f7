/-
  The walk of 'RibCliques'.
-/
import Derived.Test.YthlbedhjekbfpaaDoorTd
namespace Go.Proofs.YthlbedhjekbfpaaDoor
open Go.RowKit Go.Sort

set_option maxHeartbeats 1000000 in
/-- 'Same', of two slices of the same integers: it only draws. -/
theorem same_quiet (a b : Option Addr) (n ca cb : Nat) (xs : List Int) (w : World) (hx : xs.length = n) (hn : n ≤ 9223372036854775807) (ha : Ints w a xs) (hb : Ints w b xs) :
    Calls Tryd.prog 39 #[.slice a n ca, .slice b n cb] w fun e w' => e = .returned (.bool true) ∧ ∃ m, w' = w.drewN m := by
  have HA := Lib.hid ha.at
  have HB := Lib.hid hb.at
  have HX := Lib.hid hx
  clear ha hb hx
  go_enter Tryd.func39, Tryd.ntmps39
  go_wp2
  go_loopw [5] (fun i wr => ∃ k m : Nat, k ≤ n ∧ i = .int .i64 k ∧ Hid (wr = w.drewN m)) (fun i _ => n - (intOf i).toNat)
  case atStart => exact ⟨0, 0, Nat.zero_le _, rfl, Lib.hid rfl⟩
  case round =>
    obtain ⟨k, m, hk, rfl, HW⟩ := hrel
    by_cases hlt : k < n
    · have hkx : k < xs.length := by have := HX.out; omega
      rcases HA.out with h | ⟨ba, oa, rfl, hca⟩
      · subst h; simp at hkx
      rcases HB.out with h | ⟨bb, ob, rfl, hcb⟩
      · subst h; simp at hkx
      have hbel : Below w.heap.size w wr := by rw [HW.out]; exact below_drewN (Below.refl _ _) _
      have c0 := (hbel.cell (p := ⟨ba, oa + k, none⟩) (World.block_lt_of_cell? w _ (hca k hkx))).trans (hca k hkx)
      have c1 := (hbel.cell (p := ⟨bb, ob + k, none⟩) (World.block_lt_of_cell? w _ (hcb k hkx))).trans (hcb k hkx)
      clear hca hcb hbel
      obtain ⟨x, hxk⟩ : ∃ x, xs[k]?.getD 0 = x := ⟨_, rfl⟩
      rw [hxk] at c0 c1
      clear hxk hkx
      go_wp2
      go_quiet (fail)
      go_wp2
      go_roundw
      case rel => exact ⟨k + 1, _, by omega, by go_num, Lib.hid (by rw [HW.out, World.drewN_drewN])⟩
      case measure => simp [intOf]; omega
    · go_wp2
      go_ret
      exact ⟨rfl, _, HW.out⟩

theorem ElemV.of_own {w : World} {base : Nat} {v : Value} {l : List Int} (h : w.ownsRow base 3 1 v l.length (l.map (Value.int .i64))) : ElemV w v l := by
  obtain ⟨a, c, rfl⟩ := ownsRow_slice h
  exact ⟨a, c, rfl, Ints.of_owns h⟩
theorem EV.of_at {w : World} : ∀ {vs : List Value} {ls : List (List Int)}, vs.length = ls.length → (∀ i, i < ls.length → ElemV w (vs[i]?.getD undef) (ls[i]?.getD [])) → EV w vs ls
  | [], [], _, _ => trivial
  | _ :: _, [], h, _ => by simp at h
  | [], _ :: _, h, _ => by simp at h
  | v :: vs, l :: ls, h, k => ⟨by simpa using k 0 (by simp), EV.of_at (by simpa using h) fun i hi => by simpa using k (i + 1) (by simp; omega)⟩

/-- A slice of slices, at an address that may be nil. -/
def ListsA (w : World) (a : Option Addr) (ls : List (List Int)) : Prop := ls = [] ∨ ∃ b, a = some ⟨b, 0, none⟩ ∧ Lists w b 0 ls
theorem ListsA.below {w w' : World} {a : Option Addr} {ls : List (List Int)} (h : ListsA w a ls) (hb : Below w.heap.size w w') : ListsA w' a ls := by
  rcases h with h | ⟨b, e, h⟩
  · exact .inl h
  · exact .inr ⟨b, e, h.below hb⟩
theorem GivesL.lists {ls : List (List Int)} {w w' : World} {v : Value} (h : GivesL ls w v w') : ∃ a c, v = .slice a ls.length c ∧ ListsA w' a ls ∧ Below w.heap.size w w' := by
  obtain ⟨a, c, vs, rfl, hown, hrow, hb⟩ := h
  refine ⟨a, c, rfl, ?_, hb⟩
  rcases hown.2 with ⟨e, h⟩ | ⟨g, cap', cur, e, _⟩
  · exact .inl (List.length_eq_zero_iff.1 (by have := hown.1; omega))
  · cases e
    have he : EV w' vs ls := EV.of_at (by have := hown.1; omega) fun i hi => ElemV.of_own (hrow i hi)
    exact .inr ⟨g, rfl, Lists.of_owns hown he⟩
theorem Lists.at {w : World} {b : Nat} {ls : List (List Int)} (h : Lists w b 0 ls) {j : Nat} (hj : j < ls.length) : ∃ a c, w.cell? ⟨b, j, none⟩ = some (.slice a (ls[j]?.getD []).length c) ∧ Ints w a (ls[j]?.getD []) := by
  obtain ⟨vs, hev, hc⟩ := h
  obtain ⟨a, c, e, hi⟩ := hev.at j hj
  have := hc j hj
  rw [e, Nat.zero_add] at this
  exact ⟨a, c, this, hi⟩

set_option maxRecDepth 100000 in
set_option maxHeartbeats 2000000 in
theorem Cliques_bad {N : Int} {es : List (Int × Int)} (h : graphR N es = false) (a : Option Addr) (m cap : Nat) (w : World) (hl : es.length = m) (hm : m ≤ 1000) (he : Edges w a es) :
    Calls Tryd.prog 29 #[.int .i64 N, .slice a m cap] w (Gives2 (.slice none 0 0) (.int .i64 1) w) := by
  have HC := Lib.hid (graphOf_wrong h a m cap w hl hm he)
  clear h hl he
  go_enter Tryd.func29, Tryd.ntmps29
  go_wp2_with (go_at_call 33; refine HC.out.mono ?_; rintro e w1 ⟨rfl, hb⟩; have HB := Lib.hid hb; clear hb)
  go_ret2
  exact ⟨rfl, HB.out⟩

/-- What stays as the law goes on. -/
def StC (w : World) (B : Nat) (N : Int) (aE : Option Addr) (m cE : Nat) (es : List (Int × Int)) (wc : World) : Prop :=
  Below w.heap.size w wc ∧ Edges wc aE es ∧ wc.cell? ⟨B, 0, none⟩ = some (.int .i64 N) ∧ wc.cell? ⟨B, 1, none⟩ = some (.slice aE m cE)
theorem StC.next {w : World} {B : Nat} {N : Int} {aE : Option Addr} {m cE : Nat} {es : List (Int × Int)} {wc w' : World} (h : StC w B N aE m cE es wc) (hb : Below wc.heap.size wc w') : StC w B N aE m cE es w' := by
  obtain ⟨h1, h2, h5, h6⟩ := h
  exact ⟨h1.trans (hb.mono h1.size), h2.below hb, (hb.cell (World.block_lt_of_cell? wc _ h5)).trans h5, (hb.cell (World.block_lt_of_cell? wc _ h6)).trans h6⟩

end Go.Proofs.YthlbedhjekbfpaaDoor
