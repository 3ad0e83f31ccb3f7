/-
  The walks of 'noLayers' and of slices.Clone, as the closures want them.
-/
import Derived.Test.YteankhgikpejhaaFf
namespace Go.Proofs.Yteankhgikpejhaa
open Go.RowKit Go.Sort

set_option maxRecDepth 100000 in
set_option maxHeartbeats 1000000 in
theorem noLayers_any (al : Option Addr) (cl n : Nat) (vh vc : Value) (w : World) (h1 : 1 ≤ n) (hn : n ≤ 1000) :
    Calls Try.prog 71 #[.agg #[.slice al n cl, vh, vc]] w
      (Gives (fun v w' => ∃ g, v = .slice (some ⟨g, 0, none⟩) n n ∧ w.heap.size ≤ g ∧ w'.heap[g]? = some (.cells (List.replicate n (Value.int .i64 (-1))).toArray 3 (0, 0))) w) := by
  have HR : Hid (∀ W : World, Calls Try.prog 82 #[.slice (some ⟨W.heap.size, 0, none⟩) 1 1, .int .i64 n] (W.alloc (.cells #[.int .i64 (-1)] 3))
      (Gives (fun v w' => ∃ g, v = .slice (some ⟨g, 0, none⟩) n n ∧ (W.alloc (.cells #[.int .i64 (-1)] 3)).heap.size ≤ g ∧ w'.heap[g]? = some (.cells (List.replicate n (Value.int .i64 (-1))).toArray 3 (0, 0))) (W.alloc (.cells #[.int .i64 (-1)] 3)))) :=
    Lib.hid fun W => repeat_any W.heap.size n (-1) _ h1 hn (World.cell?_alloc_at _ _ _ _ rfl)
  go_enter Try.func71, Try.ntmps71
  go_wp2_with fail
  have h2 := HR.out (w.alloc (.cells #[.slice al n cl, vh, vc] 73))
  rw [World.size_alloc] at h2
  refine h2.mono ?_
  rintro e w1 ⟨v, rfl, ⟨g, rfl, hg, hc⟩, hb⟩
  have Hb := Lib.hid hb
  have Hc := Lib.hid hc
  clear hb hc h2
  go_wp2
  go_ret
  refine ⟨_, rfl, ⟨g, rfl, by simp at hg; omega, Hc.out⟩, ?_⟩
  exact (((Below.refl _ w).alloc (Nat.le_refl _) _).alloc (by simp) _).trans (Hb.out.mono (by simp; omega))

/-- slices.Clone of a slice that owns its row. -/
theorem clone_any (a : Option Addr) (n cap base : Nat) (xs : List Int) (w : World) (h1 : 1 ≤ n) (hn : n ≤ 1000) (h : w.ownsRow base 3 1 (.slice a n cap) n (xs.map (Value.int .i64))) :
    Calls Try.prog 63 #[.slice a n cap] w (Gives (fun v w' => ∃ g c, v = .slice (some ⟨g, 0, none⟩) n c ∧ w'.ownsRow w.heap.size 3 1 v n (xs.map (Value.int .i64))) w) := by
  have hl : xs.length = n := by simpa using h.1
  rcases ints_cells h with h0 | ⟨b, rfl, _, hc⟩
  · subst h0; simp at hl; omega
  refine (Go.Proofs.Try.slices_Clone_int b 0 n cap xs w (by omega) (by omega) (fun j hj => by rw [Nat.zero_add, hc j hj]; simp)).mono ?_
  rintro e w' ⟨v, rfl, ho, hne, hb⟩
  rw [← hl, List.take_length] at ho
  obtain ⟨m, rfl⟩ : ∃ m, n = m + 1 := ⟨n - 1, by omega⟩
  rw [hl] at ho
  obtain ⟨g, c, rfl⟩ := ownsRow_succ' ho
  exact ⟨_, rfl, ⟨g, c, rfl, ho⟩, hb⟩

end Go.Proofs.Yteankhgikpejhaa
