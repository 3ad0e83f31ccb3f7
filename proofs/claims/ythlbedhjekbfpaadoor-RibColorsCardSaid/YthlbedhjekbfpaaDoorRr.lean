/-
  No run of an operation draws back: the count of draws only grows. So a call that keeps all that lay is a growth in the sort's sense.
-/
import Derived.Test.YthlbedhjekbfpaaDoorRq
import Derived.Sort.Grow
namespace Go.Proofs.YthlbedhjekbfpaaDoor
open Go.RowKit Go.Sort

theorem ask_drawn {α : Type} : ∀ (a : Ask α) (w : World), w.drawn ≤ (w.ask a).2.drawn
  | .done _, _ => Nat.le_refl _
  | .ask what range k, w => by
    unfold World.ask
    simp only []
    split
    · exact ask_drawn _ w
    · exact Nat.le_trans (Nat.le_succ _) (ask_drawn _ { w with drawn := w.drawn + 1 })
theorem sys_drawn (w : World) (c : Sys) : w.drawn ≤ (w.sys c).2.drawn := by
  have h := ask_drawn (Kernel.perform c w.os) w
  unfold World.sys
  split
  · exact Nat.le_refl _
  · next r os w' e => rw [e] at h; exact h
theorem viewStore_drawn {p : Program} {w : World} {at_ : Addr} {u : TypeId} {k : Addr} {v : Value} {b : Bool} {r : World × List Addr} (h : w.viewStore p at_ u k v b = .ok r) : r.1.drawn = w.drawn := by
  unfold World.viewStore at h
  simp only [bind, Except.bind, pure, Except.pure] at h
  repeat' split at h
  all_goals first
    | (cases h; done)
    | (injection h with h; subst h; rfl)
theorem farStore_drawn {p : Program} {w : World} {a : Addr} {v : Value} {b : Bool} {r : World × List Addr} (h : w.farStore p a v b = .ok r) : r.1.drawn = w.drawn := by
  unfold World.farStore at h
  split at h
  · split at h
    · injection h with h; subst h
      next h' => exact viewStore_drawn h'
    · cases h
  · cases h
theorem freeze_drawn (w : World) (a : Addr) (n : Nat) : (w.freeze a n).drawn = w.drawn := by
  unfold World.freeze; split <;> rfl
theorem run_drawn {α : Type} (p : Program) : ∀ (s : Sem α) (w w' : World) (v : α), s.run p w = .ok v w' → w.drawn ≤ w'.drawn := by
  intro s
  induction s with
  | pure a => intro w w' v h; simp only [Sem.run, Result.ok.injEq] at h; rw [h.2]; exact Nat.le_refl _
  | load m a k ih =>
    intro w w' v h
    simp only [Sem.run] at h
    split at h
    · exact ih _ _ _ _ h
    · split at h
      · exact ih _ _ _ _ h
      · cases h
  | store m a u k ih =>
    intro w w' v h
    cases u
    all_goals simp only [Sem.run] at h
    all_goals first
      | (cases h; done)
      | (split at h
         · split at h
           · cases h
           · have h2 := ih _ _ _ h
             exact h2
         · split at h
           · next e => rw [← farStore_drawn e]; exact ih _ _ _ h
           · cases h)
  | new o k ih => intro w w' v h; simp only [Sem.run] at h; have h2 := ih _ _ _ _ h; exact h2
  | shape r k ih => intro w w' v h; simp only [Sem.run] at h; exact ih _ _ _ _ h
  | freeze a n k ih => intro w w' v h; simp only [Sem.run] at h; rw [← freeze_drawn w a n]; exact ih _ _ _ h
  | frozen a k ih => intro w w' v h; simp only [Sem.run] at h; exact ih _ _ _ _ h
  | getObj r k ih =>
    intro w w' v h
    simp only [Sem.run] at h
    split at h
    · cases h
    · exact ih _ _ _ _ h
    · cases h
  | setObj r o k ih =>
    intro w w' v h
    simp only [Sem.run] at h
    split at h
    · cases h
    · have h2 := ih _ _ _ h
      exact h2
    · cases h
  | choose q k ih =>
    intro w w' v h
    simp only [Sem.run] at h
    split at h
    · exact ih _ _ _ _ h
    · exact Nat.le_trans (Nat.le_succ _) (ih _ _ _ _ h)
  | sys c k ih => intro w w' v h; simp only [Sem.run] at h; exact Nat.le_trans (sys_drawn w c) (ih _ _ _ _ h)
  | program k ih => intro w w' v h; simp only [Sem.run] at h; exact ih _ _ _ _ h
  | mark m k ih => intro w w' v h; simp only [Sem.run] at h; exact ih _ _ _ h
  | halt e => intro w w' v h; cases h

/-- The world has grown as a sort's call may: nothing that lay has turned; draws may be on. -/
def Grew (w w' : World) : Prop := Below w.heap.size w w' ∧ w.drawn ≤ w'.drawn
theorem Grew.refl (w : World) : Grew w w := ⟨Below.refl _ _, Nat.le_refl _⟩
theorem Grew.trans {a b c : World} (h : Grew a b) (k : Grew b c) : Grew a c := ⟨h.1.trans (k.1.mono h.1.size), Nat.le_trans h.2 k.2⟩
theorem Grew.alloc {w w' : World} (h : Grew w w') (o : Obj) : Grew w (w'.alloc o) := ⟨h.1.alloc h.1.size o, h.2⟩
theorem Grew.grow {w w' : World} (h : Grew w w') : ∃ q os', w' = Sort.grow (w.drewN q) os' := by
  obtain ⟨hb, hd⟩ := h
  refine ⟨w'.drawn - w.drawn, w'.heap.extract w.heap.size w'.heap.size, ?_⟩
  obtain ⟨heap', tape', drawn', os', output'⟩ := w'
  obtain ⟨heap, tape, drawn, os, output⟩ := w
  have h1 := hb.os
  have h2 := hb.tape
  have h3 := hb.output
  have h4 := hb.size
  have h5 := hb.block
  simp only at h1 h2 h3 h4 h5 hd
  subst h1 h2 h3
  have e1 : heap' = heap ++ heap'.extract heap.size heap'.size := by
    refine Array.ext (by simp; omega) fun i hi hi2 => ?_
    by_cases h : i < heap.size
    · have := h5 i h
      rw [Array.getElem?_eq_getElem hi, Array.getElem?_eq_getElem h] at this
      rw [Array.getElem_append_left h]
      simpa using this
    · rw [Array.getElem_append_right (by omega), Array.getElem_extract]
      congr 1; omega
  have e2 : drawn + (drawn' - drawn) = drawn' := by omega
  show _ = ({ heap := heap ++ heap'.extract heap.size heap'.size, tape := tape', drawn := drawn + (drawn' - drawn), os := os', output := output' } : World)
  rw [← e1, e2]

end Go.Proofs.YthlbedhjekbfpaaDoor
