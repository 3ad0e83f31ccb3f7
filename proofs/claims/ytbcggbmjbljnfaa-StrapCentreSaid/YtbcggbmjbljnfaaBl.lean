/-
  strap: 'normalForms' and its letter, 'ofWord' for normal forms.
-/
import Derived.Test.YtbcggbmjbljnfaaBk
import Derived.Laws.EntriesVeiled
namespace Go.Proofs.Ytbcggbmjbljnfaa
open Go.RowKit Go.Sort

theorem prodTo_len {f n : Nat} : ∀ {l : List (List Nat)} {a r : Int × List (List Nat)}, prodTo f n a l = some r → a.1 ≤ r.1 ∧ r.2.length ≤ a.2.length + l.length ∧ r.1 + r.2.length ≤ a.1 + a.2.length + l.length
  | [], a, r, h => by simp only [prodTo] at h; cases h; refine ⟨Int.le_refl _, by simp, by simp⟩
  | s :: l, a, r, h => by
    unfold prodTo at h
    cases hf : folN f n a s with
    | none => rw [hf] at h; cases h
    | some r' =>
      rw [hf] at h
      have h1 := folN_len hf
      have h2 := prodTo_len h
      simp only [List.length_cons]
      omega
theorem prodN_len {f n : Nat} {a b r : Int × List (List Nat)} (h : prodN f n a b = some r) : a.1 + b.1 ≤ r.1 ∧ r.2.length ≤ a.2.length + b.2.length ∧ r.1 + r.2.length ≤ a.1 + b.1 + a.2.length + b.2.length := by
  have := prodTo_len h
  simp only [flips, List.length_map] at this
  exact this
theorem letN_len {f n : Nat} {z : Int} {l : Int × List (List Nat)} (h : letN f n z = some l) : -1 ≤ l.1 ∧ l.2.length ≤ 1 ∧ l.1 + l.2.length ≤ 1 := by
  unfold letN at h
  split at h
  · have := folN_len h; simp at this; omega
  · have := folN_len h; simp at this; omega
/-- The normal form of a word, letter by letter. -/
def normTo (f n : Nat) : Int × List (List Nat) → List Int → Option (Int × List (List Nat))
  | r, [] => some r
  | r, z :: zs => match letN f n z with
    | none => none
    | some l => match prodN f n r l with
      | none => none
      | some r' => normTo f n r' zs
theorem normTo_next {f n : Nat} {a r : Int × List (List Nat)} {z : Int} {zs : List Int} (h : normTo f n a (z :: zs) = some r) : ∃ l r', letN f n z = some l ∧ prodN f n a l = some r' ∧ normTo f n r' zs = some r := by
  unfold normTo at h
  cases hl : letN f n z with
  | none => rw [hl] at h; cases h
  | some l =>
    rw [hl] at h
    simp only [] at h
    cases hp : prodN f n a l with
    | none => rw [hp] at h; cases h
    | some r' => rw [hp] at h; exact ⟨l, r', rfl, hp, h⟩

set_option maxRecDepth 100000 in
set_option maxHeartbeats 4000000 in
theorem formLetter_any (n f b : Nat) (z : Int) (r : Int × List (List Nat)) (w : World) (h1 : 2 ≤ n) (hn : n ≤ 100) (hz0 : z ≠ 0) (hz1 : -(n : Int) < z) (hz2 : z < n) (hq : letN f n z = some r) (hc : w.cell? ⟨b, 0, none⟩ = some (.int .i64 (n : Int))) :
    Calls Try.prog 85 #[.int .i64 z, .pointer (some ⟨b, 0, none⟩)] w (GivesB n r.1 r.2 w) := by
  obtain ⟨w0, hw0⟩ : ∃ w0, w.alloc (.cells #[.int .i64 0, .slice none 0 0] 37) = w0 := ⟨_, rfl⟩
  have H0 : Hid (Below w.heap.size w w0 ∧ BrBox w0 n w.heap.size 0 [] ∧ w.alloc (.cells #[.int .i64 0, .slice none 0 0] 37) = w0) := Lib.hid (by
    refine ⟨?_, ?_, hw0⟩
    · rw [← hw0]; exact (Below.refl _ w).alloc (Nat.le_refl _) _
    · rw [← hw0]; exact ⟨_, heap_alloc_new w _, FacV.nil _ _⟩)
  have hs0 : w0.heap.size = w.heap.size + 1 := by rw [← hw0]; simp
  have HLT := Lib.hid (letter_any n f z r w0 h1 hn hz0 hz1 hz2 hq)
  have hlt := World.block_lt_of_cell? w _ hc
  have c0 := (H0.out.1.cell (p := ⟨b, 0, none⟩) hlt).trans hc
  clear hq hw0
  go_enter Try.func85, Try.ntmps85
  go_wp2_with (fail)
  try rw [H0.out.2.2]
  refine HLT.out.mono ?_
  rintro e w3 ⟨v, rfl, ⟨fv, rfl, hf⟩, hb3⟩
  have hbx := H0.out.2.1.below hb3
  have hbw := H0.out.1.trans (hb3.mono H0.out.1.size)
  have H3 := Lib.hid (And.intro hbw (hbx.put (pw' := r.1) h1 hf))
  obtain ⟨fx, hbl, ax, cx, vx, rfl, _⟩ := hbx
  obtain ⟨af, cf, vf, rfl, _⟩ := hf
  have k0 := box_cell0 hbl
  have k1 := box_cell1 hbl
  have f0 := row_free hbl 0
  have f1 := row_free hbl 1
  clear hbl hb3 hbw
  go_wp2_with (fail)
  obtain ⟨hbw, fy, hby, hfy⟩ := H3.out
  refine bodyPost_ret_by (results_cell_row (P := Try.prog) rfl _ _ w.heap.size 37 #[.int .i64 r.1, fy] (0, 0) _ rfl hby Try.underlying37 rfl (by kernel_rfl)) rfl ?_
  exact ⟨_, rfl, ⟨_, rfl, hfy⟩, (hbw.setCell (p := ⟨w.heap.size, 0, none⟩) (by simp) _).setCell (p := ⟨w.heap.size, 1, none⟩) (by simp) _⟩

/-- The normal forms' image. -/
def imgB (b : Nat) : Value := .agg #[.int .i64 0, .slice none 0 0, .func (.func 85) #[] #[.pointer (some ⟨b, 0, none⟩)], .func (.func 87) #[] #[]]
set_option maxRecDepth 100000 in
set_option maxHeartbeats 4000000 in
theorem forms_any (n : Nat) (w : World) :
    Calls Try.prog 59 #[.int .i64 (n : Int)] w (fun e w' => ∃ b, e = .returned (imgB b) ∧ w'.cell? ⟨b, 0, none⟩ = some (.int .i64 (n : Int)) ∧ Below w.heap.size w w') := by
  go_enter Try.func59, Try.ntmps59
  go_wp2_with (fail)
  have h0 : ((w.alloc (.cells #[.int .i64 (n : Int)] 3)).alloc (.cells #[.int .i64 0, .slice none 0 0, .func (.func 85) #[] #[.pointer (some ⟨w.heap.size, 0, none⟩)], .func (.func 87) #[] #[]] 93)).heap[w.heap.size]? = some (.cells #[.int .i64 (n : Int)] 3 (0, 0)) := by
    rw [Below.heap_alloc _ _ _ (by simp)]; exact heap_alloc_new w _
  have h1 : ((w.alloc (.cells #[.int .i64 (n : Int)] 3)).alloc (.cells #[.int .i64 0, .slice none 0 0, .func (.func 85) #[] #[.pointer (some ⟨w.heap.size, 0, none⟩)], .func (.func 87) #[] #[]] 93)).heap[w.heap.size + 1]? = some (.cells #[.int .i64 0, .slice none 0 0, .func (.func 85) #[] #[.pointer (some ⟨w.heap.size, 0, none⟩)], .func (.func 87) #[] #[]] 93 (0, 0)) := by
    rw [show w.heap.size + 1 = (w.alloc (.cells #[.int .i64 (n : Int)] 3)).heap.size by simp]; exact heap_alloc_new _ _
  refine bodyPost_ret_by (results_cell_row (P := Try.prog) rfl _ _ (w.heap.size + 1) 93 _ (0, 0) _ rfl h1 Try.underlying93 rfl (by kernel_rfl)) rfl ?_
  exact ⟨w.heap.size, rfl, by simp [World.cell?, h0], ((Below.refl _ w).alloc (Nat.le_refl _) _).alloc (by simp) _⟩

end Go.Proofs.Ytbcggbmjbljnfaa
