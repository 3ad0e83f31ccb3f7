/-
  Clique trees, pure: pairs that join parts are a forest.
-/
import Derived.Test.YtdlfoompfaipnaaUg
namespace Go.Proofs.Ytdlfoompfaipnaa

/-- How many different numbers a list has. -/
def distinct : List Int → Nat
  | [] => 0
  | x :: l => if x ∈ l then distinct l else distinct l + 1
def repl (f u : Int) (x : Int) : Int := if x = f then u else x
theorem repl_f (f u : Int) : repl f u f = u := by simp [repl]
theorem repl_ne {f u x : Int} (h : x ≠ f) : repl f u x = x := by simp [repl, h]
theorem distinct_le : ∀ l : List Int, distinct l ≤ l.length
  | [] => Nat.le_refl _
  | x :: l => by
    have := distinct_le l
    rw [distinct, List.length_cons]; split <;> omega
theorem distinct_pos : ∀ l : List Int, l ≠ [] → 1 ≤ distinct l
  | [], h => absurd rfl h
  | x :: l, _ => by
    rw [distinct]
    split
    · rename_i hx
      exact distinct_pos l (fun e => by subst e; simp at hx)
    · omega
theorem distinct_repl (f u : Int) : ∀ l : List Int, distinct (l.map (repl f u)) ≤ distinct l
  | [] => Nat.le_refl _
  | x :: l => by
    have ih := distinct_repl f u l
    rw [List.map_cons, distinct, distinct]
    by_cases hx : x ∈ l
    · rw [if_pos hx, if_pos (List.mem_map.2 ⟨x, hx, rfl⟩)]; exact ih
    · rw [if_neg hx]; split <;> omega
theorem distinct_join {f u : Int} (hfu : f ≠ u) : ∀ l : List Int, f ∈ l → u ∈ l → distinct (l.map (repl f u)) + 1 ≤ distinct l
  | [], h, _ => by simp at h
  | x :: l, hf, hu => by
    have le := distinct_repl f u l
    have uf : f ∈ l → u ∈ l.map (repl f u) := fun h => List.mem_map.2 ⟨f, h, repl_f f u⟩
    have uu : u ∈ l → u ∈ l.map (repl f u) := fun h => List.mem_map.2 ⟨u, h, repl_ne fun e => hfu e.symm⟩
    rw [List.map_cons, distinct, distinct]
    rcases List.mem_cons.1 hf with e | hf'
    · subst e
      rw [repl_f]
      have hu' : u ∈ l := by
        rcases List.mem_cons.1 hu with e | h
        · exact absurd e.symm hfu
        · exact h
      rw [if_pos (uu hu')]
      by_cases hfl : f ∈ l
      · rw [if_pos hfl]; exact distinct_join hfu l hfl hu'
      · rw [if_neg hfl]; omega
    · rcases List.mem_cons.1 hu with e | hu'
      · subst e
        rw [repl_ne fun e => hfu e.symm, if_pos (uf hf')]
        by_cases hul : u ∈ l
        · rw [if_pos hul]; exact distinct_join hfu l hf' hul
        · rw [if_neg hul]; omega
      · have ih := distinct_join hfu l hf' hu'
        by_cases hxl : x ∈ l
        · rw [if_pos hxl, if_pos (List.mem_map.2 ⟨x, hxl, rfl⟩)]; exact ih
        · rw [if_neg hxl]; split <;> omega

/-- A pair's both ends are in a list. -/
def inBoth (X : List Nat) (p : Int × Int) : Bool := decide (p.1.toNat ∈ X) && decide (p.2.toNat ∈ X)
def edgesIn (X : List Nat) (t : List (Int × Int)) : Nat := (t.filter (inBoth X)).length
theorem forest (c : Nat) : ∀ (t : List (Int × Int)) (ps : List Int) (X : List Nat), treeFrom c t ps = true → ps.length = c → (∀ x ∈ X, x < c) → X ≠ [] → edgesIn X t + 1 ≤ distinct (X.map fun x => ps[x]?.getD 0)
  | [], ps, X, _, _, _, hX => by
    simp only [edgesIn, List.filter_nil, List.length_nil, Nat.zero_add]
    exact distinct_pos _ (by simpa using hX)
  | p :: t, ps, X, h, hl, hc, hX => by
    rw [treeFrom] at h
    split at h
    · cases h
    split at h
    · cases h
    split at h
    · cases h
    rename_i h1 h2 h3
    rw [Bool.and_eq_true] at h
    obtain ⟨hne, ht⟩ := h
    obtain ⟨f, hf⟩ : ∃ f, ps[p.1.toNat]?.getD 0 = f := ⟨_, rfl⟩
    obtain ⟨u, hu⟩ : ∃ u, ps[p.2.toNat]?.getD 0 = u := ⟨_, rfl⟩
    rw [hf, hu] at hne ht
    have hfu : f ≠ u := by simpa using hne
    have ih := forest c t _ X ht (by simp [joinL, hl]) hc hX
    have e : (X.map fun x => (joinL ps f u)[x]?.getD 0) = (X.map fun x => ps[x]?.getD 0).map (repl f u) := by
      rw [List.map_map]
      refine List.map_congr_left fun x hx => ?_
      have hxl : x < ps.length := by rw [hl]; exact hc x hx
      simp [joinL, repl, hxl]
    rw [e] at ih
    rw [edgesIn, List.filter_cons]
    by_cases hb : inBoth X p = true
    · rw [if_pos hb, List.length_cons]
      simp only [inBoth, Bool.and_eq_true, decide_eq_true_eq] at hb
      have := distinct_join hfu (X.map fun x => ps[x]?.getD 0) (List.mem_map.2 ⟨_, hb.1, hf⟩) (List.mem_map.2 ⟨_, hb.2, hu⟩)
      simp only [edgesIn] at ih
      omega
    · rw [if_neg hb]
      have := distinct_repl f u (X.map fun x => ps[x]?.getD 0)
      simp only [edgesIn] at ih
      omega
/-- Among some cliques there are fewer pairs of a tree than cliques. -/
theorem forest_le {c : Nat} {t : List (Int × Int)} (h : treeFrom c t (partsI c) = true) {X : List Nat} (hc : ∀ x ∈ X, x < c) (hX : X ≠ []) : edgesIn X t + 1 ≤ X.length := by
  have := forest c t (partsI c) X h (by simp [partsI]) hc hX
  have h2 := distinct_le (X.map fun x => (partsI c)[x]?.getD 0)
  rw [List.length_map] at h2
  omega

end Go.Proofs.Ytdlfoompfaipnaa
