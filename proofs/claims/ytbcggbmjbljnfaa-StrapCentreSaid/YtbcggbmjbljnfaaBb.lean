/-
  strap: slices.Reverse of a permutation, 'halfTwist', 'movable'.
-/
import Derived.Test.YtbcggbmjbljnfaaBa
namespace Go.Proofs.Ytbcggbmjbljnfaa
open Go.RowKit Go.Sort

/-- A list, turned round from both ends inwards. -/
def revTo (p : List Nat) (k : Nat) : List Nat := (List.range p.length).map fun i => if i < k ∨ p.length - k ≤ i then p[p.length - 1 - i]?.getD 0 else p[i]?.getD 0
theorem revTo_len (p : List Nat) (k : Nat) : (revTo p k).length = p.length := by simp [revTo]
theorem revTo_zero (p : List Nat) : revTo p 0 = p := by
  refine List.ext_getElem (by simp [revTo]) fun i h1 h2 => ?_
  simp only [revTo, List.getElem_map, List.getElem_range]
  rw [if_neg (by omega), List.getElem?_eq_getElem h2]; rfl
theorem revTo_get (p : List Nat) (k : Nat) {i : Nat} (hi : i < p.length) : (revTo p k)[i]?.getD 0 = if i < k ∨ p.length - k ≤ i then p[p.length - 1 - i]?.getD 0 else p[i]?.getD 0 := by
  rw [List.getElem?_eq_getElem (by rw [revTo_len]; exact hi), Option.getD_some]
  simp only [revTo, List.getElem_map, List.getElem_range]
theorem revTo_next {p : List Nat} {k : Nat} (h : k < p.length - 1 - k) : ((revTo p k).set k (p[p.length - 1 - k]?.getD 0)).set (p.length - 1 - k) (p[k]?.getD 0) = revTo p (k + 1) := by
  refine List.ext_getElem (by simp [revTo]) fun i h1 h2 => ?_
  have hi : i < p.length := by rw [revTo_len] at h2; exact h2
  rw [List.getElem_set, List.getElem_set]
  simp only [revTo, List.getElem_map, List.getElem_range]
  by_cases e1 : p.length - 1 - k = i
  · rw [if_pos e1, if_pos (by omega), show p.length - 1 - i = k by omega]
  · rw [if_neg e1]
    by_cases e2 : k = i
    · subst e2
      rw [if_pos rfl, if_pos (by omega)]
    · rw [if_neg e2]
      by_cases h3 : i < k ∨ p.length - k ≤ i
      · rw [if_pos h3, if_pos (by omega)]
      · rw [if_neg h3, if_neg (by omega)]
theorem revTo_end {p : List Nat} {k : Nat} (h : p.length - 1 - k ≤ k) : revTo p k = p.reverse := by
  refine List.ext_getElem (by simp [revTo]) fun i h1 h2 => ?_
  have hi : i < p.length := by rw [revTo_len] at h1; exact h1
  rw [List.getElem_reverse]
  simp only [revTo, List.getElem_map, List.getElem_range]
  by_cases h3 : i < k ∨ p.length - k ≤ i
  · rw [if_pos h3, List.getElem?_eq_getElem (by omega)]; rfl
  · rw [if_neg h3, List.getElem?_eq_getElem hi, Option.getD_some]
    congr 1; omega

set_option maxRecDepth 100000 in
set_option maxHeartbeats 4000000 in
theorem reverse_any (g n : Nat) (p : List Nat) (w : World) (hl : p.length = n) (h1 : 1 ≤ n) (hn : n ≤ 1000) (hr : RowN w g p) :
    Calls Try.prog 108 #[.slice (some ⟨g, 0, none⟩) n n] w fun e w' => e = .returned (.tuple #[]) ∧ RowN w' g p.reverse ∧ Below g w w' := by
  have HR0 : Hid (RowN w g (revTo p 0) ∧ Below g w w) := Lib.hid ⟨by rw [revTo_zero]; exact hr, Below.refl _ _⟩
  have HL := Lib.hid hl
  clear hr
  go_enter Try.func108, Try.ntmps108
  go_wp2
  go_loopw [2, 3] (fun i j wr => ∃ k : Nat, k ≤ n ∧ i = .int .i64 k ∧ j = .int .i64 ((n : Int) - 1 - k) ∧ Hid (RowN wr g (revTo p k) ∧ Below g w wr)) (fun i _ _ => n - (intOf i).toNat)
  case atStart => exact ⟨0, Nat.zero_le _, rfl, by simp, HR0⟩
  case round =>
    obtain ⟨k, hk, rfl, rfl, HR⟩ := hrel
    by_cases hlt : (k : Int) < (n : Int) - 1 - k
    · obtain ⟨j, hj⟩ : ∃ j : Nat, (n : Int) - 1 - k = j := ⟨n - 1 - k, by omega⟩
      have hjk : p.length - 1 - k = j := by omega
      have hkj : k < j := by omega
      have hjn : j < n := by omega
      have c0 := HR.out.1.at (i := k) (by rw [revTo_len]; omega)
      have c1 := HR.out.1.at (i := j) (by rw [revTo_len]; omega)
      rw [revTo_get p k (by omega), if_neg (by omega)] at c0 c1
      have f0 := HR.out.1.free k
      have f1 := HR.out.1.free j
      have hgl := HR.out.1.lt
      have hs := HR.out.1.put k (p[j]?.getD 0)
      have c2 := hs.at (i := j) (by rw [List.length_set, revTo_len]; omega)
      have f2 := hs.free j
      rw [List.getElem?_set_ne (by omega), revTo_get p k (by omega), if_neg (by omega)] at c2
      have HSW := Lib.hid (hs.put j (p[k]?.getD 0))
      have HNX := Lib.hid (revTo_next (p := p) (k := k) (by omega))
      rw [hjk] at HNX
      rw [HNX.out] at HSW
      obtain ⟨x, hx⟩ : ∃ x, p[k]?.getD 0 = x := ⟨_, rfl⟩
      obtain ⟨y, hy⟩ : ∃ y, p[j]?.getD 0 = y := ⟨_, rfl⟩
      rw [hx] at c0 HSW
      rw [hy] at c1 c2 f2 HSW
      have hkI : (k : Int) < (n : Int) := by omega
      have hjI : (j : Int) < (n : Int) := by omega
      have HJ := Lib.hid hj
      rw [hj] at hlt ⊢
      clear hs hj hx hy HNX hjk
      go_wp2
      go_region_law (fail)
      all_goals
        go_simp
        go_wp2_with (fail)
        go_roundw
        case rel => exact ⟨k + 1, by omega, by go_num, by rw [show ((k + 1 : Nat) : Int) = (k : Int) + 1 by omega]; have := HJ.out; congr 1; omega, Lib.hid (by first | exact ⟨HSW.out, (HR.out.2.setCell (p := ⟨g, k, none⟩) (Nat.le_refl _) _).setCell (p := ⟨g, j, none⟩) (Nat.le_refl _) _⟩ | exact ⟨HSW.out, ((HR.out.2.setCell (p := ⟨g, k, none⟩) (Nat.le_refl _) _).setCell (p := ⟨g, j, none⟩) (Nat.le_refl _) _).drew⟩)⟩
        case measure => simp [intOf]; omega
    · go_wp2
      go_end0
      have h := HR.out.1
      rw [revTo_end (by have := HL.out; omega)] at h
      exact ⟨rfl, h, HR.out.2⟩

/-- The half twist. -/
def halfN (n : Nat) : List Nat := (idN n).reverse
set_option maxRecDepth 100000 in
set_option maxHeartbeats 2000000 in
theorem halfTwist_any (n : Nat) (w : World) (h1 : 1 ≤ n) (hn : n ≤ 1000) : Calls Try.prog 90 #[.int .i64 (n : Int)] w (GivesP (halfN n) w) := by
  have HI := Lib.hid (identity_any n w hn)
  have hil : (idN n).length = n := by simp [idN]
  have HRV := Lib.hid (fun (g : Nat) (wx : World) (hr : RowN wx g (idN n)) => reverse_any g n (idN n) wx hil h1 hn hr)
  have HHL : Hid ((halfN n).length = n) := Lib.hid (by rw [halfN, List.length_reverse, hil])
  unfold GivesP at HI
  rw [hil] at HI
  clear hil
  go_enter Try.func90, Try.ntmps90
  go_wp2_with (first
    | (go_at_call 81; refine HI.out.mono ?_; rintro e w1 ⟨g, rfl, hg, hr, hb⟩; have H1 := Lib.hid (And.intro hr (And.intro hg hb)); clear hr hb)
    | (go_at_call 108; refine (HRV.out _ _ H1.out.1).mono ?_; rintro e w2 ⟨rfl, hr2, hb2⟩; have H2 := Lib.hid (And.intro hr2 hb2); clear hr2 hb2))
  go_ret
  exact ⟨g, by rw [HHL.out]; rfl, H1.out.2.1, H2.out.1, H1.out.2.2.trans (H2.out.2.mono H1.out.2.1)⟩

end Go.Proofs.Ytbcggbmjbljnfaa
