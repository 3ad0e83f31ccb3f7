/-
  strap: slices.Equal of permutations and of rows, 'flipped'.
-/
import Derived.Test.YtbcggbmjbljnfaaBe
namespace Go.Proofs.Ytbcggbmjbljnfaa
open Go.RowKit Go.Sort

theorem ext_getD {p q : List Nat} (hl : p.length = q.length) (h : ∀ j, j < p.length → p[j]?.getD 0 = q[j]?.getD 0) : p = q := by
  refine List.ext_getElem hl fun i h1 h2 => ?_
  have := h i h1
  rwa [List.getElem?_eq_getElem h1, List.getElem?_eq_getElem h2] at this

set_option maxRecDepth 100000 in
set_option maxHeartbeats 4000000 in
theorem equalP_any (a b : Option Addr) (m l cp cq : Nat) (p q : List Nat) (w : World) (hp : p.length = m) (hq : q.length = l) (hm : m ≤ 1000) (hza : Nats w a p) (hzb : Nats w b q) :
    Calls Try.prog 89 #[.slice a m cp, .slice b l cq] w fun e w' => e = .returned (.bool (decide (p = q))) ∧ Below w.heap.size w w' := by
  by_cases hml : m = l
  · subst hml
    have HA := Lib.hid hza.at
    have HB := Lib.hid hzb.at
    have HPL := Lib.hid hp
    have HQL := Lib.hid hq
    have HNE : Hid (∀ k : Nat, p[k]?.getD 0 ≠ q[k]?.getD 0 → decide (p = q) = false) := Lib.hid (fun k h => decide_eq_false fun e => h (by rw [e]))
    have HEQ : Hid ((∀ j : Nat, j < m → p[j]?.getD 0 = q[j]?.getD 0) → decide (p = q) = true) := Lib.hid (fun h => decide_eq_true (ext_getD (by rw [hp, hq]) (fun j hj => h j (by rw [← hp]; exact hj))))
    clear hza hzb hp hq
    go_enter Try.func89, Try.ntmps89
    go_wp2
    go_loopw [13, 5] (fun i _ wr => ∃ k : Nat, k ≤ m ∧ i = .int .i64 k ∧ Hid (∀ j, j < k → p[j]?.getD 0 = q[j]?.getD 0) ∧ Hid (Below w.heap.size w wr)) (fun i _ _ => m - (intOf i).toNat)
    case atStart => exact ⟨0, Nat.zero_le _, rfl, Lib.hid (fun j hj => by omega), Lib.hid (Below.refl _ _)⟩
    case round =>
      obtain ⟨k, hk, rfl, HP, HW⟩ := hrel
      by_cases hlt : k < m
      · have hkI : (k : Int) < (m : Int) := by omega
        rcases HA.out with h | ⟨ba, oa, rfl, hca⟩
        · have := HPL.out; rw [h] at this; simp at this; omega
        rcases HB.out with h | ⟨bb, ob, rfl, hcb⟩
        · have := HQL.out; rw [h] at this; simp at this; omega
        have c0 := (HW.out.cell (p := ⟨ba, oa + k, none⟩) (World.block_lt_of_cell? w _ (hca k (by rw [HPL.out]; exact hlt)))).trans (hca k (by rw [HPL.out]; exact hlt))
        have c1 := (HW.out.cell (p := ⟨bb, ob + k, none⟩) (World.block_lt_of_cell? w _ (hcb k (by rw [HQL.out]; exact hlt)))).trans (hcb k (by rw [HQL.out]; exact hlt))
        have HN := Lib.hid (HNE.out k)
        have HNX : Hid (p[k]?.getD 0 = q[k]?.getD 0 → ∀ j, j < k + 1 → p[j]?.getD 0 = q[j]?.getD 0) := Lib.hid (fun h j hj => by
          by_cases e : j = k
          · rw [e]; exact h
          · exact HP.out j (by omega))
        obtain ⟨x, hx⟩ : ∃ x, p[k]?.getD 0 = x := ⟨_, rfl⟩
        obtain ⟨y, hy⟩ : ∃ y, q[k]?.getD 0 = y := ⟨_, rfl⟩
        rw [hx] at c0 HN HNX
        rw [hy] at c1 HN HNX
        clear hca hcb hx hy
        by_cases hxy : x = y
        · have HF := Lib.hid (HNX.out hxy)
          subst hxy
          clear HN HNX
          go_wp2
          go_quiet (fail)
          go_wp2
          go_roundw
          case rel => exact ⟨k + 1, by omega, by go_num, HF, Lib.hid (below_drewN HW.out _)⟩
          case measure => simp [intOf]; omega
        · have HF := Lib.hid (HN.out hxy)
          have hne : ¬ ((x : Int) = (y : Int)) := by omega
          clear HN HNX
          go_wp2
          go_quiet (fail)
          go_wp2
          go_ret
          exact ⟨by rw [HF.out]; rfl, below_drewN HW.out _⟩
      · obtain rfl : k = m := by omega
        have HF := Lib.hid (HEQ.out HP.out)
        go_wp2
        go_ret
        exact ⟨by rw [HF.out]; rfl, HW.out⟩
  · have hI : ¬ ((m : Int) = (l : Int)) := by omega
    have HF : Hid (decide (p = q) = false) := Lib.hid (decide_eq_false fun e => hml (by rw [← hp, ← hq, e]))
    go_enter Try.func89, Try.ntmps89
    go_wp2
    go_ret
    exact ⟨by rw [HF.out]; rfl, Below.refl _ _⟩

set_option maxRecDepth 100000 in
set_option maxHeartbeats 4000000 in
theorem equalR_any (a b : Option Addr) (m l cp cq : Nat) (p q : List Nat) (w : World) (hp : p.length = m) (hq : q.length = l) (hm : m ≤ 1000) (hza : Nats w a p) (hzb : Nats w b q) :
    Calls Try.prog 70 #[.slice a m cp, .slice b l cq] w fun e w' => e = .returned (.bool (decide (p = q))) ∧ Below w.heap.size w w' := by
  by_cases hml : m = l
  · subst hml
    have HA := Lib.hid hza.at
    have HB := Lib.hid hzb.at
    have HPL := Lib.hid hp
    have HQL := Lib.hid hq
    have HNE : Hid (∀ k : Nat, p[k]?.getD 0 ≠ q[k]?.getD 0 → decide (p = q) = false) := Lib.hid (fun k h => decide_eq_false fun e => h (by rw [e]))
    have HEQ : Hid ((∀ j : Nat, j < m → p[j]?.getD 0 = q[j]?.getD 0) → decide (p = q) = true) := Lib.hid (fun h => decide_eq_true (ext_getD (by rw [hp, hq]) (fun j hj => h j (by rw [← hp]; exact hj))))
    clear hza hzb hp hq
    go_enter Try.func70, Try.ntmps70
    go_wp2
    go_loopw [13, 5] (fun i _ wr => ∃ k : Nat, k ≤ m ∧ i = .int .i64 k ∧ Hid (∀ j, j < k → p[j]?.getD 0 = q[j]?.getD 0) ∧ Hid (Below w.heap.size w wr)) (fun i _ _ => m - (intOf i).toNat)
    case atStart => exact ⟨0, Nat.zero_le _, rfl, Lib.hid (fun j hj => by omega), Lib.hid (Below.refl _ _)⟩
    case round =>
      obtain ⟨k, hk, rfl, HP, HW⟩ := hrel
      by_cases hlt : k < m
      · have hkI : (k : Int) < (m : Int) := by omega
        rcases HA.out with h | ⟨ba, oa, rfl, hca⟩
        · have := HPL.out; rw [h] at this; simp at this; omega
        rcases HB.out with h | ⟨bb, ob, rfl, hcb⟩
        · have := HQL.out; rw [h] at this; simp at this; omega
        have c0 := (HW.out.cell (p := ⟨ba, oa + k, none⟩) (World.block_lt_of_cell? w _ (hca k (by rw [HPL.out]; exact hlt)))).trans (hca k (by rw [HPL.out]; exact hlt))
        have c1 := (HW.out.cell (p := ⟨bb, ob + k, none⟩) (World.block_lt_of_cell? w _ (hcb k (by rw [HQL.out]; exact hlt)))).trans (hcb k (by rw [HQL.out]; exact hlt))
        have HN := Lib.hid (HNE.out k)
        have HNX : Hid (p[k]?.getD 0 = q[k]?.getD 0 → ∀ j, j < k + 1 → p[j]?.getD 0 = q[j]?.getD 0) := Lib.hid (fun h j hj => by
          by_cases e : j = k
          · rw [e]; exact h
          · exact HP.out j (by omega))
        obtain ⟨x, hx⟩ : ∃ x, p[k]?.getD 0 = x := ⟨_, rfl⟩
        obtain ⟨y, hy⟩ : ∃ y, q[k]?.getD 0 = y := ⟨_, rfl⟩
        rw [hx] at c0 HN HNX
        rw [hy] at c1 HN HNX
        clear hca hcb hx hy
        by_cases hxy : x = y
        · have HF := Lib.hid (HNX.out hxy)
          subst hxy
          clear HN HNX
          go_wp2
          go_quiet (fail)
          go_wp2
          go_roundw
          case rel => exact ⟨k + 1, by omega, by go_num, HF, Lib.hid (below_drewN HW.out _)⟩
          case measure => simp [intOf]; omega
        · have HF := Lib.hid (HN.out hxy)
          have hne : ¬ ((x : Int) = (y : Int)) := by omega
          clear HN HNX
          go_wp2
          go_quiet (fail)
          go_wp2
          go_ret
          exact ⟨by rw [HF.out]; rfl, below_drewN HW.out _⟩
      · obtain rfl : k = m := by omega
        have HF := Lib.hid (HEQ.out HP.out)
        go_wp2
        go_ret
        exact ⟨by rw [HF.out]; rfl, HW.out⟩
  · have hI : ¬ ((m : Int) = (l : Int)) := by omega
    have HF : Hid (decide (p = q) = false) := Lib.hid (decide_eq_false fun e => hml (by rw [← hp, ← hq, e]))
    go_enter Try.func70, Try.ntmps70
    go_wp2
    go_ret
    exact ⟨by rw [HF.out]; rfl, Below.refl _ _⟩

/-- What becomes of a permutation when a half twist passes it. -/
def flipN (n : Nat) (p : List Nat) : List Nat := thenN (thenN (halfN n) p) (halfN n)
theorem halfN_in (n : Nat) : InN n (halfN n) := ⟨by simp [halfN, idN], fun x hx => by simpa [halfN, idN] using hx⟩
set_option maxRecDepth 100000 in
set_option maxHeartbeats 4000000 in
theorem flipped_any (a : Option Addr) (n cp : Nat) (p : List Nat) (w : World) (hp : InN n p) (h1 : 1 ≤ n) (hn : n ≤ 100) (hza : Nats w a p) :
    Calls Try.prog 107 #[.slice a n cp] w (GivesP (flipN n p) w) := by
  have HT := Lib.hid (halfTwist_any n w h1 (by omega))
  have hh := halfN_in n
  have ht := thenN_in hh hp
  have HZ := Lib.hid hza
  have HA1 := Lib.hid (fun (g : Nat) (wx : World) (hx : Nats wx (some ⟨g, 0, none⟩) (halfN n)) (hy : Nats wx a p) => then_any (some ⟨g, 0, none⟩) a n n cp (halfN n) p wx hh hp.1 (by omega) hx hy)
  have HA2 := Lib.hid (fun (g g' : Nat) (wx : World) (hx : Nats wx (some ⟨g, 0, none⟩) (thenN (halfN n) p)) (hy : Nats wx (some ⟨g', 0, none⟩) (halfN n)) => then_any (some ⟨g, 0, none⟩) (some ⟨g', 0, none⟩) n n n (thenN (halfN n) p) (halfN n) wx ht hh.1 (by omega) hx hy)
  have hl := (thenN_in ht hh).1
  unfold GivesP at HT HA1 HA2 ⊢
  rw [flipN, hl]
  rw [hl] at HA2
  rw [ht.1] at HA1
  rw [hh.1] at HT
  obtain ⟨h2, e2⟩ : ∃ h2, halfN n = h2 := ⟨_, rfl⟩
  rw [e2] at HT HA1 HA2 ⊢
  obtain ⟨p2, e3⟩ : ∃ p2, thenN h2 p = p2 := ⟨_, rfl⟩
  rw [e3] at HA1 HA2 ⊢
  obtain ⟨p3, e4⟩ : ∃ p3, thenN p2 h2 = p3 := ⟨_, rfl⟩
  rw [e4] at HA2 ⊢
  clear hh ht hl e2 e3 e4 hza hp
  go_enter Try.func107, Try.ntmps107
  go_wp2_with (fail)
  refine HT.out.mono ?_
  rintro e w1 ⟨g, rfl, hg, hr, hb⟩
  have H1 := Lib.hid (And.intro hr (And.intro (HZ.out.below hb) hb))
  clear hr hb
  go_wp2_with (fail)
  refine (HA1.out g w1 H1.out.1.nats H1.out.2.1).mono ?_
  rintro e w2 ⟨g2, rfl, hg2, hr2, hb2⟩
  have H2 := Lib.hid (And.intro hr2 (And.intro (H1.out.1.below hb2) (H1.out.2.2.trans (hb2.mono H1.out.2.2.size))))
  clear hr2 hb2
  go_wp2_with (fail)
  refine (HA2.out g2 g w2 H2.out.1.nats H2.out.2.1.nats).mono ?_
  rintro e w3 ⟨g3, rfl, hg3, hr3, hb3⟩
  have H3 := Lib.hid (And.intro hr3 (H2.out.2.2.trans (hb3.mono H2.out.2.2.size)))
  clear hr3 hb3
  go_wp2_with (fail)
  go_ret
  exact ⟨g3, rfl, by have := H2.out.2.2.size; omega, H3.out.1, H3.out.2⟩

end Go.Proofs.Ytbcggbmjbljnfaa
