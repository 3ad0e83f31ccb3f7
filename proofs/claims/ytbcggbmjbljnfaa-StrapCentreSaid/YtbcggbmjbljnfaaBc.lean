/-
  strap: 'movable', 'settled', 'check'.
-/
import Derived.Test.YtbcggbmjbljnfaaBb
import Derived.Deep.LoopGhost
namespace Go.Proofs.Ytbcggbmjbljnfaa
open Go.RowKit Go.Sort

/-- Whether a letter can move, and the least one that can. -/
def movAt (inv t : List Nat) (i : Nat) : Bool := decide (t[i + 1]?.getD 0 < t[i]?.getD 0) && decide (inv[i]?.getD 0 < inv[i + 1]?.getD 0)
def movN (n : Nat) (s t : List Nat) : Option Nat := (List.range (n - 1)).find? (movAt (invTo s n) t)
theorem movN_here {n k : Nat} {s t : List Nat} (h : ∀ j, j < k → movAt (invTo s n) t j = false) (hk : k + 1 < n) (hp : movAt (invTo s n) t k = true) : movN n s t = some k :=
  List.find?_range_eq_some.2 ⟨hp, List.mem_range.2 (by omega), fun j hj => by rw [h j hj]; rfl⟩
theorem movN_none {n : Nat} {s t : List Nat} (h : ∀ j, j + 1 < n → movAt (invTo s n) t j = false) : movN n s t = none :=
  List.find?_eq_none.2 fun j hj => by rw [h j (by have := List.mem_range.1 hj; omega)]; simp
/-- What 'movable' hands back. -/
def MovV (n : Nat) (s t : List Nat) (w : World) (e : Ending) (w' : World) : Prop := Below w.heap.size w w' ∧ match movN n s t with
  | some i => e = .returned (.tuple #[.int .i64 ((i : Int) + 1), .bool true])
  | none => e = .returned (.tuple #[.int .i64 0, .bool false])

set_option maxRecDepth 100000 in
set_option maxHeartbeats 4000000 in
theorem movable_any (a b : Option Addr) (n cs ct : Nat) (s t : List Nat) (w : World) (hs : InN n s) (ht : t.length = n) (h1 : 1 ≤ n) (hn : n ≤ 1000) (hza : Nats w a s) (hzb : Nats w b t) :
    Calls Try.prog 91 #[.slice a n cs, .slice b n ct] w (MovV n s t w) := by
  have HI := Lib.hid (inverse_any a n cs s w hs hn hza)
  have HB := Lib.hid hzb.at
  have HTL := Lib.hid ht
  have HIL : Hid ((invTo s n).length = n) := Lib.hid (by rw [invTo_len, hs.1])
  have HHE := Lib.hid (fun (k : Nat) (h : ∀ j, j < k → movAt (invTo s n) t j = false) (hk : k + 1 < n) (hp : movAt (invTo s n) t k = true) => movN_here h hk hp)
  have HNO := Lib.hid (fun (h : ∀ j, j + 1 < n → movAt (invTo s n) t j = false) => movN_none h)
  have HMA : Hid (∀ k, movAt (invTo s n) t k = (decide (t[k + 1]?.getD 0 < t[k]?.getD 0) && decide ((invTo s n)[k]?.getD 0 < (invTo s n)[k + 1]?.getD 0))) := Lib.hid (fun k => rfl)
  unfold GivesP at HI
  rw [HIL.out] at HI
  obtain ⟨V, hV⟩ : ∃ V, invTo s n = V := ⟨_, rfl⟩
  rw [hV] at HI HIL HHE HNO HMA
  clear hza hzb hs ht hV
  go_enter Try.func91, Try.ntmps91
  go_wp2_with (go_at_call 109; refine HI.out.mono ?_; rintro e w1 ⟨g, rfl, hg, hr, hb⟩; have H1 := Lib.hid (And.intro hr hb); clear hr hb)
  go_loopw [7] (fun i wr => ∃ k : Nat, k + 1 ≤ n ∧ i = .int .i64 k ∧ Hid (∀ j, j < k → movAt V t j = false) ∧ Hid (Below w1.heap.size w1 wr)) (fun i _ => n - (intOf i).toNat)
  case atStart => exact ⟨0, h1, rfl, Lib.hid (fun j hj => by omega), Lib.hid (Below.refl _ _)⟩
  case round =>
    obtain ⟨k, hk, rfl, HP, HW⟩ := hrel
    by_cases hlt : k + 1 < n
    · have hkI : (k : Int) + 1 < (n : Int) := by omega
      rcases HB.out with h | ⟨bb, ob, rfl, hcb⟩
      · have := HTL.out; rw [h] at this; simp at this; omega
      have HBW := H1.out.2.trans (HW.out.mono H1.out.2.size)
      have c0 := (HBW.cell (p := ⟨bb, ob + k, none⟩) (World.block_lt_of_cell? w _ (hcb k (by rw [HTL.out]; omega)))).trans (hcb k (by rw [HTL.out]; omega))
      have c1 := (HBW.cell (p := ⟨bb, ob + (k + 1), none⟩) (World.block_lt_of_cell? w _ (hcb (k + 1) (by rw [HTL.out]; omega)))).trans (hcb (k + 1) (by rw [HTL.out]; omega))
      have hr := H1.out.1.below HW.out
      have d0 := hr.at (i := k) (by rw [HIL.out]; omega)
      have d1 := hr.at (i := k + 1) (by rw [HIL.out]; omega)
      have HM := Lib.hid (HMA.out k)
      obtain ⟨x, hx⟩ : ∃ x, t[k]?.getD 0 = x := ⟨_, rfl⟩
      obtain ⟨y, hy⟩ : ∃ y, t[k + 1]?.getD 0 = y := ⟨_, rfl⟩
      obtain ⟨u, hu⟩ : ∃ u, V[k]?.getD 0 = u := ⟨_, rfl⟩
      obtain ⟨v, hv⟩ : ∃ v, V[k + 1]?.getD 0 = v := ⟨_, rfl⟩
      rw [hx] at c0 HM
      rw [hy] at c1 HM
      rw [hu] at d0 HM
      rw [hv] at d1 HM
      have hkI0 : (k : Int) < (n : Int) := by omega
      have HNX : Hid (movAt V t k = false → ∀ j, j < k + 1 → movAt V t j = false) := Lib.hid (fun h j hj => by
        by_cases e : j = k
        · rw [e]; exact h
        · exact HP.out j (by omega))
      have HYE := Lib.hid (fun h => HHE.out k HP.out hlt h)
      clear hcb HBW hr hx hy hu hv
      rcases Bool.eq_false_or_eq_true (decide (y < x)) with q1 | q1 <;> rcases Bool.eq_false_or_eq_true (decide (u < v)) with q2 | q2
      · have HF := Lib.hid (HYE.out (by rw [HM.out, q1, q2]; rfl))
        go_wp2
        go_quiet (fail)
        go_wp2
        go_ret2
        refine ⟨below_drewN (H1.out.2.trans (HW.out.mono H1.out.2.size)) _, ?_⟩
        rw [HF.out]
        rfl
      all_goals
        have HF := Lib.hid (HNX.out (by rw [HM.out, q1, q2]; rfl))
        go_wp2
        go_quiet (fail)
        go_wp2
        go_roundw
        case rel => exact ⟨k + 1, by omega, by go_num, HF, Lib.hid (below_drewN HW.out _)⟩
        case measure => simp [intOf]; omega
    · obtain rfl : n = k + 1 := by omega
      go_wp2
      go_ret2
      refine ⟨H1.out.2.trans (HW.out.mono H1.out.2.size), ?_⟩
      rw [HNO.out (fun j hj => HP.out j (by omega))]
      rfl

end Go.Proofs.Ytbcggbmjbljnfaa
