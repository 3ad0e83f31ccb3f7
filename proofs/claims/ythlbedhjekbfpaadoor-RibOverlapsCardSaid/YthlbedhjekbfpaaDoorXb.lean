/-
  The walks of 'waiting', 'after' and 'rowOf': the search for a row of cliques, with the map of what failed.
-/
import Derived.Test.YthlbedhjekbfpaaDoorXa
import Derived.Test.YthlbedhjekbfpaaDoorXc
import Derived.Maps.Own
import Derived.Maps.OwnOps
import Derived.Maps.OwnSet
import Derived.Maps.Views
import Derived.Maps.Range
namespace Go.Proofs.YthlbedhjekbfpaaDoor
open Go.RowKit Go.Sort
open Go.Maps (Keyed)

set_option maxRecDepth 100000 in
set_option maxHeartbeats 2000000 in
theorem waiting_any (a : Option Addr) (k cap b S : Nat) (cs : List Nat) (w : World) (hk : cs.length = k) (hk16 : k ≤ 16) (h16 : ∀ x ∈ cs, x < 2 ^ 16) (hS : S < 65536) (hz : Sets w a cs) :
    Calls Tryd.prog 82 #[.agg #[.slice a k cap, .map (some b)], .int .u16 S] w fun e w' => e = .returned (.int .u16 (waitN cs S)) ∧ Below w.heap.size w w' := by
  have HZ := Lib.hid hz.at
  have HK := Lib.hid hk
  have HV : Hid (waitN cs S = befN cs S k &&& aftN cs S k) := Lib.hid (by rw [waitN, hk])
  have HB : Hid (∀ j, befN cs S j < 65536) := Lib.hid (befN_lt h16 S)
  have HA : Hid (∀ j, aftN cs S j < 65536) := Lib.hid (aftN_lt h16 S)
  have HC : Hid (∀ j, atC cs j < 65536) := Lib.hid (atC_lt (by omega) h16)
  have HB0 : Hid (Below w.heap.size w (w.alloc (.cells #[.slice a k cap, .map (some b)] 99))) := Lib.hid ((Below.refl _ w).alloc (Nat.le_refl _) _)
  clear hz hk h16
  go_enter Tryd.func82, Tryd.ntmps82
  go_wp2
  go_loopw [12, 5, 6, 7, 8] (fun i bf af _ _ wr => ∃ j : Nat, j ≤ k ∧ i = .int .i64 j ∧ bf = .int .u16 (befN cs S j) ∧ af = .int .u16 (aftN cs S j) ∧ Below w.heap.size w wr) (fun i _ _ _ _ _ => k - (intOf i).toNat)
  case atStart => exact ⟨0, Nat.zero_le _, rfl, rfl, rfl, HB0.out⟩
  case round =>
    obtain ⟨j, hj, rfl, rfl, rfl, hb⟩ := hrel
    have HW := Lib.hid hb
    clear hb
    have h1 := HB.out j
    have h2 := HA.out j
    have h3 := HC.out j
    by_cases hlt : j < k
    · rcases HZ.out with h | ⟨bz, oz, rfl, hc⟩
      · have := HK.out; subst h; simp at this; omega
      have c0 := hc j (by rw [HK.out]; exact hlt)
      replace c0 := (HW.out.cell (p := ⟨bz, oz + j, none⟩) (World.block_lt_of_cell? w _ c0)).trans c0
      change _ = some (Value.int IntKind.u16 ((atC cs j : Nat) : Int)) at c0
      have HH := Lib.hid (fun (wx : World) => has_any S j wx hS (by omega))
      have HNB : Hid (befN cs S (j + 1) = if S.testBit j = true then befN cs S j ||| atC cs j else befN cs S j) := Lib.hid rfl
      have HNA : Hid (aftN cs S (j + 1) = if S.testBit j = true then aftN cs S j else aftN cs S j ||| atC cs j) := Lib.hid rfl
      obtain ⟨x, hx⟩ : ∃ x, befN cs S j = x := ⟨_, rfl⟩
      obtain ⟨y, hy⟩ : ∃ y, aftN cs S j = y := ⟨_, rfl⟩
      obtain ⟨z, hz⟩ : ∃ z, atC cs j = z := ⟨_, rfl⟩
      rw [hx, hz] at HNB
      rw [hy, hz] at HNA
      rw [hx] at h1 ⊢
      rw [hy] at h2 ⊢
      rw [hz] at h3 c0
      have HO1 : Hid (bits .or .u16 (x : Int) (z : Int) = ((x ||| z : Nat) : Int)) := Lib.hid (u16_or_nat _ _ h1 h3)
      have HO2 : Hid (bits .or .u16 (y : Int) (z : Int) = ((y ||| z : Nat) : Int)) := Lib.hid (u16_or_nat _ _ h2 h3)
      have hjk : (j : Int) < (k : Int) := by omega
      clear hc hx hy hz
      cases hbit : S.testBit j with
      | true =>
        rw [hbit, if_pos rfl] at HNB HNA
        rw [hbit] at HH
        clear hbit
        go_wp2_with (go_at_call 58; refine (HH.out _).mono ?_; rintro e w' ⟨rfl, rfl⟩)
        go_roundw
        case rel => exact ⟨j + 1, by omega, by go_num, by rw [HNB.out, HO1.out], by rw [HNA.out], HW.out⟩
        case measure => simp [intOf]; omega
      | false =>
        rw [hbit, if_neg (by simp)] at HNB HNA
        rw [hbit] at HH
        clear hbit
        go_wp2_with (go_at_call 58; refine (HH.out _).mono ?_; rintro e w' ⟨rfl, rfl⟩)
        go_roundw
        case rel => exact ⟨j + 1, by omega, by go_num, by rw [HNB.out], by rw [HNA.out, HO2.out], HW.out⟩
        case measure => simp [intOf]; omega
    · obtain rfl : j = k := by omega
      have HAND : Hid (bits .and .u16 (befN cs S j : Int) (aftN cs S j : Int) = ((waitN cs S : Nat) : Int)) := Lib.hid (by rw [HV.out, u16_and_nat _ _ h1 h2])
      go_wp2
      go_ret
      exact ⟨by rw [← HAND.out]; rfl, HW.out⟩

/-! ### The map of what failed -/
section
variable {H : Type} {P : Program} {k : TypeId} {w : World} {b n : Nat} {D : DataW H}
theorem plainElem_bool_inv {e : TypeId} (he : P.underlying e = some .bool) {v : Value} {z : DataW H × List MemPlace} (h : plainElem P e v = some z) : ∃ c, v = .bool c ∧ z = (.lit (.bool c), []) := by
  unfold plainElem at h
  rw [he] at h
  cases v <;> simp at h
  subst h
  exact ⟨_, rfl, rfl⟩
/-- 'm[k]' of a map of bools: the walk goes on with some bool, of which 'hat' says what it is. -/
theorem wpList_lookup_own_bool (w : World) {ops : Array Oper} {rest : List Oper} {o : Oper} {a : Act} {Q : Exit → Act → World → Prop}
    (hg : o.guard = none) (m x : Operand) (t : TypeId) (hop : o.op = Op.lookup t m x false)
    (k e : TypeId) (K : Keyed P k) (ht : P.underlying t = some (.map k e)) (he : P.underlying e = some .bool) (hz : (zeroValue e).run P w = .ok (.bool false) w) (b n : Nat) (D : DataW H)
    (hm : a.eval m = .map (some b)) (hown : w.ownsMap P k (plainElem P e) b n D) (key : Value) (kl : Lit) (hx : a.eval x = key) (hkey : keyOf P k key = some kl)
    (hK : ∀ c : Bool, D.atKey kl (.lit (.bool false)) = .lit (.bool c) → wpList P ops Q rest (a.put o.dst (.bool c)) w) :
    wpList P ops Q (o :: rest) a w := by
  refine wpList_plain hg fun K' hK' => ?_
  obtain ⟨v, ps, hrun, hv⟩ := hown.lookup K ht hz (plainElem_bool he false) hkey
  obtain ⟨c, rfl, hc⟩ := plainElem_bool_inv he hv
  simp only [Prod.mk.injEq] at hc
  unfold Oper.wp
  simp [execOp, hop, hm, hx, hrun, Result.andThen]
  exact hK' _ _ (hK c hc.1)
end
theorem keyedSet : Keyed Tryd.prog 67 := Maps.int_keyed (q := .u16) (by kernel_rfl)
theorem keySet {S : Nat} (h : S < 65536) : keyOf Tryd.prog 67 (.int .u16 (S : Int)) = some (.int .u16 (S : Int)) := Maps.keyOf_int_mk (q := .u16) (by kernel_rfl) (by
  have a1 : IntKind.u16.min = 0 := rfl
  have a2 : IntKind.u16.max = 65535 := rfl
  simp only [Lit.wf, Bool.and_eq_true, decide_eq_true_eq]; omega)
theorem mapUnder : Tryd.prog.underlying 97 = some (.map 67 4) := by kernel_rfl
theorem boolUnder : Tryd.prog.underlying 4 = some .bool := by kernel_rfl
theorem boolZero (w : World) : (zeroValue 4).run Tryd.prog w = .ok (.bool false) w := by kernel_rfl
/-- The map holds true at sets alone from which no row goes on. -/
def GoodM (cs : List Nat) (D : DataW Unit) : Prop := ∀ S : Nat, D.atKey (.int .u16 (S : Int)) (.lit (.bool false)) = .lit (.bool true) → searchN cs (cs.length - cntN S) S = none
def MapW (cs : List Nat) (b nb : Nat) (w : World) : Prop := ∃ D : DataW Unit, w.ownsMap Tryd.prog 67 (plainElem Tryd.prog 4) b nb D ∧ GoodM cs D
theorem MapW.kept {cs : List Nat} {b nb : Nat} {w w' : World} {row : Option Nat} (h : MapW cs b nb w) (hg : w.grownBy w' row) (hne : some b ≠ row) : MapW cs b nb w' := by
  obtain ⟨D, h1, h2⟩ := h
  exact ⟨D, h1.kept hg hne, h2⟩
theorem MapW.lt {cs : List Nat} {b nb : Nat} {w : World} (h : MapW cs b nb w) : b < w.heap.size := by obtain ⟨D, h1, _⟩ := h; exact h1.lt
theorem GoodM.put {cs : List Nat} {D : DataW Unit} (h : GoodM cs D) (_hm : Maps.IsMap D) {S : Nat} (hS : searchN cs (cs.length - cntN S) S = none) : GoodM cs (D.put (.int .u16 (S : Int)) (.lit (.bool true))) := by
  intro T hT
  by_cases e : T = S
  · subst e; exact hS
  · refine h T ?_
    rw [Maps.atKey_put_other (fun e' => e (by injection e' with _ e'; omega))] at hT
    exact hT
theorem grown_of_below {w w' : World} (h : Below w.heap.size w w') (row : Option Nat) : w.grownBy w' row := ⟨h.os, h.tape, h.output, h.size, fun k hk _ => h.block k hk⟩
theorem below_of_grown {B : Nat} {w w' : World} {b : Nat} (h : w.grownBy w' (some b)) (hB : B ≤ b) (hs : B ≤ w.heap.size) : Below B w w' := ⟨h.os, h.tape, h.output, h.size, fun k hk => h.block k (by omega) (fun e => by cases e; omega)⟩
theorem Sets.grown {w w' : World} {a : Option Addr} {gs : List Nat} {b : Nat} (h : Sets w a gs) (hg : w.grownBy w' (some b)) (hne : ∀ bl off, a = some ⟨bl, off, none⟩ → bl ≠ b) : Sets w' a gs := fun i hi => by
  obtain ⟨bl, off, e, hc⟩ := h i hi
  exact ⟨bl, off, e, (World.cell?_of_block (hg.block bl (World.block_lt_of_cell? w _ hc) (fun e' => hne bl off e (by cases e'; rfl)))).trans hc⟩
theorem cell_grown {w w' : World} {bl j b : Nat} {v : Value} (h : w.cell? ⟨bl, j, none⟩ = some v) (hg : w.grownBy w' (some b)) (hne : bl ≠ b) : w'.cell? ⟨bl, j, none⟩ = some v :=
  (World.cell?_of_block (hg.block bl (World.block_lt_of_cell? w _ h) (fun e => hne (by cases e; rfl)))).trans h

end Go.Proofs.YthlbedhjekbfpaaDoor
