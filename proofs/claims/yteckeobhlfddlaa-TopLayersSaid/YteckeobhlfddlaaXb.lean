/-
  The search for a row: the walks.
-/
import Derived.Test.YteckeobhlfddlaaXa
import Derived.Test.YteckeobhlfddlaaXc
import Derived.Maps.Own
import Derived.Maps.OwnOps
import Derived.Maps.OwnSet
import Derived.Maps.Views
import Derived.Maps.Range
namespace Go.Proofs.Yteckeobhlfddlaa.Rib

section
open Go.RowKit Go.Sort
open Go.Maps (Keyed)

set_option maxRecDepth 100000 in
set_option maxHeartbeats 2000000 in
theorem waiting_any (a : Option Addr) (k cap b S : Nat) (cs : List Nat) (w : World) (hk : cs.length = k) (hk16 : k ≤ 16) (h16 : ∀ x ∈ cs, x < 2 ^ 16) (hS : S < 65536) (hz : Sets w a cs) :
    Calls Try.prog 46 #[.agg #[.slice a k cap, .map (some b)], .int .u16 S] w fun e w' => e = .returned (.int .u16 (waitN cs S)) ∧ Below w.heap.size w w' := by
  have HZ := Lib.hid hz.at
  have HK := Lib.hid hk
  have HV : Hid (waitN cs S = befN cs S k &&& aftN cs S k) := Lib.hid (by rw [waitN, hk])
  have HB : Hid (∀ j, befN cs S j < 65536) := Lib.hid (befN_lt h16 S)
  have HA : Hid (∀ j, aftN cs S j < 65536) := Lib.hid (aftN_lt h16 S)
  have HC : Hid (∀ j, atC cs j < 65536) := Lib.hid (atC_lt (by omega) h16)
  have HB0 : Hid (Below w.heap.size w (w.alloc (.cells #[.slice a k cap, .map (some b)] 75))) := Lib.hid ((Below.refl _ w).alloc (Nat.le_refl _) _)
  clear hz hk h16
  go_enter Try.func46, Try.ntmps46
  go_wp2
  go_loopw [12, 5, 6, 7, 8] (fun i bf af _ _ wr => ∃ j : Nat, j ≤ k ∧ i = .int .i64 j ∧ bf = .int .u16 (befN cs S j) ∧ af = .int .u16 (aftN cs S j) ∧ Below w.heap.size w wr) (fun i _ _ _ _ _ => k - (intOf i).toNat)
  case atStart => exact ⟨0, Nat.zero_le _, rfl, rfl, rfl, HB0.out⟩
  case round =>
    obtain ⟨j, hj, rfl, rfl, rfl, hb⟩ := hrel
    have HW := Lib.hid hb
    clear hb
    have h1 := HB.out j
    have h2 := HA.out j
    have h3 := HC.out j
    by_cases hlt : j < k
    · rcases HZ.out with h | ⟨bz, oz, rfl, hc⟩
      · have := HK.out; subst h; simp at this; omega
      have c0 := hc j (by rw [HK.out]; exact hlt)
      replace c0 := (HW.out.cell (p := ⟨bz, oz + j, none⟩) (World.block_lt_of_cell? w _ c0)).trans c0
      change _ = some (Value.int IntKind.u16 ((atC cs j : Nat) : Int)) at c0
      have HH := Lib.hid (fun (wx : World) => has_any S j wx hS (by omega))
      have HNB : Hid (befN cs S (j + 1) = if S.testBit j = true then befN cs S j ||| atC cs j else befN cs S j) := Lib.hid rfl
      have HNA : Hid (aftN cs S (j + 1) = if S.testBit j = true then aftN cs S j else aftN cs S j ||| atC cs j) := Lib.hid rfl
      obtain ⟨x, hx⟩ : ∃ x, befN cs S j = x := ⟨_, rfl⟩
      obtain ⟨y, hy⟩ : ∃ y, aftN cs S j = y := ⟨_, rfl⟩
      obtain ⟨z, hz⟩ : ∃ z, atC cs j = z := ⟨_, rfl⟩
      rw [hx, hz] at HNB
      rw [hy, hz] at HNA
      rw [hx] at h1 ⊢
      rw [hy] at h2 ⊢
      rw [hz] at h3 c0
      have HO1 : Hid (bits .or .u16 (x : Int) (z : Int) = ((x ||| z : Nat) : Int)) := Lib.hid (u16_or_nat _ _ h1 h3)
      have HO2 : Hid (bits .or .u16 (y : Int) (z : Int) = ((y ||| z : Nat) : Int)) := Lib.hid (u16_or_nat _ _ h2 h3)
      have hjk : (j : Int) < (k : Int) := by omega
      clear hc hx hy hz
      cases hbit : S.testBit j with
      | true =>
        rw [hbit, if_pos rfl] at HNB HNA
        rw [hbit] at HH
        clear hbit
        go_wp2_with (go_at_call 28; refine (HH.out _).mono ?_; rintro e w' ⟨rfl, rfl⟩)
        go_roundw
        case rel => exact ⟨j + 1, by omega, by go_num, by rw [HNB.out, HO1.out], by rw [HNA.out], HW.out⟩
        case measure => simp [intOf]; omega
      | false =>
        rw [hbit, if_neg (by simp)] at HNB HNA
        rw [hbit] at HH
        clear hbit
        go_wp2_with (go_at_call 28; refine (HH.out _).mono ?_; rintro e w' ⟨rfl, rfl⟩)
        go_roundw
        case rel => exact ⟨j + 1, by omega, by go_num, by rw [HNB.out], by rw [HNA.out, HO2.out], HW.out⟩
        case measure => simp [intOf]; omega
    · obtain rfl : j = k := by omega
      have HAND : Hid (bits .and .u16 (befN cs S j : Int) (aftN cs S j : Int) = ((waitN cs S : Nat) : Int)) := Lib.hid (by rw [HV.out, u16_and_nat _ _ h1 h2])
      go_wp2
      go_ret
      exact ⟨by rw [← HAND.out]; rfl, HW.out⟩

/-! ### The map of what failed -/
section
variable {H : Type} {P : Program} {k : TypeId} {w : World} {b n : Nat} {D : DataW H}
theorem plainElem_bool_inv {e : TypeId} (he : P.underlying e = some .bool) {v : Value} {z : DataW H × List MemPlace} (h : plainElem P e v = some z) : ∃ c, v = .bool c ∧ z = (.lit (.bool c), []) := by
  unfold plainElem at h
  rw [he] at h
  cases v <;> simp at h
  subst h
  exact ⟨_, rfl, rfl⟩
/-- 'm[k]' of a map of bools: the walk goes on with some bool, of which 'hat' says what it is. -/
theorem wpList_lookup_own_bool (w : World) {ops : Array Oper} {rest : List Oper} {o : Oper} {a : Act} {Q : Exit → Act → World → Prop}
    (hg : o.guard = none) (m x : Operand) (t : TypeId) (hop : o.op = Op.lookup t m x false)
    (k e : TypeId) (K : Keyed P k) (ht : P.underlying t = some (.map k e)) (he : P.underlying e = some .bool) (hz : (zeroValue e).run P w = .ok (.bool false) w) (b n : Nat) (D : DataW H)
    (hm : a.eval m = .map (some b)) (hown : w.ownsMap P k (plainElem P e) b n D) (key : Value) (kl : Lit) (hx : a.eval x = key) (hkey : keyOf P k key = some kl)
    (hK : ∀ c : Bool, D.atKey kl (.lit (.bool false)) = .lit (.bool c) → wpList P ops Q rest (a.put o.dst (.bool c)) w) :
    wpList P ops Q (o :: rest) a w := by
  refine wpList_plain hg fun K' hK' => ?_
  obtain ⟨v, ps, hrun, hv⟩ := hown.lookup K ht hz (plainElem_bool he false) hkey
  obtain ⟨c, rfl, hc⟩ := plainElem_bool_inv he hv
  simp only [Prod.mk.injEq] at hc
  unfold Oper.wp
  simp [execOp, hop, hm, hx, hrun, Result.andThen]
  exact hK' _ _ (hK c hc.1)
end
theorem keyedSet : Keyed Try.prog 68 := Maps.int_keyed (q := .u16) (by kernel_rfl)
theorem keySet {S : Nat} (h : S < 65536) : keyOf Try.prog 68 (.int .u16 (S : Int)) = some (.int .u16 (S : Int)) := Maps.keyOf_int_mk (q := .u16) (by kernel_rfl) (by
  have a1 : IntKind.u16.min = 0 := rfl
  have a2 : IntKind.u16.max = 65535 := rfl
  simp only [Lit.wf, Bool.and_eq_true, decide_eq_true_eq]; omega)
theorem mapUnder : Try.prog.underlying 73 = some (.map 68 4) := by kernel_rfl
theorem boolUnder : Try.prog.underlying 4 = some .bool := by kernel_rfl
theorem boolZero (w : World) : (zeroValue 4).run Try.prog w = .ok (.bool false) w := by kernel_rfl
/-- The map holds true at sets alone from which no row goes on. -/
def GoodM (cs : List Nat) (D : DataW Unit) : Prop := ∀ S : Nat, D.atKey (.int .u16 (S : Int)) (.lit (.bool false)) = .lit (.bool true) → searchN cs (cs.length - cntN S) S = none
def MapW (cs : List Nat) (b nb : Nat) (w : World) : Prop := ∃ D : DataW Unit, w.ownsMap Try.prog 68 (plainElem Try.prog 4) b nb D ∧ GoodM cs D
theorem MapW.kept {cs : List Nat} {b nb : Nat} {w w' : World} {row : Option Nat} (h : MapW cs b nb w) (hg : w.grownBy w' row) (hne : some b ≠ row) : MapW cs b nb w' := by
  obtain ⟨D, h1, h2⟩ := h
  exact ⟨D, h1.kept hg hne, h2⟩
theorem MapW.lt {cs : List Nat} {b nb : Nat} {w : World} (h : MapW cs b nb w) : b < w.heap.size := by obtain ⟨D, h1, _⟩ := h; exact h1.lt
theorem GoodM.put {cs : List Nat} {D : DataW Unit} (h : GoodM cs D) (_hm : Maps.IsMap D) {S : Nat} (hS : searchN cs (cs.length - cntN S) S = none) : GoodM cs (D.put (.int .u16 (S : Int)) (.lit (.bool true))) := by
  intro T hT
  by_cases e : T = S
  · subst e; exact hS
  · refine h T ?_
    rw [Maps.atKey_put_other (fun e' => e (by injection e' with _ e'; omega))] at hT
    exact hT
theorem grown_of_below {w w' : World} (h : Below w.heap.size w w') (row : Option Nat) : w.grownBy w' row := ⟨h.os, h.tape, h.output, h.size, fun k hk _ => h.block k hk⟩
theorem below_of_grown {B : Nat} {w w' : World} {b : Nat} (h : w.grownBy w' (some b)) (hB : B ≤ b) (hs : B ≤ w.heap.size) : Below B w w' := ⟨h.os, h.tape, h.output, h.size, fun k hk => h.block k (by omega) (fun e => by cases e; omega)⟩
theorem Sets.grown {w w' : World} {a : Option Addr} {gs : List Nat} {b : Nat} (h : Sets w a gs) (hg : w.grownBy w' (some b)) (hne : ∀ bl off, a = some ⟨bl, off, none⟩ → bl ≠ b) : Sets w' a gs := fun i hi => by
  obtain ⟨bl, off, e, hc⟩ := h i hi
  exact ⟨bl, off, e, (World.cell?_of_block (hg.block bl (World.block_lt_of_cell? w _ hc) (fun e' => hne bl off e (by cases e'; rfl)))).trans hc⟩
theorem cell_grown {w w' : World} {bl j b : Nat} {v : Value} (h : w.cell? ⟨bl, j, none⟩ = some v) (hg : w.grownBy w' (some b)) (hne : bl ≠ b) : w'.cell? ⟨bl, j, none⟩ = some v :=
  (World.cell?_of_block (hg.block bl (World.block_lt_of_cell? w _ h) (fun e => hne (by cases e; rfl)))).trans h
end

section
open Go.RowKit Go.Sort

theorem sets_cells (rs : List Nat) : ∀ (i : Nat) (u : Value), (rs.map fun (x : Nat) => Value.int .u16 x)[i]? = some u → i < rs.length ∧ u = .int .u16 ((rs[i]?.getD 0 : Nat) : Int) := fun i u h => by
  rw [List.getElem?_map, Option.map_eq_some_iff] at h
  obtain ⟨x, hx, rfl⟩ := h
  exact ⟨(List.getElem?_eq_some_iff.1 hx).1, by rw [hx]; rfl⟩
/-- 'append([]set{c}, row...)'. -/
theorem wpList_app_row1 {W : World} {ops : Array Oper} {rest : List Oper} {o : Oper} {a : Act} {Q : Exit → Act → World → Prop} (hgd : o.guard = none) (s x : Operand)
    (ho : o.op = .call { callee := .builtin .append, args := #[s, x], argTypes := #[47, 47] }) (z : Nat) (b base : Nat) (hs : a.eval s = .slice (some ⟨b, 0, none⟩) 1 1) (hb : b = W.heap.size)
    (ad : Option Addr) (r c : Nat) (rs : List Nat) (hx : a.eval x = .slice ad r c) (hr : r ≤ 1000) (_hbase : base ≤ W.heap.size) (hsrc : W.ownsRow base 68 1 (.slice ad r c) r (rs.map fun (x : Nat) => Value.int .u16 x))
    (h : ∀ (a' : Option Addr) (c' : Nat) (w' : World), w'.ownsRow W.heap.size 68 1 (.slice a' (r + 1) c') (r + 1) ((z :: rs).map fun (x : Nat) => Value.int .u16 x) → (∀ row, W.grownBy w' row) → wpList Try.prog ops Q rest (a.put o.dst (.slice a' (r + 1) c')) w') :
    wpList Try.prog ops Q (o :: rest) a (W.alloc (.cells #[.int .u16 (z : Int)] 68)) := by
  obtain ⟨i0, hi, hz0, hz1, hz2⟩ := info_parts Try.infoSet
  subst hb
  have hB : (W.alloc (.cells #[.int .u16 (z : Int)] 68)).heap[W.heap.size]? = some (.cells #[.int .u16 (z : Int)] 68 (0, 0)) := heap_alloc_new W _
  have hown : (W.alloc (.cells #[.int .u16 (z : Int)] 68)).ownsRow W.heap.size 68 1 (.slice (some ⟨W.heap.size, 0, none⟩) 1 1) 1 [.int .u16 (z : Int)] :=
    ⟨rfl, .inr ⟨W.heap.size, 1, #[.int .u16 (z : Int)], rfl, Nat.le_refl _, hB, Nat.le_refl _, by unfold maxLen; omega, rfl, rfl⟩⟩
  have fin : ∀ {w' : World} {row : Option Nat}, (W.alloc (.cells #[.int .u16 (z : Int)] 68)).grownBy w' (some W.heap.size) → W.grownBy w' row := fun {w' row} hg =>
    ⟨hg.os, hg.tape, hg.output, by have := hg.size; simp at this; omega, fun k hk _ => (hg.block k (by simp; omega) (fun e => by cases e; omega)).trans (Below.heap_alloc W _ k hk)⟩
  rcases hsrc.2 with ⟨e, h0⟩ | ⟨g, cap', cur, e, hge, _⟩
  · cases e
    obtain rfl : rs = [] := by have := hsrc.1; simpa using this
    have hrun := run_append_owned_none (P := Try.prog) (w := W.alloc (.cells #[.int .u16 (z : Int)] 68)) W.heap.size 47 o.type 68 i0 1 Try.underlying47 hi (.slice (some ⟨W.heap.size, 0, none⟩) 1 1) 1 [.int .u16 (z : Int)] hown
    refine wpList_plain hgd fun K hK => ?_
    unfold Oper.wp
    simp [execOp, ho, resolve, invoke, builtin, hs, hx, hrun, Result.andThen]
    exact hK _ _ (h _ _ _ hown (fun row => fin ⟨rfl, rfl, rfl, Nat.le_refl _, fun _ _ _ => rfl⟩))
  · cases e
    refine wpList_append_own_at _ hgd s x 47 ho W.heap.size 68 i0 (.int .u16 0) 1 2 Try.underlying47 hi hz0 hz1 hz2 rfl (by decide) _ 1 _ hs hown ⟨g, 0, none⟩ r _ (rs.map fun (x : Nat) => Value.int .u16 x) hx (by simpa using hsrc.1) (fun j u hj => ?_) (fun u hu => by obtain ⟨y, _, rfl⟩ := List.mem_map.1 hu; rfl) (by unfold maxLen; omega) (by omega) (by simp) ?_
    · have hj' := (List.getElem?_eq_some_iff.1 hj).1
      have := hsrc.cellAt j (by rw [← hsrc.1]; exact hj')
      rw [hj] at this
      have hadd : (⟨g, 0, none⟩ : Addr).add j = ⟨g, j, none⟩ := by unfold Addr.add; split <;> simp_all
      rw [hadd]
      exact (((Below.refl W.heap.size W).alloc (Nat.le_refl _) _).cell (p := ⟨g, j, none⟩) (World.block_lt_of_cell? W _ this)).trans this
    · intro v' w' hown' hg _ _
      obtain ⟨a', c', rfl⟩ := ownsRow_slice hown'
      rw [Nat.add_comm] at hown' ⊢
      exact h a' c' w' hown' (fun row => fin hg)

/-- The row that was found, or that there is none. -/
def RowV (so : Option (List Nat)) (w : World) (e : Ending) (w' : World) : Prop :=
  match so with
  | none => e = .returned (.tuple #[.slice none 0 0, .bool false])
  | some r => ∃ a' c, e = .returned (.tuple #[.slice a' r.length c, .bool true]) ∧ r.length ≤ 12 ∧ w'.ownsRow w.heap.size 68 1 (.slice a' r.length c) r.length (r.map fun (x : Nat) => Value.int .u16 x)
/-- What 'after' hands back. -/
def AfterV (cs : List Nat) (b nb f S : Nat) (w : World) (e : Ending) (w' : World) : Prop := w.grownBy w' (some b) ∧ (∃ nb', nb' ≤ nb + 13 ^ f ∧ MapW cs b nb' w') ∧ RowV (searchN cs f S) w e w'
theorem search_len {cs : List Nat} (hk : cs.length ≤ 16) : ∀ (f S : Nat) (r : List Nat), cntN S + f = cs.length → searchN cs f S = some r → r.length ≤ f
  | 0, S, r, hf, h => by rw [searchN_done (by omega)] at h; cases h; simp
  | f + 1, S, r, hf, h => by
    rw [searchN_succ (by omega)] at h
    obtain ⟨i, hi, hi2⟩ := List.exists_of_findSome?_eq_some h
    rw [turnN] at hi2
    split at hi2
    · rename_i hst
      obtain ⟨r', hr', rfl⟩ := Option.map_eq_some_iff.1 hi2
      rw [stepB, Bool.and_eq_true, Bool.not_eq_true'] at hst
      have := search_len hk f _ r' (by rw [cnt_or (by have := List.mem_range.1 hi; omega) hst.1]; omega) hr'
      rw [List.length_cons]; omega
    · cases hi2

set_option maxRecDepth 100000 in
set_option maxHeartbeats 8000000 in
theorem after_any (a : Option Addr) (k cap b : Nat) (cs : List Nat) (hk : cs.length = k) (hk12 : k ≤ 12) (h16 : ∀ x ∈ cs, x < 2 ^ 16) (hab : ∀ bl off, a = some ⟨bl, off, none⟩ → bl ≠ b) : ∀ (f S nb : Nat) (w : World), S < 2 ^ k → cntN S + f = k → nb + 13 ^ f ≤ 13 ^ 12 → Sets w a cs → MapW cs b nb w →
    Calls Try.prog 31 #[.agg #[.slice a k cap, .map (some b)], .int .u16 S] w (AfterV cs b nb f S w) := by
  have h13 : (13 : Nat) ^ 12 = 23298085122481 := by decide
  have HK := Lib.hid hk
  have H16 := Lib.hid h16
  have HAB := Lib.hid hab
  have hpk : 2 ^ k ≤ 4096 := Nat.le_trans (Nat.pow_le_pow_right (by omega) hk12) (by decide)
  rw [h13]
  clear h13 hk h16 hab
  intro f
  induction f with
  | zero =>
    intro S nb w hS hcnt hnb hz hm
    have HCQ := Lib.hid (fun wx => count_q S wx (by omega))
    have hc : cntN S = k := by omega
    rw [hc] at HCQ
    have HD : Hid (searchN cs 0 S = some []) := Lib.hid (searchN_done (by rw [HK.out]; exact hc))
    have HM := Lib.hid hm
    clear hc hm hz hcnt
    go_enter Try.func31, Try.ntmps31
    go_wp2
    go_quiet (with_reducible exact Calls.quiet_of (HCQ.out _))
    go_wp2
    go_ret2
    refine ⟨(World.grownBy_alloc w _ (some b)).trans (grown_of_below (below_drewN (Below.refl _ _) _) _), ⟨nb, by omega, HM.out.kept ((World.grownBy_alloc w _ none).trans (grown_of_below (below_drewN (Below.refl _ _) _) _)) (by simp)⟩, ?_⟩
    rw [HD.out]
    exact ⟨none, 0, rfl, by simp, rfl, .inl ⟨rfl, rfl⟩⟩
  | succ f ih =>
    intro S nb w hS hcnt hnb hz hm
    have hq1 : 1 ≤ 13 ^ f := Nat.pow_pos (by omega)
    have HP : Hid (13 ^ (f + 1) = 13 * 13 ^ f) := Lib.hid (by rw [Nat.pow_succ, Nat.mul_comm])
    have HCQ := Lib.hid (fun wx => count_q S wx (by omega))
    have HD : Hid (searchN cs (f + 1) S = (List.range k).findSome? (turnN cs f S)) := Lib.hid (by rw [searchN_succ (by rw [HK.out]; omega), HK.out])
    have HMEMO : Hid (∀ D : DataW Unit, GoodM cs D → D.atKey (.int .u16 (S : Int)) (.lit (.bool false)) = .lit (.bool true) → searchN cs (f + 1) S = none) := Lib.hid (fun D hD h => by
      have := hD S h
      rwa [show cs.length - cntN S = f + 1 by rw [HK.out]; omega] at this)
    have HCN : Hid (∀ j, j < k → S.testBit j = false → cntN (S ||| 2 ^ j) + f = k) := Lib.hid (fun j hj h => by rw [cnt_or (by omega) h]; omega)
    obtain ⟨c, hc⟩ : ∃ c, cntN S = c := ⟨_, rfl⟩
    rw [hc] at HCQ hcnt
    have hcne : ((c : Int) == (k : Int)) = false := by rw [beq_eq_false_iff_ne]; omega
    rcases hz.at with h | ⟨bz, oz, ha, hcz⟩
    · have := HK.out; rw [h] at this; simp at this; omega
    subst ha
    have hbz : bz ≠ b := HAB.out bz oz rfl
    have HZ := Lib.hid hz
    have hmlt := hm.lt
    have HM := Lib.hid hm
    unfold AfterV at ih ⊢
    rw [HP.out] at hnb ⊢
    obtain ⟨so, hso⟩ : ∃ so, searchN cs (f + 1) S = so := ⟨_, rfl⟩
    rw [hso] at HD HMEMO ⊢
    have HSO : Hid (searchN cs (cs.length - cntN S) S = so) := Lib.hid (by rw [show cs.length - cntN S = f + 1 by rw [HK.out, hc]; omega]; exact hso)
    have HLEN : Hid (∀ r, so = some r → r.length ≤ 12) := Lib.hid (fun r hr => by
      have := search_len (by rw [HK.out]; omega) (f + 1) S r (by rw [HK.out, hc]; omega) (hso.trans hr)
      omega)
    clear hso
    obtain ⟨q, hq⟩ : ∃ q, 13 ^ f = q := ⟨_, rfl⟩
    rw [hq] at hnb hq1 ih ⊢
    clear hc hm hz hcz HP
    go_enter Try.func31, Try.ntmps31
    go_wp2
    go_quiet (with_reducible exact Calls.quiet_of (HCQ.out _))
    have hg1 : w.grownBy ((w.alloc (.cells #[.slice (some ⟨bz, oz, none⟩) k cap, .map (some b)] 75)).drewN nq) (some b) := (World.grownBy_alloc w _ (some b)).trans (grown_of_below (below_drewN (Below.refl _ _) _) _)
    have hm1 : MapW cs b nb ((w.alloc (.cells #[.slice (some ⟨bz, oz, none⟩) k cap, .map (some b)] 75)).drewN nq) := HM.out.kept ((World.grownBy_alloc w _ none).trans (grown_of_below (below_drewN (Below.refl _ _) _) _)) (by simp)
    have d0 : ((w.alloc (.cells #[.slice (some ⟨bz, oz, none⟩) k cap, .map (some b)] 75)).drewN nq).cell? ⟨w.heap.size, 0, none⟩ = some (.slice (some ⟨bz, oz, none⟩) k cap) := World.cell?_alloc_at _ _ _ _ rfl
    have d1 : ((w.alloc (.cells #[.slice (some ⟨bz, oz, none⟩) k cap, .map (some b)] 75)).drewN nq).cell? ⟨w.heap.size, 1, none⟩ = some (.map (some b)) := World.cell?_alloc_at _ _ _ _ rfl
    generalize (w.alloc (.cells #[.slice (some ⟨bz, oz, none⟩) k cap, .map (some b)] 75)).drewN nq = w1 at hg1 hm1 d0 d1 ⊢
    have HG1 := Lib.hid hg1
    obtain ⟨D, hown, hgood⟩ := hm1
    have HOWN := Lib.hid hown
    have HGD := Lib.hid hgood
    clear hg1 hown hgood HM
    go_wp2_with (at_lookup; refine wpList_lookup_own_bool _ rfl _ _ 73 rfl 68 4 keyedSet mapUnder boolUnder (boolZero _) b nb D rfl HOWN.out _ _ rfl (keySet (by omega)) ?_; intro hit hat; have HAT := Lib.hid hat; clear hat)
    · -- it failed before
      have hh : hit = true := by assumption
      subst hh
      have HNO := Lib.hid (HMEMO.out D HGD.out HAT.out)
      go_ret2
      refine ⟨HG1.out, ⟨nb, by omega, D, HOWN.out, HGD.out⟩, ?_⟩
      rw [HNO.out]
      rfl
    · have HWT := Lib.hid (waiting_any (some ⟨bz, oz, none⟩) k cap b S cs w1 HK.out (by omega) H16.out (by omega) (HZ.out.grown HG1.out HAB.out))
      have hwl := waitN_lt H16.out S
      have hmw : MapW cs b nb w1 := ⟨D, HOWN.out, HGD.out⟩
      have HM1 := Lib.hid hmw
      have hw1 : w.heap.size ≤ w1.heap.size := HG1.out.size
      have hbox : w.heap.size < w1.heap.size := World.block_lt_of_cell? w1 _ d0
      have HST : Hid (∀ i, stepB cs S i = (!S.testBit i && subB (atC cs i) (waitN cs S))) := Lib.hid (fun i => rfl)
      obtain ⟨X, hX⟩ : ∃ X, waitN cs S = X := ⟨_, rfl⟩
      rw [hX] at HWT hwl HST
      clear HMEMO HOWN HGD HAT hmw hX
      refine HWT.out.mono ?_
      rintro e w2 ⟨rfl, hb2⟩
      have HG2 := Lib.hid (HG1.out.trans (grown_of_below hb2 (some b)))
      have HM2 := Lib.hid (HM1.out.kept (grown_of_below hb2 none) (by simp))
      have HD0 := Lib.hid (cell_grown d0 (grown_of_below hb2 (some b)) (by omega))
      have HD1 := Lib.hid (cell_grown d1 (grown_of_below hb2 (some b)) (by omega))
      replace d0 := HD0.out
      replace d1 := HD1.out
      clear hb2 HM1 HG1 HWT
      go_wp2_with (fail)
      go_loopw [27, 7, 8, 9, 10] (fun i _ _ _ _ wr => ∃ j nbj : Nat, j ≤ k ∧ i = .int .i64 j ∧ nbj ≤ nb + j * q ∧ Hid (∀ i, i < j → turnN cs f S i = none) ∧ Hid (MapW cs b nbj wr) ∧ Hid (w2.grownBy wr (some b))) (fun i _ _ _ _ _ => k - (intOf i).toNat)
      case atStart => exact ⟨0, nb, Nat.zero_le _, rfl, by omega, Lib.hid (fun i hi => by omega), HM2, Lib.hid (World.grownBy.refl _ _)⟩
      case round =>
        obtain ⟨j, nbj, hj, rfl, hnbj, HNO, HMR, HGR⟩ := hrel
        have HGW := Lib.hid (HG2.out.trans HGR.out)
        clear d0 d1
        have d0 := cell_grown HD0.out HGR.out (by omega)
        have d1 := cell_grown HD1.out HGR.out (by omega)
        have hbr : w.heap.size < wr.heap.size := World.block_lt_of_cell? wr _ d0
        by_cases hlt : j < k
        · have hjq : (j + 1) * q ≤ 12 * q := Nat.mul_le_mul_right _ (by omega)
          rw [Nat.succ_mul] at hjq
          obtain ⟨jq, hjq'⟩ : ∃ x, j * q = x := ⟨_, rfl⟩
          have HJQ : Hid ((j + 1) * q = jq + q) := Lib.hid (by rw [Nat.succ_mul, hjq'])
          rw [hjq'] at hjq hnbj
          have HZR := Lib.hid (HZ.out.grown HGW.out HAB.out)
          have c0 : wr.cell? ⟨bz, oz + j, none⟩ = some (.int .u16 ((atC cs j : Nat) : Int)) := by
            obtain ⟨bl, off, e, hc⟩ := HZR.out j (by rw [HK.out]; exact hlt)
            cases e
            exact hc
          have hz16 := atC_lt (B := 65536) (by omega) H16.out j
          have HH := Lib.hid (fun (wx : World) => has_any S j wx (by omega) (by omega))
          have HCT := Lib.hid (fun (wx : World) => contains_any (atC cs j) X wx hz16 hwl)
          have HSJ := HST.out j
          have HTN : Hid (turnN cs f S j = if stepB cs S j = true then (searchN cs f (S ||| 2 ^ j)).map (atC cs j :: ·) else none) := Lib.hid rfl
          have hjk : (j : Int) < (k : Int) := by omega
          have HNX : Hid (turnN cs f S j = none → ∀ i, i < j + 1 → turnN cs f S i = none) := Lib.hid (fun h i hi => by
            rcases Nat.lt_or_ge i j with h' | h'
            · exact HNO.out i h'
            · obtain rfl : i = j := by omega
              exact h)
          obtain ⟨z, hz⟩ : ∃ z, atC cs j = z := ⟨_, rfl⟩
          rw [hz] at c0 hz16 HCT HSJ HTN
          clear hjq' hz
          cases hbit : S.testBit j with
          | true =>
            rw [hbit, Bool.not_true, Bool.false_and] at HSJ
            rw [HSJ, if_neg (by simp)] at HTN
            rw [hbit] at HH
            have HN2 := Lib.hid (HNX.out HTN.out)
            clear hbit HSJ HTN HNX
            go_wp2_with (go_at_call 28; refine (HH.out _).mono ?_; rintro e w' ⟨rfl, rfl⟩)
            go_roundw
            case rel => exact ⟨j + 1, nbj, by omega, by go_num, by rw [HJQ.out]; omega, HN2, HMR, HGR⟩
            case measure => simp [intOf]; omega
          | false =>
            have HCN2 := Lib.hid (HCN.out j hlt hbit)
            rw [hbit, Bool.not_false, Bool.true_and] at HSJ
            rw [hbit] at HH
            cases hsub : subB z X with
            | false =>
              rw [hsub] at HSJ HCT
              rw [HSJ, if_neg (by simp)] at HTN
              have HN2 := Lib.hid (HNX.out HTN.out)
              clear hbit hsub HSJ HTN HNX
              go_wp2_with (first
                | (go_at_call 28; refine (HH.out _).mono ?_; rintro e w' ⟨rfl, rfl⟩)
                | (go_at_call 32; refine (HCT.out _).mono ?_; rintro e w' ⟨rfl, rfl⟩))
              go_roundw
              case rel => exact ⟨j + 1, nbj, by omega, by go_num, by rw [HJQ.out]; omega, HN2, HMR, HGR⟩
              case measure => simp [intOf]; omega
            | true =>
              rw [hsub] at HSJ HCT
              rw [HSJ, if_pos rfl] at HTN
              have hp2 : 2 ^ j < 65536 := Nat.pow_lt_pow_right (m := j) (n := 16) (by omega) (by omega)
              have HOR : Hid (bits .or .u16 (S : Int) ((2 ^ j : Nat) : Int) = ((S ||| 2 ^ j : Nat) : Int)) := Lib.hid (u16_or_nat _ _ (by omega) hp2)
              have HS1 := Lib.hid (setOf_one j (by omega))
              have hSl : S ||| 2 ^ j < 2 ^ k := Nat.or_lt_two_pow hS (Nat.pow_lt_pow_right (by omega) hlt)
              have HIH := Lib.hid (fun (wx : World) (hg : wr.grownBy wx none) => ih (S ||| 2 ^ j) nbj wx hSl HCN2.out (by omega) (HZR.out.grown (hg.but (some b)) HAB.out) (HMR.out.kept hg (by simp)))
              obtain ⟨T, hT⟩ : ∃ T, S ||| 2 ^ j = T := ⟨_, rfl⟩
              rw [hT] at HOR HIH HTN
              obtain ⟨Y, hY⟩ : ∃ Y, 2 ^ j = Y := ⟨_, rfl⟩
              rw [hY] at HOR HS1
              clear hbit hsub HSJ hp2 hSl hT hY HCN2
              have hga := (World.grownBy_alloc wr (.cells #[.int .i64 (j : Int)] 3) none).trans (grown_of_below (below_drewN (Below.refl _ _) 1) none)
              have HGA := Lib.hid hga
              have HHERE := Lib.hid (fun r hr => findSome_here (turnN cs f S) k j r HNO.out hlt hr)
              obtain ⟨rec, hrec⟩ : ∃ rec, searchN cs f T = rec := ⟨_, rfl⟩
              rw [hrec] at HIH HTN
              clear hga hrec
              go_wp2_with (first
                | (go_at_call 28; refine (HH.out _).mono ?_; rintro e w' ⟨rfl, rfl⟩)
                | (go_at_call 32; refine (HCT.out _).mono ?_; rintro e w' ⟨rfl, rfl⟩))
              cases rec with
              | none =>
                have HN2 := Lib.hid (HNX.out (by rw [HTN.out]; rfl))
                clear HNX HTN HHERE
                go_region_with (first
                  | (go_at_call 27; refine (HS1.out _).mono ?_; rintro e w' ⟨rfl, rfl⟩)
                  | (go_at_call 31; rw [HOR.out]; refine (HIH.out _ HGA.out).mono ?_; rintro e w' ⟨hg3, ⟨nb3, hnb3, hm3⟩, rfl⟩; have H3 := Lib.hid (And.intro hg3 hm3); clear hg3 hm3))
                all_goals
                  go_wp2_with (fail)
                  go_roundw
                  case rel => exact ⟨j + 1, nb3, by omega, by go_num, by rw [HJQ.out]; omega, HN2, Lib.hid H3.out.2, Lib.hid (HGR.out.trans ((HGA.out.but (some b)).trans H3.out.1))⟩
                  case measure => simp [intOf]; omega
              | some r =>
                have HSOR : Hid (so = some (z :: r)) := Lib.hid (by rw [HD.out]; exact HHERE.out _ HTN.out)
                have hzl := HLEN.out _ HSOR.out
                rw [List.length_cons] at hzl
                have HRL : Hid ((z :: r).length = r.length + 1) := Lib.hid rfl
                obtain ⟨rl, hrl⟩ : ∃ rl, r.length = rl := ⟨_, rfl⟩
                unfold RowV at HIH
                rw [hrl] at hzl HRL
                simp only [hrl] at HIH
                clear HNX HTN HHERE hrl
                go_region_with (first
                  | (go_at_call 27; refine (HS1.out _).mono ?_; rintro e w' ⟨rfl, rfl⟩)
                  | (go_at_call 31; rw [HOR.out]; refine (HIH.out _ HGA.out).mono ?_; rintro e w3 ⟨hg3, ⟨nb3, hnb3, hm3⟩, a3, c3, rfl, _, hrow⟩; have hs3 := hg3.size; have H3 := Lib.hid (And.intro hg3 (And.intro hm3 hrow)); clear hg3 hm3 hrow))
                all_goals
                  go_wp2_with (at_builtin; refine wpList_app_row1 rfl (.tmp 53) (.tmp 54) rfl z _ _ rfl rfl a3 rl c3 r rfl (by omega) hs3 H3.out.2.2 ?_; intro a4 c4 w4 hrow4 hg4; have H4 := Lib.hid (And.intro hrow4 (fun row => hg4 row)); clear hrow4 hg4)
                  go_ret2
                  have hg03 := HGW.out.trans ((HGA.out.but (some b)).trans H3.out.1)
                  refine ⟨hg03.trans (H4.out.2 (some b)), ⟨nb3, by omega, H3.out.2.1.kept (H4.out.2 none) (by simp)⟩, ?_⟩
                  rw [HSOR.out]
                  refine ⟨a4, c4, by rw [HRL.out]; rfl, by rw [HRL.out]; omega, ?_⟩
                  rw [HRL.out]
                  exact ownsRow_weaken H4.out.1 hg03.size
        · obtain rfl : j = k := by omega
          have HNONE : Hid (so = none) := Lib.hid (by rw [HD.out]; exact findSome_none _ _ HNO.out)
          obtain ⟨D2, hown2, hgood2⟩ := HMR.out
          have HO2 := Lib.hid hown2
          have HG22 := Lib.hid hgood2
          clear hown2 hgood2
          have hjq : j * q ≤ 12 * q := Nat.mul_le_mul_right _ (by omega)
          obtain ⟨jq, hjq'⟩ : ∃ x, j * q = x := ⟨_, rfl⟩
          rw [hjq'] at hjq hnbj
          clear hjq'
          go_wp2_with (at_mapUpdate; refine wpList_mapUpdate_own _ rfl _ _ _ 73 rfl 68 4 keyedSet mapUnder _ b nbj D2 rfl HO2.out (by unfold maxLen; omega) _ _ (.int .u16 (S : Int)) rfl rfl (keySet (by omega)) (.lit (.bool true)) [] (plainElem_bool boolUnder true) ?_; intro w5 hown5 hgrow5; have H5 := Lib.hid (And.intro hown5 hgrow5); clear hown5 hgrow5)
          go_ret2
          exact ⟨HGW.out.trans H5.out.2, ⟨nbj + 1, by omega, _, H5.out.1, HG22.out.put HO2.out.isMap (by rw [HSO.out, HNONE.out])⟩, by rw [HNONE.out]; rfl⟩
end

end Go.Proofs.Yteckeobhlfddlaa.Rib
