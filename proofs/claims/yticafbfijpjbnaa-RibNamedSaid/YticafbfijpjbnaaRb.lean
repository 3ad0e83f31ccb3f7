/-
  The sets of package rib: naturals below 65536, bit by bit.
-/
import Derived.Test.YticafbfijpjbnaaRa
import Derived.Laws.BitsAllLaws
import Derived.Laws.ShiftsVarLaws
import Derived.Laws.Shifts
namespace Go.Proofs.Yticafbfijpjbnaa
open Go.RowKit Go.Sort

theorem bit_and1 (s i : Nat) (hs : s < 65536) : (bits .and .u16 ((s : Int) / 2 ^ i) 1 == 1) = s.testBit i := by
  have e : ((s : Int) / 2 ^ i) = ((s / 2 ^ i : Nat) : Int) := by simp
  have hlt : s / 2 ^ i < 65536 := Nat.lt_of_le_of_lt (Nat.div_le_self _ _) hs
  rw [e, show (1 : Int) = ((1 : Nat) : Int) from rfl, u16_and_nat _ _ hlt (by decide), nat_mask1, Nat.testBit_eq_decide_div_mod_eq, Bool.eq_iff_iff, beq_iff_eq, decide_eq_true_eq]
  omega

theorem has_any (s i : Nat) (w : World) (hs : s < 65536) (hi : i < 16) :
    Calls Try.prog 67 #[.int .u16 s, .int .i64 i] w fun e w' => e = .returned (.bool (s.testBit i)) ∧ w = w' := by
  have HE := Lib.hid (bit_and1 s i hs)
  go_enter Try.func67, Try.ntmps67
  go_wp2
  go_ret
  exact ⟨ret_bool HE.out, rfl⟩

/-- Whether a set contains another one. -/
def subB (s t : Nat) : Bool := t &&& (65535 - s) == 0
theorem contains_any (s t : Nat) (w : World) (hs : s < 65536) (ht : t < 65536) :
    Calls Try.prog 71 #[.int .u16 s, .int .u16 t] w fun e w' => e = .returned (.bool (subB s t)) ∧ w = w' := by
  have HE : Hid ((bits .andNot .u16 (t : Int) (s : Int) == 0) = subB s t) := Lib.hid (by
    rw [u16_andNot_nat t s ht hs, subB, Bool.eq_iff_iff, beq_iff_eq, beq_iff_eq]; omega)
  go_enter Try.func71, Try.ntmps71
  go_wp2
  go_ret
  exact ⟨ret_bool HE.out, rfl⟩

theorem wrap_nodes : ∀ n, n < 13 → IntKind.u16.wrap (IntKind.u16.wrap (2 ^ n) - 1) = ((2 ^ n - 1 : Nat) : Int) := by decide
theorem wrap_one : ∀ n, n < 16 → IntKind.u16.wrap (2 ^ n) = ((2 ^ n : Nat) : Int) := by decide
theorem nodes_any (a : Option Addr) (n cap : Nat) (w : World) (hn : n ≤ 12) :
    Calls Try.prog 68 #[.slice a n cap] w fun e w' => e = .returned (.int .u16 ((2 ^ n - 1 : Nat) : Int)) ∧ w = w' := by
  have HE := Lib.hid (wrap_nodes n (by omega))
  go_enter Try.func68, Try.ntmps68
  go_wp2
  go_ret
  exact ⟨congrArg (fun z => Ending.returned (Value.int .u16 z)) HE.out, rfl⟩

/-- The set of some numbers. -/
def setN' (L : List Nat) : Nat := L.foldl (fun s i => s ||| 2 ^ i) 0
theorem setN'_snoc (L : List Nat) (i : Nat) : setN' (L ++ [i]) = setN' L ||| 2 ^ i := by simp [setN', List.foldl_append]
theorem setN'_lt (L : List Nat) (h : ∀ i ∈ L, i < 16) : setN' L < 65536 := by
  have key : ∀ (L : List Nat) (s : Nat), (∀ i ∈ L, i < 16) → s < 65536 → L.foldl (fun s i => s ||| 2 ^ i) s < 65536 := by
    intro L
    induction L with
    | nil => intro s _ hs; exact hs
    | cons i L ih =>
      intro s h hs
      refine ih _ (fun j hj => h j (by simp [hj])) (Nat.or_lt_two_pow (n := 16) hs ?_)
      exact Nat.pow_lt_pow_right (by omega) (h i (by simp))
  exact key L 0 h (by decide)
theorem testBit_setN' (L : List Nat) (j : Nat) : (setN' L).testBit j = L.contains j := by
  have key : ∀ (L : List Nat) (s : Nat), (L.foldl (fun s i => s ||| 2 ^ i) s).testBit j = (s.testBit j || L.contains j) := by
    intro L
    induction L with
    | nil => intro s; simp
    | cons i L ih =>
      intro s
      rw [List.foldl_cons, ih, Nat.testBit_or, Nat.testBit_two_pow, List.contains_cons, Bool.or_assoc]
      congr 2
      rw [Bool.eq_iff_iff, decide_eq_true_eq, beq_iff_eq]
      exact eq_comm
  rw [setN', key, Nat.zero_testBit, Bool.false_or]

set_option maxHeartbeats 1000000 in
theorem setOf_any (a : Option Addr) (n cap : Nat) (L : List Nat) (w : World) (hn : L.length = n) (hm : n ≤ 1000) (hL : ∀ i ∈ L, i < 16) (hz : Ints w a (L.map fun (x : Nat) => (x : Int))) :
    Calls Try.prog 66 #[.slice a n cap] w fun e w' => e = .returned (.int .u16 (setN' L)) ∧ w = w' := by
  have HX := Lib.hid hz.at
  have HL := Lib.hid hL
  have HN := Lib.hid hn
  clear hz hL hn
  go_enter Try.func66, Try.ntmps66
  go_wp2
  go_loop [3, 8] (fun s i => ∃ k : Nat, k ≤ n ∧ i = .int .i64 k ∧ s = .int .u16 (setN' (L.take k) : Nat)) (fun _ i => n - (intOf i).toNat)
  case atStart => exact ⟨0, Nat.zero_le _, rfl, rfl⟩
  case round =>
    obtain ⟨k, hk, rfl, rfl⟩ := hrel
    by_cases hlt : k < n
    · have hkL : k < L.length := by rw [HN.out]; exact hlt
      rcases HX.out with h | ⟨b, off, rfl, hc⟩
      · rw [List.map_eq_nil_iff] at h; subst h; simp at hkL
      have cc := hc k (by simpa using hkL)
      have e0 : (L.map fun (x : Nat) => (x : Int))[k]?.getD 0 = ((L[k] : Nat) : Int) := by simp [hkL]
      rw [e0] at cc
      have hb := HL.out _ (List.getElem_mem hkL)
      have HT : Hid (setN' (L.take (k + 1)) = setN' (L.take k) ||| 2 ^ L[k]) := Lib.hid (by rw [List.take_succ_eq_append_getElem hkL, setN'_snoc])
      have hs := setN'_lt (L.take k) (fun i hi => HL.out i (List.mem_of_mem_take hi))
      obtain ⟨s, hss⟩ : ∃ s, setN' (L.take k) = s := ⟨_, rfl⟩
      rw [hss] at HT hs ⊢
      obtain ⟨x, hx⟩ : ∃ x, L[k] = x := ⟨_, rfl⟩
      rw [hx] at cc hb HT
      have HW := Lib.hid (wrap_one x hb)
      have HP : Hid (2 ^ x < 65536) := Lib.hid (Nat.pow_lt_pow_right (m := x) (n := 16) (by omega) hb)
      clear hc e0 hss hx hkL
      go_wp2
      go_round
      case rel => exact ⟨k + 1, by omega, by go_num, by rw [HT.out, HW.out, u16_or_nat _ _ hs HP.out]⟩
      case measure => simp [intOf]; omega
    · go_wp2
      go_ret
      have hk' : k = L.length := by rw [HN.out]; omega
      subst hk'
      exact ⟨by rw [List.take_length]; rfl, rfl⟩

/-- What a slice of sets holds. -/
def Sets (w : World) (a : Option Addr) (gs : List Nat) : Prop := ∀ i, i < gs.length → ∃ b off, a = some ⟨b, off, none⟩ ∧ w.cell? ⟨b, off + i, none⟩ = some (.int .u16 ((gs[i]?.getD 0 : Nat) : Int))
theorem Sets.at {w : World} {a : Option Addr} {gs : List Nat} (h : Sets w a gs) : (gs = [] ∨ ∃ b off, a = some ⟨b, off, none⟩ ∧ ∀ i, i < gs.length → w.cell? ⟨b, off + i, none⟩ = some (.int .u16 ((gs[i]?.getD 0 : Nat) : Int))) := by
  cases gs with
  | nil => exact .inl rfl
  | cons z gs =>
    obtain ⟨b, off, rfl, _⟩ := h 0 (by simp)
    refine .inr ⟨b, off, rfl, fun i hi => ?_⟩
    obtain ⟨b', off', e, hc⟩ := h i hi
    cases e; exact hc
theorem Sets.below {w w' : World} {a : Option Addr} {gs : List Nat} (h : Sets w a gs) (hb : Below w.heap.size w w') : Sets w' a gs := fun i hi => by
  obtain ⟨b, off, e, hc⟩ := h i hi
  exact ⟨b, off, e, (hb.cell (p := ⟨b, off + i, none⟩) (World.block_lt_of_cell? w _ hc)).trans hc⟩

/-- Whether a set is a clique of a graph: the neighbours of each node, itself among them, contain it. -/
def cliqueAt (gs : List Nat) (s v : Nat) : Bool := !(s.testBit v && !subB (gs[v]?.getD 0) s)
def cliqueB (gs : List Nat) (s : Nat) : Bool := (List.range gs.length).all (cliqueAt gs s)
theorem range_next (p : Nat → Bool) (k : Nat) (h : (List.range k).all p = true) (hp : p k = true) : (List.range (k + 1)).all p = true := by
  rw [List.range_succ, List.all_append, h]; simp [hp]
theorem range_false (p : Nat → Bool) (n k : Nat) (hk : k < n) (hp : p k = false) : (List.range n).all p = false := by
  rw [Bool.eq_false_iff]
  intro h
  rw [List.all_eq_true] at h
  have := h k (List.mem_range.2 hk)
  rw [hp] at this; cases this

set_option maxHeartbeats 1000000 in
theorem isClique_any (a : Option Addr) (n cap s : Nat) (gs : List Nat) (w : World) (hn : gs.length = n) (hm : n ≤ 12) (hs : s < 65536) (hg : ∀ i, i < n → gs[i]?.getD 0 < 65536) (hz : Sets w a gs) :
    Calls Try.prog 69 #[.slice a n cap, .int .u16 s] w fun e w' => e = .returned (.bool (cliqueB gs s)) ∧ w = w' := by
  have HX := Lib.hid hz.at
  have HN := Lib.hid hn
  have HG := Lib.hid hg
  clear hz hn hg
  go_enter Try.func69, Try.ntmps69
  go_wp2
  go_loop [8] (fun i => ∃ k : Nat, k ≤ n ∧ i = .int .i64 k ∧ (List.range k).all (cliqueAt gs s) = true) (fun i => n - (intOf i).toNat)
  case atStart => exact ⟨0, Nat.zero_le _, rfl, rfl⟩
  case round =>
    obtain ⟨k, hk, rfl, hall⟩ := hrel
    have HA := Lib.hid hall
    clear hall
    by_cases hlt : k < n
    · have hkL : k < gs.length := by rw [HN.out]; exact hlt
      rcases HX.out with h | ⟨b, off, rfl, hc⟩
      · subst h; simp at hkL
      have cc := hc k hkL
      have hgk := HG.out k hlt
      have HC : Hid (cliqueAt gs s k = !(s.testBit k && !subB (gs[k]?.getD 0) s)) := Lib.hid rfl
      obtain ⟨y, hy⟩ : ∃ y, gs[k]?.getD 0 = y := ⟨_, rfl⟩
      rw [hy] at cc hgk HC
      have H1 := Lib.hid (fun wx => has_any s k wx hs (by omega))
      have H2 := Lib.hid (fun wx => contains_any y s wx hgk hs)
      clear hc hy hkL
      cases h1 : s.testBit k with
      | false =>
        rw [h1] at H1 HC
        clear h1
        go_wp2_with (first
          | (go_at_call 67; refine (H1.out _).mono ?_; rintro e w' ⟨rfl, rfl⟩))
        go_round
        case rel => exact ⟨k + 1, by omega, by go_num, range_next _ _ HA.out (by rw [HC.out]; rfl)⟩
        case measure => simp [intOf]; omega
      | true =>
        rw [h1] at H1 HC
        clear h1
        cases h2 : subB y s with
        | true =>
          rw [h2] at H2 HC
          clear h2
          go_wp2_with (first
            | (go_at_call 67; refine (H1.out _).mono ?_; rintro e w' ⟨rfl, rfl⟩)
            | (go_at_call 71; refine (H2.out _).mono ?_; rintro e w' ⟨rfl, rfl⟩))
          go_round
          case rel => exact ⟨k + 1, by omega, by go_num, range_next _ _ HA.out (by rw [HC.out]; rfl)⟩
          case measure => simp [intOf]; omega
        | false =>
          rw [h2] at H2 HC
          clear h2
          go_wp2_with (first
            | (go_at_call 67; refine (H1.out _).mono ?_; rintro e w' ⟨rfl, rfl⟩)
            | (go_at_call 71; refine (H2.out _).mono ?_; rintro e w' ⟨rfl, rfl⟩))
          go_ret
          exact ⟨ret_bool (Eq.symm (range_false _ _ k (by rw [HN.out]; exact hlt) (by rw [HC.out]; rfl))), rfl⟩
    · go_wp2
      go_ret
      have hk' : k = gs.length := by rw [HN.out]; omega
      subst hk'
      exact ⟨ret_bool HA.out.symm, rfl⟩

end Go.Proofs.Yticafbfijpjbnaa
