/-
  Sets, cliques, permutations, eliminations, lists: the walks.
-/
import Derived.Test.YteckeobhlfddlaaRa
import Derived.Laws.BitsAllLaws
import Derived.Laws.ShiftsVarLaws
import Derived.Laws.Shifts
namespace Go.Proofs.Yteckeobhlfddlaa.Rib

section
open Go.RowKit Go.Sort

theorem bit_and1 (s i : Nat) (hs : s < 65536) : (bits .and .u16 ((s : Int) / 2 ^ i) 1 == 1) = s.testBit i := by
  have e : ((s : Int) / 2 ^ i) = ((s / 2 ^ i : Nat) : Int) := by simp
  have hlt : s / 2 ^ i < 65536 := Nat.lt_of_le_of_lt (Nat.div_le_self _ _) hs
  rw [e, show (1 : Int) = ((1 : Nat) : Int) from rfl, u16_and_nat _ _ hlt (by decide), nat_mask1, Nat.testBit_eq_decide_div_mod_eq, Bool.eq_iff_iff, beq_iff_eq, decide_eq_true_eq]
  omega

theorem has_any (s i : Nat) (w : World) (hs : s < 65536) (hi : i < 16) :
    Calls Try.prog 28 #[.int .u16 s, .int .i64 i] w fun e w' => e = .returned (.bool (s.testBit i)) ∧ w = w' := by
  have HE := Lib.hid (bit_and1 s i hs)
  go_enter Try.func28, Try.ntmps28
  go_wp2
  go_ret
  exact ⟨ret_bool HE.out, rfl⟩

/-- Whether a set contains another one. -/
def subB (s t : Nat) : Bool := t &&& (65535 - s) == 0
theorem contains_any (s t : Nat) (w : World) (hs : s < 65536) (ht : t < 65536) :
    Calls Try.prog 32 #[.int .u16 s, .int .u16 t] w fun e w' => e = .returned (.bool (subB s t)) ∧ w = w' := by
  have HE : Hid ((bits .andNot .u16 (t : Int) (s : Int) == 0) = subB s t) := Lib.hid (by
    rw [u16_andNot_nat t s ht hs, subB, Bool.eq_iff_iff, beq_iff_eq, beq_iff_eq]; omega)
  go_enter Try.func32, Try.ntmps32
  go_wp2
  go_ret
  exact ⟨ret_bool HE.out, rfl⟩

theorem wrap_nodes : ∀ n, n < 13 → IntKind.u16.wrap (IntKind.u16.wrap (2 ^ n) - 1) = ((2 ^ n - 1 : Nat) : Int) := by decide
theorem wrap_one : ∀ n, n < 16 → IntKind.u16.wrap (2 ^ n) = ((2 ^ n : Nat) : Int) := by decide
theorem nodes_any (a : Option Addr) (n cap : Nat) (w : World) (hn : n ≤ 12) :
    Calls Try.prog 30 #[.slice a n cap] w fun e w' => e = .returned (.int .u16 ((2 ^ n - 1 : Nat) : Int)) ∧ w = w' := by
  have HE := Lib.hid (wrap_nodes n (by omega))
  go_enter Try.func30, Try.ntmps30
  go_wp2
  go_ret
  exact ⟨congrArg (fun z => Ending.returned (Value.int .u16 z)) HE.out, rfl⟩

/-- The set of some numbers. -/
def setN' (L : List Nat) : Nat := L.foldl (fun s i => s ||| 2 ^ i) 0
theorem setN'_snoc (L : List Nat) (i : Nat) : setN' (L ++ [i]) = setN' L ||| 2 ^ i := by simp [setN', List.foldl_append]
theorem setN'_lt (L : List Nat) (h : ∀ i ∈ L, i < 16) : setN' L < 65536 := by
  have key : ∀ (L : List Nat) (s : Nat), (∀ i ∈ L, i < 16) → s < 65536 → L.foldl (fun s i => s ||| 2 ^ i) s < 65536 := by
    intro L
    induction L with
    | nil => intro s _ hs; exact hs
    | cons i L ih =>
      intro s h hs
      refine ih _ (fun j hj => h j (by simp [hj])) (Nat.or_lt_two_pow (n := 16) hs ?_)
      exact Nat.pow_lt_pow_right (by omega) (h i (by simp))
  exact key L 0 h (by decide)
theorem testBit_setN' (L : List Nat) (j : Nat) : (setN' L).testBit j = L.contains j := by
  have key : ∀ (L : List Nat) (s : Nat), (L.foldl (fun s i => s ||| 2 ^ i) s).testBit j = (s.testBit j || L.contains j) := by
    intro L
    induction L with
    | nil => intro s; simp
    | cons i L ih =>
      intro s
      rw [List.foldl_cons, ih, Nat.testBit_or, Nat.testBit_two_pow, List.contains_cons, Bool.or_assoc]
      congr 2
      rw [Bool.eq_iff_iff, decide_eq_true_eq, beq_iff_eq]
      exact eq_comm
  rw [setN', key, Nat.zero_testBit, Bool.false_or]

set_option maxHeartbeats 1000000 in
theorem setOf_any (a : Option Addr) (n cap : Nat) (L : List Nat) (w : World) (hn : L.length = n) (hm : n ≤ 1000) (hL : ∀ i ∈ L, i < 16) (hz : Ints w a (L.map fun (x : Nat) => (x : Int))) :
    Calls Try.prog 27 #[.slice a n cap] w fun e w' => e = .returned (.int .u16 (setN' L)) ∧ w = w' := by
  have HX := Lib.hid hz.at
  have HL := Lib.hid hL
  have HN := Lib.hid hn
  clear hz hL hn
  go_enter Try.func27, Try.ntmps27
  go_wp2
  go_loop [3, 8] (fun s i => ∃ k : Nat, k ≤ n ∧ i = .int .i64 k ∧ s = .int .u16 (setN' (L.take k) : Nat)) (fun _ i => n - (intOf i).toNat)
  case atStart => exact ⟨0, Nat.zero_le _, rfl, rfl⟩
  case round =>
    obtain ⟨k, hk, rfl, rfl⟩ := hrel
    by_cases hlt : k < n
    · have hkL : k < L.length := by rw [HN.out]; exact hlt
      rcases HX.out with h | ⟨b, off, rfl, hc⟩
      · rw [List.map_eq_nil_iff] at h; subst h; simp at hkL
      have cc := hc k (by simpa using hkL)
      have e0 : (L.map fun (x : Nat) => (x : Int))[k]?.getD 0 = ((L[k] : Nat) : Int) := by simp [hkL]
      rw [e0] at cc
      have hb := HL.out _ (List.getElem_mem hkL)
      have HT : Hid (setN' (L.take (k + 1)) = setN' (L.take k) ||| 2 ^ L[k]) := Lib.hid (by rw [List.take_succ_eq_append_getElem hkL, setN'_snoc])
      have hs := setN'_lt (L.take k) (fun i hi => HL.out i (List.mem_of_mem_take hi))
      obtain ⟨s, hss⟩ : ∃ s, setN' (L.take k) = s := ⟨_, rfl⟩
      rw [hss] at HT hs ⊢
      obtain ⟨x, hx⟩ : ∃ x, L[k] = x := ⟨_, rfl⟩
      rw [hx] at cc hb HT
      have HW := Lib.hid (wrap_one x hb)
      have HP : Hid (2 ^ x < 65536) := Lib.hid (Nat.pow_lt_pow_right (m := x) (n := 16) (by omega) hb)
      clear hc e0 hss hx hkL
      go_wp2
      go_round
      case rel => exact ⟨k + 1, by omega, by go_num, by rw [HT.out, HW.out, u16_or_nat _ _ hs HP.out]⟩
      case measure => simp [intOf]; omega
    · go_wp2
      go_ret
      have hk' : k = L.length := by rw [HN.out]; omega
      subst hk'
      exact ⟨by rw [List.take_length]; rfl, rfl⟩

/-- What a slice of sets holds. -/
def Sets (w : World) (a : Option Addr) (gs : List Nat) : Prop := ∀ i, i < gs.length → ∃ b off, a = some ⟨b, off, none⟩ ∧ w.cell? ⟨b, off + i, none⟩ = some (.int .u16 ((gs[i]?.getD 0 : Nat) : Int))
theorem Sets.at {w : World} {a : Option Addr} {gs : List Nat} (h : Sets w a gs) : (gs = [] ∨ ∃ b off, a = some ⟨b, off, none⟩ ∧ ∀ i, i < gs.length → w.cell? ⟨b, off + i, none⟩ = some (.int .u16 ((gs[i]?.getD 0 : Nat) : Int))) := by
  cases gs with
  | nil => exact .inl rfl
  | cons z gs =>
    obtain ⟨b, off, rfl, _⟩ := h 0 (by simp)
    refine .inr ⟨b, off, rfl, fun i hi => ?_⟩
    obtain ⟨b', off', e, hc⟩ := h i hi
    cases e; exact hc
theorem Sets.below {w w' : World} {a : Option Addr} {gs : List Nat} (h : Sets w a gs) (hb : Below w.heap.size w w') : Sets w' a gs := fun i hi => by
  obtain ⟨b, off, e, hc⟩ := h i hi
  exact ⟨b, off, e, (hb.cell (p := ⟨b, off + i, none⟩) (World.block_lt_of_cell? w _ hc)).trans hc⟩

/-- Whether a set is a clique of a graph: the neighbours of each node, itself among them, contain it. -/
def cliqueAt (gs : List Nat) (s v : Nat) : Bool := !(s.testBit v && !subB (gs[v]?.getD 0) s)
def cliqueB (gs : List Nat) (s : Nat) : Bool := (List.range gs.length).all (cliqueAt gs s)
theorem range_next (p : Nat → Bool) (k : Nat) (h : (List.range k).all p = true) (hp : p k = true) : (List.range (k + 1)).all p = true := by
  rw [List.range_succ, List.all_append, h]; simp [hp]
theorem range_false (p : Nat → Bool) (n k : Nat) (hk : k < n) (hp : p k = false) : (List.range n).all p = false := by
  rw [Bool.eq_false_iff]
  intro h
  rw [List.all_eq_true] at h
  have := h k (List.mem_range.2 hk)
  rw [hp] at this; cases this

set_option maxHeartbeats 1000000 in
theorem isClique_any (a : Option Addr) (n cap s : Nat) (gs : List Nat) (w : World) (hn : gs.length = n) (hm : n ≤ 12) (hs : s < 65536) (hg : ∀ i, i < n → gs[i]?.getD 0 < 65536) (hz : Sets w a gs) :
    Calls Try.prog 53 #[.slice a n cap, .int .u16 s] w fun e w' => e = .returned (.bool (cliqueB gs s)) ∧ w = w' := by
  have HX := Lib.hid hz.at
  have HN := Lib.hid hn
  have HG := Lib.hid hg
  clear hz hn hg
  go_enter Try.func53, Try.ntmps53
  go_wp2
  go_loop [8] (fun i => ∃ k : Nat, k ≤ n ∧ i = .int .i64 k ∧ (List.range k).all (cliqueAt gs s) = true) (fun i => n - (intOf i).toNat)
  case atStart => exact ⟨0, Nat.zero_le _, rfl, rfl⟩
  case round =>
    obtain ⟨k, hk, rfl, hall⟩ := hrel
    have HA := Lib.hid hall
    clear hall
    by_cases hlt : k < n
    · have hkL : k < gs.length := by rw [HN.out]; exact hlt
      rcases HX.out with h | ⟨b, off, rfl, hc⟩
      · subst h; simp at hkL
      have cc := hc k hkL
      have hgk := HG.out k hlt
      have HC : Hid (cliqueAt gs s k = !(s.testBit k && !subB (gs[k]?.getD 0) s)) := Lib.hid rfl
      obtain ⟨y, hy⟩ : ∃ y, gs[k]?.getD 0 = y := ⟨_, rfl⟩
      rw [hy] at cc hgk HC
      have H1 := Lib.hid (fun wx => has_any s k wx hs (by omega))
      have H2 := Lib.hid (fun wx => contains_any y s wx hgk hs)
      clear hc hy hkL
      cases h1 : s.testBit k with
      | false =>
        rw [h1] at H1 HC
        clear h1
        go_wp2_with (first
          | (go_at_call 28; refine (H1.out _).mono ?_; rintro e w' ⟨rfl, rfl⟩))
        go_round
        case rel => exact ⟨k + 1, by omega, by go_num, range_next _ _ HA.out (by rw [HC.out]; rfl)⟩
        case measure => simp [intOf]; omega
      | true =>
        rw [h1] at H1 HC
        clear h1
        cases h2 : subB y s with
        | true =>
          rw [h2] at H2 HC
          clear h2
          go_wp2_with (first
            | (go_at_call 28; refine (H1.out _).mono ?_; rintro e w' ⟨rfl, rfl⟩)
            | (go_at_call 32; refine (H2.out _).mono ?_; rintro e w' ⟨rfl, rfl⟩))
          go_round
          case rel => exact ⟨k + 1, by omega, by go_num, range_next _ _ HA.out (by rw [HC.out]; rfl)⟩
          case measure => simp [intOf]; omega
        | false =>
          rw [h2] at H2 HC
          clear h2
          go_wp2_with (first
            | (go_at_call 28; refine (H1.out _).mono ?_; rintro e w' ⟨rfl, rfl⟩)
            | (go_at_call 32; refine (H2.out _).mono ?_; rintro e w' ⟨rfl, rfl⟩))
          go_ret
          exact ⟨ret_bool (Eq.symm (range_false _ _ k (by rw [HN.out]; exact hlt) (by rw [HC.out]; rfl))), rfl⟩
    · go_wp2
      go_ret
      have hk' : k = gs.length := by rw [HN.out]; omega
      subst hk'
      exact ⟨ret_bool HA.out.symm, rfl⟩
end

section
open Go.RowKit Go.Sort

def nodeB (n : Nat) (z : Int) : Bool := decide (0 ≤ z) && decide (z < n)
theorem all_take_next {α : Type} (p : α → Bool) (l : List α) (k : Nat) (h : k < l.length) (ha : (l.take k).all p = true) (hp : p l[k] = true) : (l.take (k + 1)).all p = true := by
  rw [List.take_succ_eq_append_getElem h, List.all_append, ha]; simp [hp]
theorem all_at_false {α : Type} (p : α → Bool) (l : List α) (k : Nat) (h : k < l.length) (hp : p l[k] = false) : l.all p = false := by
  rw [Bool.eq_false_iff]; intro hc
  rw [List.all_eq_true] at hc
  have := hc _ (List.getElem_mem h)
  rw [hp] at this; cases this

theorem nodes_nat {n : Nat} {os : List Int} (h : os.all (nodeB n) = true) : os = (os.map Int.toNat).map (fun (x : Nat) => (x : Int)) ∧ ∀ x ∈ os.map Int.toNat, x < n := by
  rw [List.all_eq_true] at h
  refine ⟨?_, fun x hx => ?_⟩
  · rw [List.map_map]
    conv => lhs; rw [← List.map_id os]
    refine List.map_congr_left fun z hz => ?_
    have := h z hz
    simp only [nodeB, Bool.and_eq_true, decide_eq_true_eq] at this
    simp only [id, Function.comp]; omega
  · obtain ⟨z, hz, rfl⟩ := List.mem_map.1 hx
    have := h z hz
    simp only [nodeB, Bool.and_eq_true, decide_eq_true_eq] at this
    omega

/-- Whether numbers are each node once. -/
def permG (n : Nat) (os : List Int) : Bool := decide (os.length = n) && (os.all (nodeB n) && (setN' (os.map Int.toNat) == 2 ^ n - 1))
theorem pow_small {n : Nat} (hn : n ≤ 12) : 2 ^ n - 1 < 65536 := by
  have := Nat.pow_le_pow_right (n := 2) (by omega) hn
  omega

/-- Whether an order eliminates what is left, node by node. -/
def elimFrom (gs : List Nat) : Nat → List Nat → Bool
  | _, [] => true
  | left, v :: O => cliqueB gs (gs[v]?.getD 0 &&& left) && elimFrom gs (left &&& (65535 - 2 ^ v)) O
end

section
open Go.RowKit Go.Sort

/-- Whether a node of a set can be eliminated from it. -/
def elimAt (gs : List Nat) (left v : Nat) : Bool := left.testBit v && cliqueB gs (gs[v]?.getD 0 &&& left)
/-- The least such node. -/
def elimOf (gs : List Nat) (left : Nat) : Option Nat := (List.range gs.length).find? (elimAt gs left)
theorem find_next (p : Nat → Bool) (k : Nat) (h : (List.range k).find? p = none) (hp : p k = false) : (List.range (k + 1)).find? p = none := by
  rw [List.range_succ, List.find?_append, h]; simp [hp]
theorem find_here (p : Nat → Bool) (n k : Nat) (h : (List.range k).find? p = none) (hk : k < n) (hp : p k = true) : (List.range n).find? p = some k := by
  have e : n = k + (n - k) := by omega
  rw [e, List.range_add, List.find?_append, h]
  obtain ⟨d, hd⟩ : ∃ d, n - k = d + 1 := ⟨n - k - 1, by omega⟩
  rw [hd, List.range_succ_eq_map]
  simp [hp]
/-- What 'eliminable' answers. -/
def elimVal : Option Nat → Ending
  | some v => .returned (.tuple #[.int .i64 (v : Int), .bool true])
  | none => .returned (.tuple #[.int .i64 0, .bool false])

set_option maxHeartbeats 1000000 in
theorem eliminable_any (a : Option Addr) (n cap left : Nat) (gs : List Nat) (w : World) (hn : gs.length = n) (hm : n ≤ 12) (hs : left < 65536) (hg : ∀ i, i < n → gs[i]?.getD 0 < 65536) (hz : Sets w a gs) :
    Calls Try.prog 44 #[.slice a n cap, .int .u16 left] w fun e w' => e = elimVal (elimOf gs left) ∧ w = w' := by
  have HX := Lib.hid hz.at
  have HZ := Lib.hid hz
  have HN := Lib.hid hn
  have HG := Lib.hid hg
  clear hz hn hg
  go_enter Try.func44, Try.ntmps44
  go_wp2
  go_loop [9] (fun i => ∃ k : Nat, k ≤ n ∧ i = .int .i64 k ∧ (List.range k).find? (elimAt gs left) = none) (fun i => n - (intOf i).toNat)
  case atStart => exact ⟨0, Nat.zero_le _, rfl, rfl⟩
  case round =>
    obtain ⟨k, hk, rfl, hall⟩ := hrel
    have HA := Lib.hid hall
    clear hall
    by_cases hlt : k < n
    · have hkL : k < gs.length := by rw [HN.out]; exact hlt
      rcases HX.out with h | ⟨b, off, rfl, hc⟩
      · subst h; simp at hkL
      have cc := hc k hkL
      have hgk := HG.out k hlt
      have HC : Hid (elimAt gs left k = (left.testBit k && cliqueB gs (gs[k]?.getD 0 &&& left))) := Lib.hid rfl
      obtain ⟨y, hy⟩ : ∃ y, gs[k]?.getD 0 = y := ⟨_, rfl⟩
      rw [hy] at cc hgk HC
      have hyl : y &&& left < 65536 := Nat.lt_of_le_of_lt Nat.and_le_left hgk
      have HB : Hid (bits .and .u16 (y : Int) (left : Int) = ((y &&& left : Nat) : Int)) := Lib.hid (u16_and_nat _ _ hgk hs)
      have H1 := Lib.hid (fun wx => has_any left k wx hs (by omega))
      have H2 := Lib.hid (isClique_any (some ⟨b, off, none⟩) n cap (y &&& left) gs w HN.out hm hyl HG.out HZ.out)
      have HF := Lib.hid (fun hp => find_here (elimAt gs left) gs.length k HA.out hkL hp)
      clear hc hy hkL hyl
      cases h1 : left.testBit k with
      | false =>
        rw [h1] at H1 HC
        clear h1
        go_wp2_with (first
          | (go_at_call 28; refine (H1.out _).mono ?_; rintro e w' ⟨rfl, rfl⟩))
        go_round
        case rel => exact ⟨k + 1, by omega, by go_num, find_next _ _ HA.out (by rw [HC.out]; rfl)⟩
        case measure => simp [intOf]; omega
      | true =>
        rw [h1] at H1 HC
        clear h1
        cases h2 : cliqueB gs (y &&& left) with
        | false =>
          rw [h2] at H2 HC
          clear h2
          go_wp2_with (first
            | (go_at_call 28; refine (H1.out _).mono ?_; rintro e w' ⟨rfl, rfl⟩)
            | (go_at_call 53; rw [HB.out]; refine H2.out.mono ?_; rintro e w' ⟨rfl, rfl⟩))
          go_round
          case rel => exact ⟨k + 1, by omega, by go_num, find_next _ _ HA.out (by rw [HC.out]; rfl)⟩
          case measure => simp [intOf]; omega
        | true =>
          rw [h2] at H2 HC
          clear h2
          go_wp2_with (first
            | (go_at_call 28; refine (H1.out _).mono ?_; rintro e w' ⟨rfl, rfl⟩)
            | (go_at_call 53; rw [HB.out]; refine H2.out.mono ?_; rintro e w' ⟨rfl, rfl⟩))
          go_ret2
          exact ⟨by rw [elimOf, HF.out (by rw [HC.out]; rfl)]; rfl, rfl⟩
    · go_wp2
      go_ret2
      have hk' : k = gs.length := by rw [HN.out]; omega
      subst hk'
      exact ⟨by rw [elimOf, HA.out]; rfl, rfl⟩
end

section
open Go.RowKit Go.Sort

/-- The word of a loop that collects integers, from nil. -/
def CollN (w : World) (l : List Int) (k : Nat) (v : Value) (wr : World) : Prop := Below w.heap.size w wr ∧ l.length = k ∧ wr.ownsRow w.heap.size 3 1 v k (l.map (Value.int .i64))
theorem CollN.start (w : World) : CollN w [] 0 (.slice none 0 0) w := ⟨Below.refl _ _, rfl, rfl, .inl ⟨rfl, rfl⟩⟩
theorem CollN.next {w wr w2 : World} {l : List Int} {k : Nat} {v : Value} {z : Int} {g cap : Nat} (h : CollN w l k v wr) (hr : w2.ownsRow w.heap.size 3 1 (.slice (some ⟨g, 0, none⟩) (k + 1) cap) (k + 1) (l.map (Value.int .i64) ++ [.int .i64 z])) (hg : wr.grownBy w2 v.ownBlock) : CollN w (l ++ [z]) (k + 1) (.slice (some ⟨g, 0, none⟩) (k + 1) cap) w2 := by
  obtain ⟨hb, hl, h0⟩ := h
  exact ⟨hb.grown hg hb.size (fun q hq => (h0.lt q hq).1), by simp [hl], by simpa using hr⟩
theorem CollN.alloc {w wr : World} {l : List Int} {k : Nat} {v : Value} (h : CollN w l k v wr) (o : Obj) : CollN w l k v (wr.alloc o) := ⟨h.1.alloc h.1.size _, h.2.1, h.2.2.alloc _⟩
theorem CollN.slice {w wr : World} {l : List Int} {k : Nat} {v : Value} (h : CollN w l k v wr) : ∃ a cap, v = .slice a k cap := ownsRow_slice h.2.2
theorem CollN.ints {w wr : World} {l : List Int} {k cap : Nat} {a : Option Addr} (h : CollN w l k (.slice a k cap) wr) : Ints wr a l := Ints.of_owns h.2.2
/-- What a call that collects integers hands back. -/
def GivesN (L : List Int) (w : World) (e : Ending) (w' : World) : Prop := ∃ a cap, e = .returned (.slice a L.length cap) ∧ CollN w L L.length (.slice a L.length cap) w'
theorem CollN.gives {w wr : World} {l : List Int} {k : Nat} {v : Value} (h : CollN w l k v wr) : GivesN l w (.returned v) wr := by
  obtain ⟨a, cap, rfl⟩ := h.slice
  obtain rfl := h.2.1
  exact ⟨a, cap, rfl, h⟩

/-- The numbers of a set, rising. -/
def listN (s : Nat) : List Nat := (List.range 12).filter fun i => s.testBit i
def listTo (s k : Nat) : List Int := ((List.range k).filter fun i => s.testBit i).map fun (x : Nat) => (x : Int)
theorem listTo_yes {s k : Nat} (h : s.testBit k = true) : listTo s (k + 1) = listTo s k ++ [(k : Int)] := by simp [listTo, List.range_succ, h]
theorem listTo_no {s k : Nat} (h : s.testBit k = false) : listTo s (k + 1) = listTo s k := by simp [listTo, List.range_succ, h]
theorem listTo_len (s k : Nat) : (listTo s k).length ≤ k := by
  rw [listTo, List.length_map]; exact Nat.le_trans (List.length_filter_le _ _) (by simp)

set_option maxRecDepth 100000 in
set_option maxHeartbeats 2000000 in
theorem list_any (s : Nat) (w : World) (hs : s < 65536) :
    Calls Try.prog 50 #[.int .u16 s] w (GivesN ((listN s).map fun (x : Nat) => (x : Int)) w) := by
  have HL : Hid ((listN s).map (fun (x : Nat) => (x : Int)) = listTo s 12) := Lib.hid rfl
  go_enter Try.func50, Try.ntmps50
  go_wp2
  go_loopw [3, 5] (fun v i wr => ∃ k q : Nat, k ≤ 12 ∧ q ≤ k ∧ i = .int .i64 k ∧ CollN w (listTo s k) q v wr) (fun _ i _ => 12 - (intOf i).toNat)
  case atStart => exact ⟨0, 0, Nat.zero_le _, Nat.le_refl _, rfl, CollN.start w⟩
  case round =>
    obtain ⟨k, q, hk, hq, rfl, hC⟩ := hrel
    by_cases hlt : k < 12
    · have H1 := Lib.hid (fun wx => has_any s k wx hs (by omega))
      have hsz := hC.1.size
      have HC := Lib.hid hC
      clear hC
      obtain ⟨a0, cp0, rfl⟩ := HC.out.slice
      cases h1 : s.testBit k with
      | false =>
        have HD := Lib.hid (listTo_no h1)
        rw [h1] at H1
        clear h1
        go_wp2_with (go_at_call 28; refine (H1.out _).mono ?_; rintro e w' ⟨rfl, rfl⟩)
        go_roundw
        case rel => exact ⟨k + 1, q, by omega, by omega, by go_num, by rw [HD.out]; exact HC.out⟩
        case measure => simp [intOf]; omega
      | true =>
        have HD := Lib.hid (listTo_yes h1)
        rw [h1] at H1
        clear h1
        go_wp2_with (first
          | (go_at_call 28; refine (H1.out _).mono ?_; rintro e w' ⟨rfl, rfl⟩)
          | (at_builtin; refine wpList_app_int rfl (.tmp 11) (.tmp 13) rfl w.heap.size _ _ _ rfl (k : Int) _ rfl rfl HC.out.2.2 (by omega) hsz ?_; intro g cp w2 hr2 hg2 hat2 _; have H2 := Lib.hid (HC.out.next hr2 hg2); clear hr2 hg2 hat2))
        go_roundw
        case rel => exact ⟨k + 1, q + 1, by omega, by omega, by go_num, by rw [HD.out]; exact H2.out⟩
        case measure => simp [intOf]; omega
    · obtain rfl : k = 12 := by omega
      have HC := Lib.hid hC
      clear hC
      obtain ⟨a0, cp0, rfl⟩ := HC.out.slice
      go_wp2
      go_ret
      rw [HL.out]
      exact HC.out.gives

/-- The nodes of a set that are eliminated, one after the other: at most so many. -/
def elimAll (gs : List Nat) : Nat → Nat → List Nat
  | 0, _ => []
  | f + 1, left => match elimOf gs left with
    | some v => v :: elimAll gs f (left &&& (65535 - 2 ^ v))
    | none => []
theorem elimOf_some {gs : List Nat} {left v : Nat} (h : elimOf gs left = some v) : v < gs.length ∧ left.testBit v = true := by
  have h1 := List.mem_of_find?_eq_some h
  have h2 := List.find?_some h
  simp only [elimAt, Bool.and_eq_true] at h2
  exact ⟨List.mem_range.1 h1, h2.1⟩
theorem less_without {left v : Nat} (hv : v < 16) (h : left.testBit v = true) : left &&& (65535 - 2 ^ v) < left := by
  refine Nat.lt_of_le_of_ne Nat.and_le_left fun e => ?_
  have := congrArg (fun x => Nat.testBit x v) e
  simp only [Nat.testBit_and, h, Bool.true_and] at this
  have e2 : 65535 - 2 ^ v = 2 ^ 16 - (2 ^ v + 1) := by omega
  rw [e2, Nat.testBit_two_pow_sub_succ (Nat.pow_lt_pow_right (by omega) hv)] at this
  simp at this

set_option maxRecDepth 100000 in
set_option maxHeartbeats 2000000 in
theorem eliminated_any (a : Option Addr) (n cap F : Nat) (gs : List Nat) (w : World) (hn : gs.length = n) (hm : n ≤ 12) (hs : F < 65536) (hg : ∀ i, i < n → gs[i]?.getD 0 < 65536) (hz : Sets w a gs) :
    Calls Try.prog 29 #[.slice a n cap, .int .u16 F] w (GivesN ((elimAll gs (F + 1) F).map fun (x : Nat) => (x : Int)) w) := by
  have HZ := Lib.hid hz
  have HN := Lib.hid hn
  have HG := Lib.hid hg
  obtain ⟨R, hR⟩ : ∃ R, elimAll gs (F + 1) F = R := ⟨_, rfl⟩
  rw [hR]
  have HR := Lib.hid hR
  clear hz hn hg hR
  go_enter Try.func29, Try.ntmps29
  go_wp2
  go_loopw [1, 5] (fun s v wr => ∃ left f q : Nat, ∃ L : List Nat, s = .int .u16 left ∧ left < 65536 ∧ left < f ∧ q + left ≤ F ∧ Hid (R = L ++ elimAll gs f left) ∧ CollN w (L.map fun (x : Nat) => (x : Int)) q v wr) (fun s _ _ => (intOf s).toNat)
  case atStart => exact ⟨F, F + 1, 0, [], rfl, hs, Nat.lt_succ_self _, by omega, Lib.hid (by rw [HR.out]; rfl), CollN.start w⟩
  case round =>
    obtain ⟨left, f, q, L, rfl, hlf, hff, hq, hE, hC⟩ := hrel
    obtain ⟨f, rfl⟩ : ∃ f', f = f' + 1 := ⟨f - 1, by omega⟩
    have hsz := hC.1.size
    have HC := Lib.hid hC
    clear hC
    obtain ⟨a0, cp0, rfl⟩ := HC.out.slice
    have H1 := Lib.hid (eliminable_any a n cap left gs wr HN.out hm hlf HG.out (HZ.out.below HC.out.1))
    cases h1 : elimOf gs left with
    | none =>
      have HD : Hid (R = L) := Lib.hid (by rw [hE.out, elimAll, h1]; simp)
      rw [h1, elimVal] at H1
      clear h1
      go_wp2_with (go_at_call 44; refine H1.out.mono ?_; rintro e w' ⟨rfl, rfl⟩)
      go_ret
      rw [HD.out]
      exact HC.out.gives
    | some v =>
      obtain ⟨hv1, hv2⟩ := elimOf_some h1
      have hvn : v < 12 := by have := HN.out; omega
      have hlt := less_without (left := left) (v := v) (by omega) hv2
      have HD : Hid (R = (L ++ [v]) ++ elimAll gs f (left &&& (65535 - 2 ^ v))) := Lib.hid (by rw [hE.out, elimAll, h1]; simp)
      rw [h1, elimVal] at H1
      have hp2 : 2 ^ v < 65536 := Nat.pow_lt_pow_right (m := v) (n := 16) (by omega) (by omega)
      have HS1 := Lib.hid (fun (wx : World) => setOf_any (some ⟨wx.heap.size, 0, none⟩) 1 1 [v] (wx.alloc (.cells #[.int .i64 (v : Int)] 3)) rfl (by omega) (by simp; omega) (fun i hi => ⟨wx.heap.size, 0, rfl, by
        have : i = 0 := by simpa using hi
        subst this
        exact World.cell?_alloc_at _ _ _ _ rfl⟩))
      have HAN : Hid (bits .andNot .u16 (left : Int) ((setN' [v] : Nat) : Int) = ((left &&& (65535 - 2 ^ v) : Nat) : Int)) := Lib.hid (by
        have e : setN' [v] = 2 ^ v := by simp [setN']
        rw [e, u16_andNot_nat _ _ hlf hp2])
      clear h1 hp2 hv2 hv1
      obtain ⟨nl, hnl⟩ : ∃ nl, left &&& (65535 - 2 ^ v) = nl := ⟨_, rfl⟩
      rw [hnl] at HD HAN hlt
      clear hnl
      go_wp2_with (first
        | (go_at_call 44; refine H1.out.mono ?_; rintro e w' ⟨rfl, rfl⟩)
        | (go_at_call 27; refine (HS1.out _).mono ?_; rintro e w' ⟨rfl, rfl⟩)
        | (at_builtin; refine wpList_app_int rfl (.tmp 17) (.tmp 19) rfl w.heap.size _ _ _ rfl (v : Int) _ rfl rfl HC.out.2.2 (by omega) hsz ?_; intro g cp w2 hr2 hg2 hat2 _; have H2 := Lib.hid (HC.out.next hr2 hg2); clear hr2 hg2 hat2))
      go_roundw
      case rel => exact ⟨nl, f, q + 1, L ++ [v], by rw [HAN.out], by omega, by omega, by omega, HD, by rw [List.map_append]; exact H2.out.alloc _⟩
      case measure => simp [intOf, HAN.out]; omega
end

section
open Go.RowKit Go.Sort

/-- How many numbers a set holds. -/
def cntN (s : Nat) : Nat := ((List.range 16).filter fun i => s.testBit i).length

def tabOf : ByteArray := ⟨#[0, 1, 1, 2, 1, 2, 2, 3, 1, 2, 2, 3, 2, 3, 3, 4, 1, 2, 2, 3, 2, 3, 3, 4, 2, 3, 3, 4, 3, 4, 4, 5, 1, 2, 2, 3, 2, 3, 3, 4, 2, 3, 3, 4, 3, 4, 4, 5, 2, 3, 3, 4, 3, 4, 4, 5, 3, 4, 4, 5, 4, 5, 5, 6, 1, 2, 2, 3, 2, 3, 3, 4, 2, 3, 3, 4, 3, 4, 4, 5, 2, 3, 3, 4, 3, 4, 4, 5, 3, 4, 4, 5, 4, 5, 5, 6, 2, 3, 3, 4, 3, 4, 4, 5, 3, 4, 4, 5, 4, 5, 5, 6, 3, 4, 4, 5, 4, 5, 5, 6, 4, 5, 5, 6, 5, 6, 6, 7, 1, 2, 2, 3, 2, 3, 3, 4, 2, 3, 3, 4, 3, 4, 4, 5, 2, 3, 3, 4, 3, 4, 4, 5, 3, 4, 4, 5, 4, 5, 5, 6, 2, 3, 3, 4, 3, 4, 4, 5, 3, 4, 4, 5, 4, 5, 5, 6, 3, 4, 4, 5, 4, 5, 5, 6, 4, 5, 5, 6, 5, 6, 6, 7, 2, 3, 3, 4, 3, 4, 4, 5, 3, 4, 4, 5, 4, 5, 5, 6, 3, 4, 4, 5, 4, 5, 5, 6, 4, 5, 5, 6, 5, 6, 6, 7, 3, 4, 4, 5, 4, 5, 5, 6, 4, 5, 5, 6, 5, 6, 6, 7, 4, 5, 5, 6, 5, 6, 6, 7, 5, 6, 6, 7, 6, 7, 7, 8]⟩
set_option maxRecDepth 100000 in
theorem tab_at : ∀ x : Fin 256, (tabOf.data[x.val]?.getD 0).toNat = cntN x.val := by decide +kernel
theorem cnt_split (s : Nat) (hs : s < 65536) : cntN s = cntN (s / 256) + cntN (s % 256) := by
  have e : List.range 16 = List.range 8 ++ (List.range 8).map (8 + ·) := by decide
  have f1 : ∀ x, x < 256 → cntN x = ((List.range 8).filter fun i => x.testBit i).length := by
    intro x hx
    rw [cntN, e, List.filter_append, List.length_append, List.filter_map, List.length_map]
    have : ((List.range 8).filter ((fun i => x.testBit i) ∘ (8 + ·))).length = 0 := by
      rw [List.length_eq_zero_iff, List.filter_eq_nil_iff]
      intro i _
      rw [Function.comp, Nat.testBit_lt_two_pow (Nat.lt_of_lt_of_le hx (Nat.pow_le_pow_right (n := 2) (i := 8) (by omega) (by omega)))]
      simp
    omega
  rw [f1 (s / 256) (by omega), f1 (s % 256) (Nat.mod_lt _ (by omega)), cntN, e, List.filter_append, List.length_append, List.filter_map, List.length_map, Nat.add_comm]
  congr 1
  · congr 1
    refine List.filter_congr fun i _ => ?_
    rw [Function.comp, show (256 : Nat) = 2 ^ 8 from rfl, Nat.testBit_div_two_pow, Nat.add_comm]
  · congr 1
    refine List.filter_congr fun i hi => ?_
    rw [show (256 : Nat) = 2 ^ 8 from rfl, Nat.testBit_mod_two_pow, decide_eq_true (List.mem_range.1 hi), Bool.true_and]
theorem cnt_le (s : Nat) : cntN s ≤ 16 := Nat.le_trans (List.length_filter_le _ _) (by simp)
theorem tab_get (x : Nat) (h : x < 256) (h' : x < tabOf.size) : (tabOf[x]'h').toNat = cntN x := by
  have t := tab_at ⟨x, h⟩
  have e : tabOf.data[x]? = some (tabOf.data[x]'h') := Array.getElem?_eq_getElem h'
  change (tabOf.data[x]?.getD 0).toNat = cntN x at t
  rw [e] at t
  exact t
theorem sum_tab (s : Nat) (hs : s < 65536) (h1 : s / 256 < tabOf.size) (h2 : s % 256 < tabOf.size) : (((tabOf[s / 256]'h1).toNat : Int) + ((tabOf[s % 256]'h2).toNat : Int)) % 256 = (cntN s : Nat) := by
  rw [tab_get _ (by omega), tab_get _ (by omega)]
  have := cnt_split s hs
  have := cnt_le s
  omega

set_option maxRecDepth 100000 in
set_option maxHeartbeats 2000000 in
theorem OnesCount16_any (s : Nat) (w : World) (hs : s < 65536) :
    Calls Try.prog 54 #[.int .u16 s] w fun e w' => e = .returned (.int .i64 (cntN s)) ∧ Below w.heap.size w w' := by
  have e255 : bits .and .u16 (s : Int) 255 = (s : Int) % 256 := by
    rw [show (255 : Int) = ((255 : Nat) : Int) from rfl, u16_and_nat _ _ hs (by decide)]
    rw [show (255 : Nat) = 2 ^ 8 - 1 from rfl, Nat.and_two_pow_sub_one_eq_mod]
    omega
  have b1 : 0 ≤ (s : Int) / 256 ∧ (s : Int) / 256 < 256 := by omega
  have b2 : 0 ≤ (s : Int) % 256 ∧ (s : Int) % 256 < 256 := by omega
  have HT := Lib.hid (sum_tab s hs (show s / 256 < 256 by omega) (show s % 256 < 256 by omega))
  go_enter Try.func54, Try.ntmps54
  go_wp2
  go_quiet (fail)
  go_wp2
  go_ret
  exact ⟨congrArg (fun z => Ending.returned (Value.int .i64 z)) HT.out, below_drewN (Below.refl _ _) _⟩

theorem count_any (s : Nat) (w : World) (hs : s < 65536) :
    Calls Try.prog 45 #[.int .u16 s] w fun e w' => e = .returned (.int .i64 (cntN s)) ∧ Below w.heap.size w w' := by
  have H1 := Lib.hid (OnesCount16_any s w hs)
  go_enter Try.func45, Try.ntmps45
  go_wp2_with (go_at_call 54; refine H1.out.mono ?_; rintro e w' ⟨rfl, hb⟩)
  go_ret
  exact ⟨rfl, hb⟩
end

end Go.Proofs.Yteckeobhlfddlaa.Rib
