/-
  Chordal graphs.
-/
import Derived.Test.YteckeobhlfddlaaTa
namespace Go.Proofs.Yteckeobhlfddlaa.Rib

section
open Go.RowKit Go.Sort

/-- The neighbours of the i-th element among the first k. -/
def nearTo (es : List (Int × Int)) (l : List Int) (i k : Nat) : List Int := (l.take k).filter fun z => nearB es (l[i]?.getD 0) z
theorem near_step (es : List (Int × Int)) (l : List Int) (i k : Nat) (hk : k < l.length) : nearTo es l i (k + 1) = nearTo es l i k ++ [l[k]].filter fun z => nearB es (l[i]?.getD 0) z := by
  rw [nearTo, List.take_succ_eq_append_getElem hk, List.filter_append]
  rfl
theorem near_yes {es : List (Int × Int)} {l : List Int} {i k : Nat} (hk : k < l.length) (h : nearB es (l[i]?.getD 0) (l[k]?.getD 0) = true) : nearTo es l i (k + 1) = nearTo es l i k ++ [l[k]?.getD 0] := by
  rw [List.getElem?_eq_getElem hk, Option.getD_some] at h
  rw [near_step es l i k hk, List.filter_cons, if_pos h, List.filter_nil, List.getElem?_eq_getElem hk]
  rfl
theorem near_no {es : List (Int × Int)} {l : List Int} {i k : Nat} (hk : k < l.length) (h : nearB es (l[i]?.getD 0) (l[k]?.getD 0) = false) : nearTo es l i (k + 1) = nearTo es l i k := by
  rw [List.getElem?_eq_getElem hk, Option.getD_some] at h
  rw [near_step es l i k hk, List.filter_cons, if_neg (by rw [h]; simp), List.filter_nil, List.append_nil]
/-- Whether the neighbours of the i-th element are a clique. -/
def cleanAt (es : List (Int × Int)) (l : List Int) (i : Nat) : Bool := cliqueR es (nearTo es l i l.length)
def atR (es : List (Int × Int)) (l : List Int) : Option Nat := (List.range l.length).find? (cleanAt es l)
def without (l : List Int) (i : Nat) : List Int := l.take i ++ l.drop (i + 1)
theorem without_len (l : List Int) (i : Nat) (hi : i < l.length) : (without l i).length = l.length - 1 := by
  rw [without, List.length_append, List.length_take, List.length_drop]; omega
/-- The reference's 'Chordal'. -/
def chordL (es : List (Int × Int)) : Nat → List Int → Bool
  | 0, _ => true
  | f + 1, l => match atR es l with
    | some i => chordL es f (without l i)
    | none => false
def chordR (es : List (Int × Int)) (n : Nat) : Bool := chordL es n ((List.range n).map fun (x : Nat) => (x : Int))
theorem atR_lt {es : List (Int × Int)} {l : List Int} {i : Nat} (h : atR es l = some i) : i < l.length := List.mem_range.1 (List.mem_of_find?_eq_some h)
theorem chordL_some {es : List (Int × Int)} {l : List Int} {f i : Nat} (h : atR es l = some i) : chordL es (f + 1) l = chordL es f (without l i) := by
  rw [chordL, h]
theorem chordL_none {es : List (Int × Int)} {l : List Int} {f : Nat} (h : atR es l = none) : chordL es (f + 1) l = false := by
  rw [chordL, h]
/-- Where the reference stands as it looks for a node. -/
def atV : Option Nat → Value
  | some t => .int .i64 (t : Int)
  | none => .int .i64 (-1)

/-- The reference's list is the program's set. -/
def listS (s n : Nat) : List Int := bitsR s n
theorem bits_take (s n i : Nat) (hn : i < n) (hi : s.testBit i = true) : ∃ k, k < (bitsR s n).length ∧ (bitsR s n)[k]?.getD 0 = (i : Int) := by
  have hm : (i : Int) ∈ bitsR s n := mem_bitsR.2 ⟨i, rfl, hn, hi⟩
  obtain ⟨k, hk, e⟩ := List.getElem_of_mem hm
  exact ⟨k, hk, by rw [List.getElem?_eq_getElem hk, Option.getD_some, e]⟩
end

section
open Go.RowKit Go.Sort

theorem bitsR_le (s n : Nat) : (bitsR s n).length ≤ n := by
  rw [bitsR, List.length_map]
  exact Nat.le_trans (List.length_filter_le _ _) (by simp)
/-- The nodes of a set, as naturals. -/
def bitsN (s n : Nat) : List Nat := (List.range n).filter fun i => s.testBit i
theorem bitsR_N (s n : Nat) : bitsR s n = (bitsN s n).map fun (x : Nat) => (x : Int) := rfl
theorem bitsN_nodup (s n : Nat) : (bitsN s n).Nodup := List.nodup_range.sublist List.filter_sublist
theorem bitsR_get (s n i : Nat) (hi : i < (bitsN s n).length) : (bitsR s n)[i]?.getD 0 = (((bitsN s n)[i] : Nat) : Int) := by
  rw [bitsR_N, List.getElem?_map, List.getElem?_eq_getElem hi]; rfl
theorem find_at {p : Nat → Bool} (q : Nat → Bool) : ∀ (l : List Nat), (∀ (i : Nat) (h : i < l.length), q i = p l[i]) → (∀ i, (List.range l.length).find? q = some i → ∃ h : i < l.length, l.find? p = some l[i]) ∧ ((List.range l.length).find? q = none → l.find? p = none) := by
  intro l hq
  constructor
  · intro i h
    obtain ⟨h1, k, hk, e, h2⟩ := List.find?_eq_some_iff_getElem.1 h
    rw [List.length_range] at hk
    rw [List.getElem_range] at e
    subst e
    refine ⟨hk, List.find?_eq_some_iff_getElem.2 ⟨by rw [← hq k hk]; exact h1, k, hk, rfl, fun j hj => ?_⟩⟩
    have := h2 j hj
    rw [List.getElem_range, hq j (by omega)] at this
    exact this
  · intro h
    rw [List.find?_eq_none] at h ⊢
    intro x hx
    obtain ⟨i, hi, rfl⟩ := List.getElem_of_mem hx
    rw [← hq i hi]
    exact h i (List.mem_range.2 hi)
theorem clean_same {n : Nat} {gs : List Nat} {es : List (Int × Int)} (h : Adj n gs es) (hn : n ≤ 12) {s : Nat} (hs : s < 2 ^ n) {i : Nat} (hi : i < (bitsN s n).length) : cleanAt es (bitsR s n) i = cliqueB gs (gs[(bitsN s n)[i]]?.getD 0 &&& s) := by
  obtain ⟨v, hv⟩ : ∃ v, (bitsN s n)[i] = v := ⟨_, rfl⟩
  have hm : v ∈ bitsN s n := hv ▸ List.getElem_mem hi
  rw [bitsN, List.mem_filter, List.mem_range] at hm
  have hvn := hm.1
  rw [cleanAt, nearTo, List.take_length, bitsR_get s n i hi, hv, Bool.eq_iff_iff, cliqueB_iff h hn (by rw [Nat.and_comm]; exact and_lt_pow hs), cliqueR_mem ((bitsR_nodup s n).sublist List.filter_sublist)]
  have key : ∀ b : Nat, (gs[v]?.getD 0 &&& s).testBit b = true ↔ (v = b ∨ nearB es v b = true) ∧ s.testBit b = true := by
    intro b
    rw [Nat.testBit_and, h.bit v b hvn]
    simp [Bool.and_eq_true, Bool.or_eq_true]
  have hlt : ∀ b : Nat, s.testBit b = true → b < n := by
    intro b hb
    rcases Nat.lt_or_ge b n with h' | h'
    · exact h'
    · rw [Nat.testBit_lt_two_pow (Nat.lt_of_lt_of_le hs (Nat.pow_le_pow_right (by omega) h'))] at hb
      cases hb
  constructor
  · intro h1 a b ha hb hab
    obtain ⟨ha1, ha2⟩ := (key a).1 ha
    obtain ⟨hb1, hb2⟩ := (key b).1 hb
    rcases ha1 with rfl | ha1
    · rcases hb1 with rfl | hb1
      · exact absurd rfl hab
      · exact hb1
    · rcases hb1 with rfl | hb1
      · rw [nearB_comm]; exact ha1
      · exact h1 a (List.mem_filter.2 ⟨mem_bitsR.2 ⟨a, rfl, hlt a ha2, ha2⟩, ha1⟩) b (List.mem_filter.2 ⟨mem_bitsR.2 ⟨b, rfl, hlt b hb2, hb2⟩, hb1⟩) (by omega)
  · intro h1 a ha b hb hab
    obtain ⟨ha1, ha2⟩ := List.mem_filter.1 ha
    obtain ⟨hb1, hb2⟩ := List.mem_filter.1 hb
    obtain ⟨x, rfl, _, hx⟩ := mem_bitsR.1 ha1
    obtain ⟨y, rfl, _, hy⟩ := mem_bitsR.1 hb1
    exact h1 x y ((key x).2 ⟨.inr ha2, hx⟩) ((key y).2 ⟨.inr hb2, hy⟩) (by omega)
theorem elimOf_find {n : Nat} {gs : List Nat} {es : List (Int × Int)} (h : Adj n gs es) (s : Nat) : elimOf gs s = (bitsN s n).find? fun v => cliqueB gs (gs[v]?.getD 0 &&& s) := by
  rw [elimOf, bitsN, List.find?_filter, h.len]
  congr 1
  funext v
  rw [elimAt]
  simp
theorem at_same {n : Nat} {gs : List Nat} {es : List (Int × Int)} (h : Adj n gs es) (hn : n ≤ 12) {s : Nat} (hs : s < 2 ^ n) : (∀ i, atR es (bitsR s n) = some i → ∃ hi : i < (bitsN s n).length, elimOf gs s = some (bitsN s n)[i]) ∧ (atR es (bitsR s n) = none → elimOf gs s = none) := by
  rw [elimOf_find h, atR, show (bitsR s n).length = (bitsN s n).length by rw [bitsR_N, List.length_map]]
  exact find_at (cleanAt es (bitsR s n)) (bitsN s n) fun i hi => clean_same h hn hs hi
theorem filter_ne_at {l : List Nat} (hnd : l.Nodup) {i : Nat} (hi : i < l.length) : (l.filter fun x => decide (x ≠ l[i])) = l.take i ++ l.drop (i + 1) := by
  have e : l = l.take i ++ l[i] :: l.drop (i + 1) := by rw [← List.drop_eq_getElem_cons hi, List.take_append_drop]
  obtain ⟨x, hx⟩ : ∃ x, l[i] = x := ⟨_, rfl⟩
  rw [hx] at e ⊢
  obtain ⟨A, hA⟩ : ∃ A, l.take i = A := ⟨_, rfl⟩
  obtain ⟨B, hB⟩ : ∃ B, l.drop (i + 1) = B := ⟨_, rfl⟩
  rw [hA, hB] at e ⊢
  rw [e] at hnd ⊢
  rw [List.nodup_append] at hnd
  obtain ⟨_, h2, h3⟩ := hnd
  rw [List.filter_append, List.filter_cons, if_neg (by simp)]
  congr 1
  · rw [List.filter_eq_self]
    intro a ha
    exact decide_eq_true (h3 a ha x (by simp))
  · rw [List.filter_eq_self]
    intro a ha
    exact decide_eq_true fun e => (List.nodup_cons.1 h2).1 (e ▸ ha)
theorem without_same {s n i : Nat} (hn : n ≤ 12) (hi : i < (bitsN s n).length) : without (bitsR s n) i = bitsR (s &&& (65535 - 2 ^ (bitsN s n)[i])) n := by
  have hm : (bitsN s n)[i] ∈ bitsN s n := List.getElem_mem hi
  rw [without, bitsR_N, ← List.map_take, ← List.map_drop, ← List.map_append, ← filter_ne_at (bitsN_nodup s n) hi, bitsR_N]
  congr 1
  obtain ⟨v, hv⟩ : ∃ v, (bitsN s n)[i] = v := ⟨_, rfl⟩
  rw [hv] at hm ⊢
  rw [bitsN, List.mem_filter, List.mem_range] at hm
  have hp : 2 ^ v < 65536 := Nat.pow_lt_pow_right (m := v) (n := 16) (by omega) (by omega)
  rw [bitsN, List.filter_filter, bitsN]
  refine List.filter_congr fun b hb => ?_
  rw [List.mem_range] at hb
  rw [Nat.testBit_and, testBit_comp hp, Nat.testBit_two_pow]
  by_cases e : b = v
  · subst e; simp
  · have e2 : ¬ v = b := fun h => e h.symm
    simp [e, e2]; omega

theorem bit_lt {n s b : Nat} (hs : s < 2 ^ n) (hb : s.testBit b = true) : b < n := by
  rcases Nat.lt_or_ge b n with h' | h'
  · exact h'
  · rw [Nat.testBit_lt_two_pow (Nat.lt_of_lt_of_le hs (Nat.pow_le_pow_right (by omega) h'))] at hb; cases hb
/-- The reference's 'Chordal' from a set on. -/
theorem chord_from {n : Nat} {gs : List Nat} {es : List (Int × Int)} (h : Adj n gs es) (hn : n ≤ 12) : ∀ (q s f : Nat), s < 2 ^ n → (bitsN s n).length = q → s < f → chordL es q (bitsR s n) = decide ((elimAll gs f s).length = q)
  | 0, s, f, hs, hq, hf => by
    have e0 : elimOf gs s = none := by rw [elimOf_find h, List.length_eq_zero_iff.1 hq]; rfl
    obtain ⟨f, rfl⟩ : ∃ k, f = k + 1 := ⟨f - 1, by omega⟩
    rw [chordL, elimAll, e0]; rfl
  | q + 1, s, f, hs, hq, hf => by
    obtain ⟨f, rfl⟩ : ∃ k, f = k + 1 := ⟨f - 1, by omega⟩
    cases ha : atR es (bitsR s n) with
    | none =>
      rw [chordL_none ha, elimAll, (at_same h hn hs).2 ha]
      simp
    | some i =>
      obtain ⟨hi, he⟩ := (at_same h hn hs).1 i ha
      have hv := elimOf_some he
      have hl := less_without (v := (bitsN s n)[i]) (by have := hv.1; rw [h.len] at this; omega) hv.2
      rw [chordL_some ha, elimAll, he, without_same hn hi]
      have hw := congrArg List.length (without_same hn hi)
      rw [without_len _ _ (by rw [bitsR_N, List.length_map]; exact hi), bitsR_N, bitsR_N, List.length_map, List.length_map, hq] at hw
      rw [chord_from h hn q _ f (Nat.lt_trans hl hs) (by omega) (by omega)]
      simp
theorem chord_same {n : Nat} {gs : List Nat} {es : List (Int × Int)} (h : Adj n gs es) (hn : n ≤ 12) : chordR es n = decide ((ordN n gs).length = n) := by
  have e : bitsN (2 ^ n - 1) n = List.range n := by
    rw [bitsN, List.filter_eq_self]
    intro b hb
    rw [Nat.testBit_two_pow_sub_one]
    exact decide_eq_true (List.mem_range.1 hb)
  have := chord_from h hn n (2 ^ n - 1) (2 ^ n - 1 + 1) (Nat.sub_lt (Nat.pow_pos (by omega)) (by omega)) (by rw [e, List.length_range]) (by omega)
  rw [bitsR_N, e] at this
  rw [chordR, this, ordN]
end

section
open Go.RowKit Go.Sort

theorem step_app_zs {W : World} {ops : Array Oper} {o : Oper} {a : Act} {K : Act → World → Prop} {Q : Exit → Act → World → Prop} {E : Prop} (hgd : o.guard = none) (s x : Operand)
    (ho : o.op = .call { callee := .builtin .append, args := #[s, x], argTypes := #[22, 22] }) (base : Nat) (v : Value) (n : Nat) (xs : List Value) (hs : a.eval s = v) (b off m c : Nat) (zs : List Int)
    (hx : a.eval x = .slice (some ⟨b, off, none⟩) m c) (hl : zs.length = m) (hc : ∀ j, j < zs.length → W.cell? ⟨b, off + j, none⟩ = some (.int .i64 (zs[j]?.getD 0))) (hown : W.ownsRow base 3 1 v n xs) (r : Nat) (hr : n + m = r) (hn : r ≤ 1000000) (hbase : base ≤ W.heap.size)
    (h : ∀ (a' : Option Addr) (c' : Nat) (w' : World), w'.ownsRow base 3 1 (.slice a' r c') r (xs ++ zs.map (Value.int .i64)) → W.grownBy w' v.ownBlock → K (a.put o.dst (.slice a' r c')) w') :
    if Region.wanted o (yielded ops a.tmps) = true then Oper.wp Try.prog o a W K Q else E := by
  obtain ⟨i0, hi, hz0, hz1, hz2⟩ := info_parts Try.info3
  subst hr
  obtain ⟨v', w', hrun, hown', hg, _, _⟩ := run_append_own_at (P := Try.prog) W base 22 o.type 3 i0 (.int .i64 0) 1 8 Try.underlying22 hi hz0 hz1 hz2 rfl (by decide) v n xs hown ⟨b, off, none⟩ m c (zs.map (Value.int .i64)) (by simp [hl]) (fun j u hj => by
    have hjl : j < zs.length := by have := (List.getElem?_eq_some_iff.1 hj).1; simpa using this
    have hadd : (⟨b, off, none⟩ : Addr).add j = ⟨b, off + j, none⟩ := by unfold Addr.add; split <;> simp_all
    rw [hadd, hc j hjl, ← hj]
    simp [hjl]) (by simp [Value.oneCell']) (by unfold maxLen; omega) (by omega) hbase
  have hw : Region.wanted o (yielded ops a.tmps) = true := by simp [Region.wanted, hgd]
  rw [if_pos hw]
  obtain ⟨a', c', rfl⟩ := ownsRow_slice hown'
  unfold Oper.wp
  simp [execOp, ho, resolve, invoke, builtin, hs, hx, hrun, Result.andThen]
  exact h a' c' w' hown' hg
/-- A slice's length. -/
def lenV : Value → Nat
  | .slice _ n _ => n
  | _ => 0
@[simp] theorem lenV_slice (a : Option Addr) (n c : Nat) : lenV (.slice a n c) = n := rfl
theorem own_le' {w : World} {base n c : Nat} {a : Option Addr} {xs : List Value} (h : w.ownsRow base 3 1 (.slice a n c) n xs) : n ≤ c := by
  rcases h.2 with ⟨e, h0⟩ | ⟨g, cap, cur, e, _, _, h2, _⟩
  · omega
  · cases e; exact h2
end

section
open Go.RowKit Go.Sort

/-- The error that the document names: 1 of what is no graph, 5 of a graph that is not chordal. -/
def chordE (N : Int) (es : List (Int × Int)) : Int := if graphR N es = true then (if chordR es N.toNat = true then 0 else 5) else 1

set_option maxRecDepth 100000 in
set_option maxHeartbeats 2000000 in
theorem chordalOf_bad {N : Int} {es : List (Int × Int)} (h : graphR N es = false) (a : Option Addr) (m cap : Nat) (w : World) (hl : es.length = m) (hm : m ≤ 1000) (he : Edges w a es) :
    Calls Try.prog 17 #[.int .i64 N, .slice a m cap] w fun e w' => e = .returned (.tuple #[.slice none 0 0, .slice none 0 0, .int .i64 1]) ∧ Below w.heap.size w w' := by
  have HC := Lib.hid (graphOf_wrong h a m cap w hl hm he)
  clear h hl he
  go_enter Try.func17, Try.ntmps17
  go_wp2_with (go_at_call 14; refine HC.out.mono ?_; rintro e w1 ⟨rfl, hb⟩; have HB := Lib.hid hb; clear hb)
  go_ret3
  exact ⟨rfl, HB.out⟩

set_option maxRecDepth 100000 in
set_option maxHeartbeats 2000000 in
theorem Order_bad {N : Int} {es : List (Int × Int)} (h : graphR N es = false) (a : Option Addr) (m cap : Nat) (w : World) (hl : es.length = m) (hm : m ≤ 1000) (he : Edges w a es) :
    Calls Try.prog 8 #[.int .i64 N, .slice a m cap] w (Gives2 (.slice none 0 0) (.int .i64 1) w) := by
  have HC := Lib.hid (chordalOf_bad h a m cap w hl hm he)
  clear h hl he
  go_enter Try.func8, Try.ntmps8
  go_wp2_with (go_at_call 17; refine HC.out.mono ?_; rintro e w1 ⟨rfl, hb⟩; have HB := Lib.hid hb; clear hb)
  go_ret2
  exact ⟨rfl, HB.out⟩
end

end Go.Proofs.Yteckeobhlfddlaa.Rib
