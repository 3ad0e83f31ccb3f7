/-
  'graphOf' in the reference's words; the walks of 'Eliminates' and 'IsRing'.
-/
import Derived.Test.YticafbfijpjbnaaRp
namespace Go.Proofs.Yticafbfijpjbnaa
open Go.RowKit Go.Sort

/-- What 'graphOf' hands back of a valid graph. -/
def GoodG (n : Nat) (gs : List Nat) (w : World) (e : Ending) (w' : World) : Prop := ∃ g, e = .returned (.tuple #[.slice (some ⟨g, 0, none⟩) n n, .bool true]) ∧ RowG w' g gs ∧ w.heap.size ≤ g ∧ Below w.heap.size w w'
theorem graphOf_good {N : Int} {es : List (Int × Int)} (h : graphR N es = true) : ∃ (n : Nat) (gs : List Nat), N = n ∧ 1 ≤ n ∧ n ≤ 12 ∧ Adj n gs es ∧
    ∀ (a : Option Addr) (m cap : Nat) (w : World), es.length = m → m ≤ 1000 → Edges w a es → Calls Try.prog 39 #[.int .i64 N, .slice a m cap] w (GoodG n gs w) := by
  obtain ⟨n, gs, rfl, h1, h2, _, hg, ha⟩ := graphN_good h
  refine ⟨n, gs, rfl, h1, h2, ha, fun a m cap w hl hm he => (graphOf_any a n m cap es w h1 h2 hl hm he).mono ?_⟩
  rintro e w' ⟨hb, hm⟩
  rw [hg] at hm
  obtain ⟨g, rfl, hr, hle⟩ := hm
  exact ⟨g, rfl, hr, hle, hb⟩
theorem graphOf_wrong {N : Int} {es : List (Int × Int)} (h : graphR N es = false) (a : Option Addr) (m cap : Nat) (w : World) (hl : es.length = m) (hm : m ≤ 1000) (he : Edges w a es) :
    Calls Try.prog 39 #[.int .i64 N, .slice a m cap] w (Gives2 (.slice none 0 0) (.bool false) w) := by
  by_cases hN : 1 ≤ N ∧ N ≤ 12
  · obtain ⟨n, rfl⟩ := Int.eq_ofNat_of_zero_le (show 0 ≤ N by omega)
    have hg := graphN_bad h
    rw [graphN, if_pos hN] at hg
    refine (graphOf_any a n m cap es w (by omega) (by omega) hl hm he).mono ?_
    rintro e w' ⟨hb, hm⟩
    rw [show ((n : Int).toNat) = n from rfl] at hg
    rw [hg] at hm
    exact ⟨hm, hb⟩
  · refine (graphOf_bad (.slice a m cap) N w (by omega)).mono ?_
    rintro e w' ⟨rfl, rfl⟩
    exact ⟨rfl, Below.refl _ _⟩

/-- What 'Eliminates' and 'IsRing' answer. -/
def elimB (N : Int) (es : List (Int × Int)) (os : List Int) : Bool := graphR N es && (permR os N && elimR es os)
def elimE (N : Int) (es : List (Int × Int)) (os : List Int) : Int := if graphR N es = true then (if permR os N = true then 0 else 2) else 1
def nodesB (N : Int) (l : List Int) : Bool := l.all fun z => inR z 0 (N - 1)
def isRingB (N : Int) (es : List (Int × Int)) (l : List Int) : Bool := graphR N es && (nodesB N l && ringR es l)
def isRingE (N : Int) (es : List (Int × Int)) (l : List Int) : Int := if graphR N es = true then (if nodesB N l = true then 0 else 2) else 1

theorem elim_perm {n : Nat} {gs : List Nat} {es : List (Int × Int)} (h : Adj n gs es) (hn : n ≤ 12) {os : List Int} (hp : permR os n = true) : ∃ O : List Nat, os = O.map (fun (x : Nat) => (x : Int)) ∧ (∀ x ∈ O, x < n) ∧ elimFrom gs (2 ^ n - 1) O = elimR es os := by
  obtain ⟨O, rfl, h1, h2, h3⟩ := permR_good hp
  refine ⟨O, rfl, h2, elim_same h hn O _ h1 h2 (Nat.sub_lt (Nat.pow_pos (by omega)) (by omega)) fun b => ?_⟩
  rw [full_bits, decide_eq_true_eq]
  refine ⟨fun hb => ?_, h2 b⟩
  have hs : O ⊆ List.range n := fun x hx => List.mem_range.2 (h2 x hx)
  exact (nodup_perm h1 hs (by simp [h3])).mem_iff.2 (List.mem_range.2 hb)
theorem nodes_same (n : Nat) (l : List Int) : l.all (nodeB n) = nodesB n l := by
  unfold nodesB
  congr 1
  funext z
  rw [nodeB, inR, Bool.eq_iff_iff]
  simp only [Bool.and_eq_true, decide_eq_true_eq]
  omega

set_option maxRecDepth 100000 in
set_option maxHeartbeats 4000000 in
theorem Eliminates_any (N : Int) (a aO : Option Addr) (m cap mO cO : Nat) (es : List (Int × Int)) (os : List Int) (w : World) (hl : es.length = m) (hm : m ≤ 1000) (he : Edges w a es) (hlO : os.length = mO) (hmO : mO ≤ 1000) (hO : Ints w aO os) :
    Calls Try.prog 13 #[.int .i64 N, .slice a m cap, .slice aO mO cO] w (Gives2 (.bool (elimB N es os)) (.int .i64 (elimE N es os)) w) := by
  rcases Bool.eq_false_or_eq_true (graphR N es) with hg | hg
  · obtain ⟨n, gs, rfl, h1, h2, hadj, hcall⟩ := graphOf_good hg
    have HC := Lib.hid (hcall a m cap w hl hm he)
    have HLT := Lib.hid (fun i (_ : i < n) => hadj.lt16 h2 i)
    have HLEN := Lib.hid hadj.len
    have HO := Lib.hid hO
    have HP := Lib.hid (fun (wx : World) (hx : Below w.heap.size w wx) (g : Nat) => isPermutation_any (some ⟨g, 0, none⟩) aO n n mO cO os wx hlO hmO h2 (hO.below hx))
    rcases Bool.eq_false_or_eq_true (permR os n) with hp | hp
    · have e1 : elimB n es os = elimR es os := by rw [elimB, hg, hp, Bool.true_and, Bool.true_and]
      have e2 : elimE n es os = 0 := by rw [elimE, if_pos hg, if_pos hp]
      rw [e1, e2]
      rw [permR_iff, hp] at HP
      obtain ⟨O, hOe, hOlt, hel⟩ := elim_perm hadj h2 hp
      have hOl : O.length = mO := by have := congrArg List.length hOe; simp at this; omega
      have HE := Lib.hid (fun (wx : World) (hx : Below w.heap.size w wx) (g : Nat) (hr : RowG wx g gs) => isEliminatedBy_any (some ⟨g, 0, none⟩) aO n n mO cO gs O wx HLEN.out h2 HLT.out hr.sets hOl hmO hOlt (by rw [← hOe]; exact hO.below hx))
      rw [hel] at HE
      clear hcall hg hp e1 e2 hOe hel hl hm he hlO hmO hO hadj
      go_enter Try.func13, Try.ntmps13
      go_wp2_with (go_at_call 39; refine HC.out.mono ?_; rintro e w1 ⟨g, rfl, hr, hge, hb⟩; have HR := Lib.hid (And.intro hr (And.intro hge hb)); clear hr hge hb)
      go_wp2_with (go_at_call 40; refine (HP.out _ HR.out.2.2 g).mono ?_; rintro e w2 ⟨rfl, rfl⟩)
      go_wp2_with (go_at_call 41; refine (HE.out _ HR.out.2.2 g HR.out.1).mono ?_; rintro e w3 ⟨rfl, hb3⟩; have HB3 := Lib.hid (HR.out.2.2.trans (hb3.mono HR.out.2.2.size)); clear hb3)
      go_ret2
      exact ⟨rfl, HB3.out⟩
    · have e1 : elimB n es os = false := by rw [elimB, hg, hp, Bool.true_and, Bool.false_and]
      have e2 : elimE n es os = 2 := by rw [elimE, if_pos hg, if_neg (by rw [hp]; simp)]
      rw [e1, e2]
      rw [permR_iff, hp] at HP
      clear hcall hg hp e1 e2 hl hm he hlO hmO hO hadj
      go_enter Try.func13, Try.ntmps13
      go_wp2_with (go_at_call 39; refine HC.out.mono ?_; rintro e w1 ⟨g, rfl, hr, hge, hb⟩; have HR := Lib.hid (And.intro hr (And.intro hge hb)); clear hr hge hb)
      go_wp2_with (go_at_call 40; refine (HP.out _ HR.out.2.2 g).mono ?_; rintro e w2 ⟨rfl, rfl⟩)
      go_ret2
      exact ⟨rfl, HR.out.2.2⟩
  · have e1 : elimB N es os = false := by rw [elimB, hg, Bool.false_and]
    have e2 : elimE N es os = 1 := by rw [elimE, if_neg (by rw [hg]; simp)]
    rw [e1, e2]
    have HC := Lib.hid (graphOf_wrong hg a m cap w hl hm he)
    clear hg e1 e2 hl hm he hlO hmO hO
    go_enter Try.func13, Try.ntmps13
    go_wp2_with (go_at_call 39; refine HC.out.mono ?_; rintro e w1 ⟨rfl, hb⟩)
    go_ret2
    exact ⟨rfl, hb⟩

set_option maxRecDepth 100000 in
set_option maxHeartbeats 4000000 in
theorem IsRing_any (N : Int) (a aO : Option Addr) (m cap mO cO : Nat) (es : List (Int × Int)) (os : List Int) (w : World) (hl : es.length = m) (hm : m ≤ 1000) (he : Edges w a es) (hlO : os.length = mO) (hmO : mO ≤ 1000) (hO : Ints w aO os) :
    Calls Try.prog 14 #[.int .i64 N, .slice a m cap, .slice aO mO cO] w (Gives2 (.bool (isRingB N es os)) (.int .i64 (isRingE N es os)) w) := by
  rcases Bool.eq_false_or_eq_true (graphR N es) with hg | hg
  · obtain ⟨n, gs, rfl, h1, h2, hadj, hcall⟩ := graphOf_good hg
    have HC := Lib.hid (hcall a m cap w hl hm he)
    have HLT := Lib.hid (fun i (_ : i < n) => hadj.lt16 h2 i)
    have HLEN := Lib.hid hadj.len
    have HP := Lib.hid (fun (wx : World) (hx : Below w.heap.size w wx) (g : Nat) => areNodes_any (some ⟨g, 0, none⟩) aO n n mO cO os wx hlO hmO h2 (hO.below hx))
    rcases Bool.eq_false_or_eq_true (nodesB n os) with hp | hp
    · have e1 : isRingB n es os = ringR es os := by rw [isRingB, hg, hp, Bool.true_and, Bool.true_and]
      have e2 : isRingE n es os = 0 := by rw [isRingE, if_pos hg, if_pos hp]
      rw [e1, e2]
      rw [nodes_same, hp] at HP
      obtain ⟨hOe, hOlt⟩ := nodes_nat (n := n) (os := os) (by rw [nodes_same]; exact hp)
      have hrs := ring_same hadj h2 hOlt
      have HE := Lib.hid (fun (wx : World) (hx : Below w.heap.size w wx) (g : Nat) (hr : RowG wx g gs) => isRing_any (some ⟨g, 0, none⟩) aO n n mO cO gs (os.map Int.toNat) wx HLEN.out h2 HLT.out hr.sets (by simpa using hlO) hmO hOlt (by rw [← hOe]; exact hO.below hx))
      rw [hrs, ← hOe] at HE
      clear hcall hg hp e1 e2 hOe hrs hl hm he hlO hmO hO hadj hOlt
      go_enter Try.func14, Try.ntmps14
      go_wp2_with (go_at_call 39; refine HC.out.mono ?_; rintro e w1 ⟨g, rfl, hr, hge, hb⟩; have HR := Lib.hid (And.intro hr (And.intro hge hb)); clear hr hge hb)
      go_wp2_with (go_at_call 42; refine (HP.out _ HR.out.2.2 g).mono ?_; rintro e w2 ⟨rfl, rfl⟩)
      go_wp2_with (go_at_call 43; refine (HE.out _ HR.out.2.2 g HR.out.1).mono ?_; rintro e w3 ⟨rfl, hb3⟩; have HB3 := Lib.hid (HR.out.2.2.trans (hb3.mono HR.out.2.2.size)); clear hb3)
      go_ret2
      exact ⟨rfl, HB3.out⟩
    · have e1 : isRingB n es os = false := by rw [isRingB, hg, hp, Bool.true_and, Bool.false_and]
      have e2 : isRingE n es os = 2 := by rw [isRingE, if_pos hg, if_neg (by rw [hp]; simp)]
      rw [e1, e2]
      rw [nodes_same, hp] at HP
      clear hcall hg hp e1 e2 hl hm he hlO hmO hO hadj
      go_enter Try.func14, Try.ntmps14
      go_wp2_with (go_at_call 39; refine HC.out.mono ?_; rintro e w1 ⟨g, rfl, hr, hge, hb⟩; have HR := Lib.hid (And.intro hr (And.intro hge hb)); clear hr hge hb)
      go_wp2_with (go_at_call 42; refine (HP.out _ HR.out.2.2 g).mono ?_; rintro e w2 ⟨rfl, rfl⟩)
      go_ret2
      exact ⟨rfl, HR.out.2.2⟩
  · have e1 : isRingB N es os = false := by rw [isRingB, hg, Bool.false_and]
    have e2 : isRingE N es os = 1 := by rw [isRingE, if_neg (by rw [hg]; simp)]
    rw [e1, e2]
    have HC := Lib.hid (graphOf_wrong hg a m cap w hl hm he)
    clear hg e1 e2 hl hm he hlO hmO hO
    go_enter Try.func14, Try.ntmps14
    go_wp2_with (go_at_call 39; refine HC.out.mono ?_; rintro e w1 ⟨rfl, hb⟩)
    go_ret2
    exact ⟨rfl, hb⟩

end Go.Proofs.Yticafbfijpjbnaa
