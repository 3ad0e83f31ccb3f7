/-
  'graphOf' in the reference's words; the walks of 'Eliminates' and 'IsRing'.
-/
import Derived.Test.YthlbedhjekbfpaaDoorRp
namespace Go.Proofs.YthlbedhjekbfpaaDoor
open Go.RowKit Go.Sort

/-- What 'graphOf' hands back of a valid graph. -/
def GoodG (n : Nat) (gs : List Nat) (w : World) (e : Ending) (w' : World) : Prop := ∃ g, e = .returned (.tuple #[.slice (some ⟨g, 0, none⟩) n n, .bool true]) ∧ RowG w' g gs ∧ w.heap.size ≤ g ∧ Below w.heap.size w w'
theorem graphOf_good {N : Int} {es : List (Int × Int)} (h : graphR N es = true) : ∃ (n : Nat) (gs : List Nat), N = n ∧ 1 ≤ n ∧ n ≤ 12 ∧ Adj n gs es ∧
    ∀ (a : Option Addr) (m cap : Nat) (w : World), es.length = m → m ≤ 1000 → Edges w a es → Calls Tryd.prog 33 #[.int .i64 N, .slice a m cap] w (GoodG n gs w) := by
  obtain ⟨n, gs, rfl, h1, h2, _, hg, ha⟩ := graphN_good h
  refine ⟨n, gs, rfl, h1, h2, ha, fun a m cap w hl hm he => (graphOf_any a n m cap es w h1 h2 hl hm he).mono ?_⟩
  rintro e w' ⟨hb, hm⟩
  rw [hg] at hm
  obtain ⟨g, rfl, hr, hle⟩ := hm
  exact ⟨g, rfl, hr, hle, hb⟩
theorem graphOf_wrong {N : Int} {es : List (Int × Int)} (h : graphR N es = false) (a : Option Addr) (m cap : Nat) (w : World) (hl : es.length = m) (hm : m ≤ 1000) (he : Edges w a es) :
    Calls Tryd.prog 33 #[.int .i64 N, .slice a m cap] w (Gives2 (.slice none 0 0) (.bool false) w) := by
  by_cases hN : 1 ≤ N ∧ N ≤ 12
  · obtain ⟨n, rfl⟩ := Int.eq_ofNat_of_zero_le (show 0 ≤ N by omega)
    have hg := graphN_bad h
    rw [graphN, if_pos hN] at hg
    refine (graphOf_any a n m cap es w (by omega) (by omega) hl hm he).mono ?_
    rintro e w' ⟨hb, hm⟩
    rw [show ((n : Int).toNat) = n from rfl] at hg
    rw [hg] at hm
    exact ⟨hm, hb⟩
  · refine (graphOf_bad (.slice a m cap) N w (by omega)).mono ?_
    rintro e w' ⟨rfl, rfl⟩
    exact ⟨rfl, Below.refl _ _⟩

/-- What 'Eliminates' and 'IsRing' answer. -/
def elimB (N : Int) (es : List (Int × Int)) (os : List Int) : Bool := graphR N es && (permR os N && elimR es os)
def elimE (N : Int) (es : List (Int × Int)) (os : List Int) : Int := if graphR N es = true then (if permR os N = true then 0 else 2) else 1
def nodesB (N : Int) (l : List Int) : Bool := l.all fun z => inR z 0 (N - 1)
def isRingB (N : Int) (es : List (Int × Int)) (l : List Int) : Bool := graphR N es && (nodesB N l && ringR es l)
def isRingE (N : Int) (es : List (Int × Int)) (l : List Int) : Int := if graphR N es = true then (if nodesB N l = true then 0 else 2) else 1

theorem elim_perm {n : Nat} {gs : List Nat} {es : List (Int × Int)} (h : Adj n gs es) (hn : n ≤ 12) {os : List Int} (hp : permR os n = true) : ∃ O : List Nat, os = O.map (fun (x : Nat) => (x : Int)) ∧ (∀ x ∈ O, x < n) ∧ elimFrom gs (2 ^ n - 1) O = elimR es os := by
  obtain ⟨O, rfl, h1, h2, h3⟩ := permR_good hp
  refine ⟨O, rfl, h2, elim_same h hn O _ h1 h2 (Nat.sub_lt (Nat.pow_pos (by omega)) (by omega)) fun b => ?_⟩
  rw [full_bits, decide_eq_true_eq]
  refine ⟨fun hb => ?_, h2 b⟩
  have hs : O ⊆ List.range n := fun x hx => List.mem_range.2 (h2 x hx)
  exact (nodup_perm h1 hs (by simp [h3])).mem_iff.2 (List.mem_range.2 hb)
theorem nodes_same (n : Nat) (l : List Int) : l.all (nodeB n) = nodesB n l := by
  unfold nodesB
  congr 1
  funext z
  rw [nodeB, inR, Bool.eq_iff_iff]
  simp only [Bool.and_eq_true, decide_eq_true_eq]
  omega

end Go.Proofs.YthlbedhjekbfpaaDoor
