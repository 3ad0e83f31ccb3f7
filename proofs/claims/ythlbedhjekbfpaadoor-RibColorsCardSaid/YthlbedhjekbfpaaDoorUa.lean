/-
  Chordal, pure: the reference takes nodes away from a list.
-/
import Derived.Test.YthlbedhjekbfpaaDoorTd
namespace Go.Proofs.YthlbedhjekbfpaaDoor
open Go.RowKit Go.Sort

/-- The neighbours of the i-th element among the first k. -/
def nearTo (es : List (Int × Int)) (l : List Int) (i k : Nat) : List Int := (l.take k).filter fun z => nearB es (l[i]?.getD 0) z
theorem near_step (es : List (Int × Int)) (l : List Int) (i k : Nat) (hk : k < l.length) : nearTo es l i (k + 1) = nearTo es l i k ++ [l[k]].filter fun z => nearB es (l[i]?.getD 0) z := by
  rw [nearTo, List.take_succ_eq_append_getElem hk, List.filter_append]
  rfl
theorem near_yes {es : List (Int × Int)} {l : List Int} {i k : Nat} (hk : k < l.length) (h : nearB es (l[i]?.getD 0) (l[k]?.getD 0) = true) : nearTo es l i (k + 1) = nearTo es l i k ++ [l[k]?.getD 0] := by
  rw [List.getElem?_eq_getElem hk, Option.getD_some] at h
  rw [near_step es l i k hk, List.filter_cons, if_pos h, List.filter_nil, List.getElem?_eq_getElem hk]
  rfl
theorem near_no {es : List (Int × Int)} {l : List Int} {i k : Nat} (hk : k < l.length) (h : nearB es (l[i]?.getD 0) (l[k]?.getD 0) = false) : nearTo es l i (k + 1) = nearTo es l i k := by
  rw [List.getElem?_eq_getElem hk, Option.getD_some] at h
  rw [near_step es l i k hk, List.filter_cons, if_neg (by rw [h]; simp), List.filter_nil, List.append_nil]
/-- Whether the neighbours of the i-th element are a clique. -/
def cleanAt (es : List (Int × Int)) (l : List Int) (i : Nat) : Bool := cliqueR es (nearTo es l i l.length)
def atR (es : List (Int × Int)) (l : List Int) : Option Nat := (List.range l.length).find? (cleanAt es l)
def without (l : List Int) (i : Nat) : List Int := l.take i ++ l.drop (i + 1)
theorem without_len (l : List Int) (i : Nat) (hi : i < l.length) : (without l i).length = l.length - 1 := by
  rw [without, List.length_append, List.length_take, List.length_drop]; omega
/-- The reference's 'Chordal'. -/
def chordL (es : List (Int × Int)) : Nat → List Int → Bool
  | 0, _ => true
  | f + 1, l => match atR es l with
    | some i => chordL es f (without l i)
    | none => false
def chordR (es : List (Int × Int)) (n : Nat) : Bool := chordL es n ((List.range n).map fun (x : Nat) => (x : Int))
theorem atR_lt {es : List (Int × Int)} {l : List Int} {i : Nat} (h : atR es l = some i) : i < l.length := List.mem_range.1 (List.mem_of_find?_eq_some h)
theorem chordL_some {es : List (Int × Int)} {l : List Int} {f i : Nat} (h : atR es l = some i) : chordL es (f + 1) l = chordL es f (without l i) := by
  rw [chordL, h]
theorem chordL_none {es : List (Int × Int)} {l : List Int} {f : Nat} (h : atR es l = none) : chordL es (f + 1) l = false := by
  rw [chordL, h]
/-- Where the reference stands as it looks for a node. -/
def atV : Option Nat → Value
  | some t => .int .i64 (t : Int)
  | none => .int .i64 (-1)

/-- The reference's list is the program's set. -/
def listS (s n : Nat) : List Int := bitsR s n
theorem bits_take (s n i : Nat) (hn : i < n) (hi : s.testBit i = true) : ∃ k, k < (bitsR s n).length ∧ (bitsR s n)[k]?.getD 0 = (i : Int) := by
  have hm : (i : Int) ∈ bitsR s n := mem_bitsR.2 ⟨i, rfl, hn, hi⟩
  obtain ⟨k, hk, e⟩ := List.getElem_of_mem hm
  exact ⟨k, hk, by rw [List.getElem?_eq_getElem hk, Option.getD_some, e]⟩

end Go.Proofs.YthlbedhjekbfpaaDoor
