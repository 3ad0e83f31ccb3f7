/-
  graphOf of a valid graph and of what is none.
-/
import Derived.Test.YteckeobhlfddlaaRk
import Derived.Laws.StructEq
namespace Go.Proofs.Yteckeobhlfddlaa.Rib

section
open Go.RowKit Go.Sort

theorem pairS : Try.prog.underlying 31 = some (.struct (Try.prog.fieldsOf 31)) := by kernel_rfl
theorem pairP : Try.prog.stoodInHeld 31 = false := by kernel_rfl
theorem pairG : Try.prog.eqGuardType Try.prog.depth 31 = false := by kernel_rfl
theorem eqPair (a b c d : Int) (w : World) : (binOp .eql 31 (.agg #[.int .i64 a, .int .i64 b]) (.agg #[.int .i64 c, .int .i64 d])).run Try.prog w = .ok (.bool (a == c && b == d)) w := by
  have u3 := Try.underlying3
  have a3 := Try.isAgg3
  have z3 := Try.sizeOf3
  rw [run_eql_struct, show (10000 : Nat) = 9999 + 1 from rfl, run_equalIn_agg w 9999 31 _ _ pairS pairP]
  simp only [Program.fieldsOf, Try.underlying31]
  go_simp
  by_cases h1 : a = c <;> by_cases h2 : b = d <;> simp [h1, h2]
end

section
open Go.RowKit Go.Sort

theorem validFrom_cons (n : Int) (es : List (Int × Int)) (k : Nat) (hk : k < es.length) : validFrom n (es.take k) (es.drop k) = (okE n (es.take k) es[k] && validFrom n (es.take (k + 1)) (es.drop (k + 1))) := by
  rw [List.drop_eq_getElem_cons hk, validFrom, List.take_succ_eq_append_getElem hk]
end

section
open Go.RowKit Go.Sort

theorem CollI.drewN {w wr : World} {l : List Int} {k : Nat} {v : Value} (h : CollI w l k v wr) (q : Nat) : CollI w l k v (wr.drewN q) := ⟨below_drewN h.1 q, h.2⟩

/-- The nodes behind the k-th one, up to the j-th one, that are its neighbours. -/
def aftTo (es : List (Int × Int)) (l : List Int) (k j : Nat) : List Int := ((l.take j).drop (k + 1)).filter fun z => nearB es (l[k]?.getD 0) z
theorem aft_start (es : List (Int × Int)) (l : List Int) (k : Nat) : aftTo es l k (k + 1) = [] := by
  rw [aftTo, List.drop_eq_nil_of_le (by rw [List.length_take]; omega)]; rfl
theorem aft_step (es : List (Int × Int)) (l : List Int) (k j : Nat) (hk : k < j) (hj : j < l.length) : aftTo es l k (j + 1) = aftTo es l k j ++ [l[j]].filter fun z => nearB es (l[k]?.getD 0) z := by
  rw [aftTo, List.take_succ_eq_append_getElem hj, List.drop_append_of_le_length (by rw [List.length_take]; omega), List.filter_append]
  rfl
theorem aft_yes {es : List (Int × Int)} {l : List Int} {k j : Nat} (hk : k < j) (hj : j < l.length) (h : nearB es (l[k]?.getD 0) (l[j]?.getD 0) = true) : aftTo es l k (j + 1) = aftTo es l k j ++ [l[j]?.getD 0] := by
  rw [List.getElem?_eq_getElem hj, Option.getD_some] at h
  rw [aft_step es l k j hk hj, List.filter_cons, if_pos h, List.filter_nil, List.getElem?_eq_getElem hj]
  rfl
theorem aft_no {es : List (Int × Int)} {l : List Int} {k j : Nat} (hk : k < j) (hj : j < l.length) (h : nearB es (l[k]?.getD 0) (l[j]?.getD 0) = false) : aftTo es l k (j + 1) = aftTo es l k j := by
  rw [List.getElem?_eq_getElem hj, Option.getD_some] at h
  rw [aft_step es l k j hk hj, List.filter_cons, if_neg (by rw [h]; simp), List.filter_nil, List.append_nil]
theorem aft_len (es : List (Int × Int)) (l : List Int) (k j : Nat) : (aftTo es l k j).length ≤ j := by
  refine Nat.le_trans (List.length_filter_le _ _) ?_
  rw [List.length_drop, List.length_take]; omega
theorem elimR_at (es : List (Int × Int)) (l : List Int) (k : Nat) (hk : k < l.length) : elimR es (l.drop k) = (cliqueR es (aftTo es l k l.length) && elimR es (l.drop (k + 1))) := by
  rw [List.drop_eq_getElem_cons hk, elimR, aftTo, List.take_length, List.getElem?_eq_getElem hk]
  rfl
end

section
open Go.RowKit Go.Sort

def ringRow (es : List (Int × Int)) (l : List Int) (i : Nat) : Bool := (List.range i).all (ringRAt es l i)
theorem ringR_rows (es : List (Int × Int)) (l : List Int) : ringR es l = (decide (4 ≤ l.length) && (List.range l.length).all (ringRow es l)) := rfl
end

section
open Go.RowKit Go.Sort

theorem setOf_three (x y z : Nat) (hx : x < 16) (hy : y < 16) (hz : z < 16) (wx : World) : Calls Try.prog 27 #[.slice (some ⟨wx.heap.size, 0, none⟩) 3 3] (wx.alloc (.cells #[.int .i64 (x : Int), .int .i64 (y : Int), .int .i64 (z : Int)] 3)).drew
    fun e w' => e = .returned (.int .u16 (setN' [x, y, z] : Nat)) ∧ (wx.alloc (.cells #[.int .i64 (x : Int), .int .i64 (y : Int), .int .i64 (z : Int)] 3)).drew = w' :=
  setOf_any (some ⟨wx.heap.size, 0, none⟩) 3 3 [x, y, z] (wx.alloc (.cells #[.int .i64 (x : Int), .int .i64 (y : Int), .int .i64 (z : Int)] 3)).drew rfl (by omega) (by simp; omega) (fun i hi => ⟨wx.heap.size, 0, rfl, by
    show (wx.alloc (.cells #[.int .i64 (x : Int), .int .i64 (y : Int), .int .i64 (z : Int)] 3)).cell? _ = _
    have hi' : i < 3 := by simpa using hi
    match i, hi' with
    | 0, _ => exact World.cell?_alloc_at _ _ _ _ rfl
    | 1, _ => exact World.cell?_alloc_at _ _ _ _ rfl
    | 2, _ => exact World.cell?_alloc_at _ _ _ _ rfl⟩)
end

section
open Go.RowKit Go.Sort

/-- What 'graphOf' hands back of a valid graph. -/
def GoodG (n : Nat) (gs : List Nat) (w : World) (e : Ending) (w' : World) : Prop := ∃ g, e = .returned (.tuple #[.slice (some ⟨g, 0, none⟩) n n, .bool true]) ∧ RowG w' g gs ∧ w.heap.size ≤ g ∧ Below w.heap.size w w'
theorem graphOf_good {N : Int} {es : List (Int × Int)} (h : graphR N es = true) : ∃ (n : Nat) (gs : List Nat), N = n ∧ 1 ≤ n ∧ n ≤ 12 ∧ Adj n gs es ∧
    ∀ (a : Option Addr) (m cap : Nat) (w : World), es.length = m → m ≤ 1000 → Edges w a es → Calls Try.prog 14 #[.int .i64 N, .slice a m cap] w (GoodG n gs w) := by
  obtain ⟨n, gs, rfl, h1, h2, _, hg, ha⟩ := graphN_good h
  refine ⟨n, gs, rfl, h1, h2, ha, fun a m cap w hl hm he => (graphOf_any a n m cap es w h1 h2 hl hm he).mono ?_⟩
  rintro e w' ⟨hb, hm⟩
  rw [hg] at hm
  obtain ⟨g, rfl, hr, hle⟩ := hm
  exact ⟨g, rfl, hr, hle, hb⟩
theorem graphOf_wrong {N : Int} {es : List (Int × Int)} (h : graphR N es = false) (a : Option Addr) (m cap : Nat) (w : World) (hl : es.length = m) (hm : m ≤ 1000) (he : Edges w a es) :
    Calls Try.prog 14 #[.int .i64 N, .slice a m cap] w (Gives2 (.slice none 0 0) (.bool false) w) := by
  by_cases hN : 1 ≤ N ∧ N ≤ 12
  · obtain ⟨n, rfl⟩ := Int.eq_ofNat_of_zero_le (show 0 ≤ N by omega)
    have hg := graphN_bad h
    rw [graphN, if_pos hN] at hg
    refine (graphOf_any a n m cap es w (by omega) (by omega) hl hm he).mono ?_
    rintro e w' ⟨hb, hm⟩
    rw [show ((n : Int).toNat) = n from rfl] at hg
    rw [hg] at hm
    exact ⟨hm, hb⟩
  · refine (graphOf_bad (.slice a m cap) N w (by omega)).mono ?_
    rintro e w' ⟨rfl, rfl⟩
    exact ⟨rfl, Below.refl _ _⟩

/-- What 'Eliminates' and 'IsRing' answer. -/
def elimB (N : Int) (es : List (Int × Int)) (os : List Int) : Bool := graphR N es && (permR os N && elimR es os)
def elimE (N : Int) (es : List (Int × Int)) (os : List Int) : Int := if graphR N es = true then (if permR os N = true then 0 else 2) else 1
def nodesB (N : Int) (l : List Int) : Bool := l.all fun z => inR z 0 (N - 1)
def isRingB (N : Int) (es : List (Int × Int)) (l : List Int) : Bool := graphR N es && (nodesB N l && ringR es l)
def isRingE (N : Int) (es : List (Int × Int)) (l : List Int) : Int := if graphR N es = true then (if nodesB N l = true then 0 else 2) else 1

theorem elim_perm {n : Nat} {gs : List Nat} {es : List (Int × Int)} (h : Adj n gs es) (hn : n ≤ 12) {os : List Int} (hp : permR os n = true) : ∃ O : List Nat, os = O.map (fun (x : Nat) => (x : Int)) ∧ (∀ x ∈ O, x < n) ∧ elimFrom gs (2 ^ n - 1) O = elimR es os := by
  obtain ⟨O, rfl, h1, h2, h3⟩ := permR_good hp
  refine ⟨O, rfl, h2, elim_same h hn O _ h1 h2 (Nat.sub_lt (Nat.pow_pos (by omega)) (by omega)) fun b => ?_⟩
  rw [full_bits, decide_eq_true_eq]
  refine ⟨fun hb => ?_, h2 b⟩
  have hs : O ⊆ List.range n := fun x hx => List.mem_range.2 (h2 x hx)
  exact (nodup_perm h1 hs (by simp [h3])).mem_iff.2 (List.mem_range.2 hb)
theorem nodes_same (n : Nat) (l : List Int) : l.all (nodeB n) = nodesB n l := by
  unfold nodesB
  congr 1
  funext z
  rw [nodeB, inR, Bool.eq_iff_iff]
  simp only [Bool.and_eq_true, decide_eq_true_eq]
  omega
end

end Go.Proofs.Yteckeobhlfddlaa.Rib
