/-
  The sort of sets: lists of numbers in lexicographic order; slices.SortFunc with compareSets.
-/
import Derived.Test.YteckeobhlfddlaaRr
import Derived.Test.YteckeobhlfddlaaSortF
namespace Go.Proofs.Yteckeobhlfddlaa.Rib
open Go.RowKit Go.Sort Go.Shelf

theorem cmpR_neg (x y : Int) : cmpR y x = -cmpR x y := by
  unfold cmpR
  by_cases h1 : x < y
  · rw [if_pos h1, if_neg (by omega : ¬ y < x), if_pos h1]; rfl
  · by_cases h2 : y < x
    · rw [if_pos h2, if_neg h1, if_pos h2]
    · rw [if_neg h1, if_neg h2, if_neg h2, if_neg h1]; rfl
theorem cmpR_zero (x y : Int) : cmpR x y = 0 ↔ x = y := by
  unfold cmpR
  by_cases h1 : x < y
  · rw [if_pos h1]; constructor <;> intro h <;> omega
  · by_cases h2 : y < x
    · rw [if_neg h1, if_pos h2]; constructor <;> intro h <;> omega
    · rw [if_neg h1, if_neg h2]; constructor <;> intro h <;> omega
theorem cmpR_lt (x y : Int) : cmpR x y < 0 ↔ x < y := by
  unfold cmpR
  by_cases h1 : x < y
  · rw [if_pos h1]; constructor <;> intro h <;> omega
  · by_cases h2 : y < x
    · rw [if_neg h1, if_pos h2]; constructor <;> intro h <;> omega
    · rw [if_neg h1, if_neg h2]; constructor <;> intro h <;> omega
theorem lexZ_neg : ∀ xs ys : List Int, lexZ ys xs = -lexZ xs ys
  | [], [] => rfl
  | [], _ :: _ => rfl
  | _ :: _, [] => rfl
  | x :: xs, y :: ys => by
    rw [lexZ, lexZ, cmpR_neg x y]
    by_cases h : cmpR x y = 0
    · rw [if_pos h, if_pos (by omega), lexZ_neg xs ys]
    · rw [if_neg h, if_neg (by omega)]
theorem lexZ_zero : ∀ xs ys : List Int, lexZ xs ys = 0 ↔ xs = ys
  | [], [] => by simp [lexZ]
  | [], _ :: _ => by simp [lexZ]
  | _ :: _, [] => by simp [lexZ]
  | x :: xs, y :: ys => by
    rw [lexZ]
    by_cases h : cmpR x y = 0
    · rw [if_pos h, lexZ_zero xs ys, (cmpR_zero x y).1 h]; simp
    · rw [if_neg h]
      have : ¬ x = y := fun e => h ((cmpR_zero x y).2 e)
      simp [h, this]
theorem lexZ_trans : ∀ xs ys zs : List Int, lexZ xs ys < 0 → lexZ ys zs < 0 → lexZ xs zs < 0
  | [], [], _, h, _ => by simp [lexZ] at h
  | [], _ :: _, [], _, h => by simp [lexZ] at h
  | [], _ :: _, _ :: _, _, _ => by simp [lexZ]
  | _ :: _, [], _, h, _ => by simp [lexZ] at h
  | _ :: _, _ :: _, [], _, h => by simp [lexZ] at h
  | x :: xs, y :: ys, z :: zs, h1, h2 => by
    rw [lexZ] at h1 h2 ⊢
    by_cases e1 : cmpR x y = 0
    · rw [if_pos e1] at h1
      have e1' := (cmpR_zero x y).1 e1
      subst e1'
      by_cases e2 : cmpR x z = 0
      · rw [if_pos e2] at h2 ⊢
        exact lexZ_trans xs ys zs h1 h2
      · rw [if_neg e2] at h2 ⊢
        exact h2
    · rw [if_neg e1] at h1
      have l1 := (cmpR_lt x y).1 h1
      by_cases e2 : cmpR y z = 0
      · have e2' := (cmpR_zero y z).1 e2
        subst e2'
        rw [if_neg e1]; exact h1
      · rw [if_neg e2] at h2
        have l2 := (cmpR_lt y z).1 h2
        have l3 := (cmpR_lt x z).2 (by omega)
        rw [if_neg (by omega)]; exact l3

/-- The sets of 12 nodes, as the sort sees them. -/
def encS (x : Fin 4096) : Value := .int .u16 (x.val : Int)
def cfS (s t : Fin 4096) : Int := lexZ (listI s.val) (listI t.val)
theorem ltS (s t : Fin 4096) : ltOf cfS s t = decide (lexZ (listI s.val) (listI t.val) < 0) := rfl
theorem swoS : SWO (ltOf cfS) where
  irrefl x := by rw [ltS, (lexZ_zero _ _).2 rfl]; rfl
  trans x y z h1 h2 := by
    rw [ltS, decide_eq_true_eq] at *
    exact lexZ_trans _ _ _ h1 h2
  ntrans x y z h1 h2 := by
    rw [ltS, decide_eq_false_iff_not] at *
    intro h3
    have n1 := lexZ_neg (listI x.val) (listI y.val)
    have n2 := lexZ_neg (listI y.val) (listI z.val)
    have n3 := lexZ_neg (listI x.val) (listI z.val)
    rcases Int.lt_trichotomy (lexZ (listI y.val) (listI x.val)) 0 with a | a | a
    · rcases Int.lt_trichotomy (lexZ (listI z.val) (listI y.val)) 0 with b | b | b
      · have := lexZ_trans _ _ _ b a; omega
      · rw [(lexZ_zero _ _).1 b] at h3; omega
      · omega
    · have e := (lexZ_zero _ _).1 a
      rw [e] at h2; exact h2 h3
    · omega
theorem listN_bit (s i : Nat) : i ∈ listN s ↔ i < 12 ∧ s.testBit i = true := by
  rw [listN, List.mem_filter, List.mem_range]
theorem listI_inj {s t : Nat} (hs : s < 4096) (ht : t < 4096) (h : listI s = listI t) : s = t := by
  have h2 : listN s = listN t := by
    unfold listI at h
    exact List.map_inj_right (fun a b hab => by omega) |>.1 h
  refine Nat.eq_of_testBit_eq fun i => ?_
  rcases Nat.lt_or_ge i 12 with hi | hi
  · rw [Bool.eq_iff_iff]
    have a := listN_bit s i
    have b := listN_bit t i
    rw [h2] at a
    constructor
    · intro hh; exact (b.1 (a.2 ⟨hi, hh⟩)).2
    · intro hh; exact (a.1 (b.2 ⟨hi, hh⟩)).2
  · rw [Nat.testBit_lt_two_pow (Nat.lt_of_lt_of_le hs (Nat.pow_le_pow_right (n := 2) (i := 12) (by omega) hi)), Nat.testBit_lt_two_pow (Nat.lt_of_lt_of_le ht (Nat.pow_le_pow_right (n := 2) (i := 12) (by omega) hi))]
theorem totS (x y : Fin 4096) (h1 : ltOf cfS x y = false) (h2 : ltOf cfS y x = false) : x = y := by
  rw [ltS, decide_eq_false_iff_not] at *
  have n1 := lexZ_neg (listI x.val) (listI y.val)
  have := (lexZ_zero (listI x.val) (listI y.val)).1 (by omega)
  exact Fin.ext (listI_inj x.isLt y.isLt this)

/-- Sets sorted by their lists. -/
def leS (s t : Nat) : Bool := !(decide (lexZ (listI t) (listI s) < 0))
def srtN (L : List Nat) : List Nat := L.mergeSort leS
def finS (L : List Nat) : Array (Fin 4096) := (L.map (Fin.ofNat 4096)).toArray
theorem finS_sort (L : List Nat) (h : ∀ x ∈ L, x < 4096) : ((finS L).toList.mergeSort fun x y => !(ltOf cfS) y x).map Fin.val = srtN L := by
  have e : (finS L).toList.map Fin.val = L := by
    unfold finS
    rw [List.map_map]
    conv => rhs; rw [← List.map_id L]
    exact List.map_congr_left fun x hx => Nat.mod_eq_of_lt (h x hx)
  rw [List.map_mergeSort (s := leS) (f := Fin.val) (fun a _ b _ => by rw [ltS]; rfl), e]
  rfl

theorem below_sortWorld {B blk off n : Nat} {w : World} (d : Array (Fin 4096)) (os : Array Obj) (hB : B ≤ blk) (hblk : blk < w.heap.size) : Below B w (sortWorld encS w blk off n d os) where
  os := rfl
  tape := rfl
  output := rfl
  size := by unfold sortWorld; rw [size_grow, size_putRow]; show w.heap.size ≤ w.heap.size + _; omega
  block k hk := by
    unfold sortWorld
    rw [heap_grow_old _ _ (by rw [size_putRow]; show k < w.heap.size; omega)]
    show (w.heap.modify blk _)[k]? = _
    rw [Array.getElem?_modify, if_neg (by omega)]

theorem eg73 : ∀ args w, (callFunc 34 args).run Try.prog w = .ok (.enter 34 args) w := enters_of Try.func34 (by kernel_rfl) rfl

set_option maxRecDepth 100000 in
theorem sortSets_any (base blk cap : Nat) (L : List Nat) (w : World) (hlt : ∀ x ∈ L, x < 4096) (hbase : base ≤ blk) (hown : w.ownsRow base 68 1 (.slice (some ⟨blk, 0, none⟩) L.length cap) L.length (L.map fun (x : Nat) => Value.int .u16 x)) (hl : L.length ≤ 1000000) (_hne : L ≠ []) :
    Calls Try.prog 33 #[.slice (some ⟨blk, 0, none⟩) L.length cap, .func (.func 34) #[] #[]] w
      fun e w' => e = .returned (.tuple #[]) ∧ Sets w' (some ⟨blk, 0, none⟩) (srtN L) ∧ Below base w w' := by
  have hsz : (finS L).size = L.length := by simp [finS]
  have hval : ∀ x ∈ L, (Fin.ofNat 4096 x).val = x := fun x hx => Nat.mod_eq_of_lt (hlt x hx)
  have hblk : blk < w.heap.size := (hown.lt blk rfl).2
  have hH : Holds encS w blk 0 (finS L) := by
    intro j hj
    rw [hsz] at hj
    rcases hown.2 with ⟨e, _⟩ | ⟨g, cap', cur, e, _, hg, _⟩
    · cases e
    · cases e
      refine ⟨?_, row_free hg _⟩
      rw [Nat.zero_add, hown.cellAt j (by omega)]
      have : (finS L)[j]! = Fin.ofNat 4096 L[j] := by
        rw [getElem!_pos (finS L) j (by rw [hsz]; exact hj)]
        simp [finS]
      rw [this, encS, hval L[j] (List.getElem_mem hj)]
      simp [hj]
  have hcmp : CmpLays1 Try.prog 34 #[] encS cfS blk 0 (finS L).size w := fun m os dk _ x y =>
    (compareSets_any x.val y.val _ (by omega) (by omega)).mono fun e w' ⟨he, hg⟩ => ⟨he, hg.grow⟩
  have h := Any.slices_SortFunc_total Try.sf encS (fun _ => rfl) cfS swoS 34 #[] blk 0 cap (finS L) w eg73 hcmp hH hblk (by rw [hsz]; omega) totS
  change Calls Try.prog 33 _ _ _ at h
  rw [hsz] at h
  refine h.mono ?_
  rintro e w' ⟨rfl, n, os, rfl⟩
  refine ⟨rfl, ?_, below_sortWorld _ _ hbase hblk⟩
  have hS : SW encS w blk 0 ((finS L).toList.mergeSort fun x y => !(ltOf cfS) y x).toArray (sortWorld encS w blk 0 n ((finS L).toList.mergeSort fun x y => !(ltOf cfS) y x).toArray os) := ⟨n, os, rfl⟩
  have hlen : ((finS L).toList.mergeSort fun x y => !(ltOf cfS) y x).toArray.size = (finS L).size := by
    rw [List.size_toArray, List.length_mergeSort, Array.length_toList]
  have hh := hS.holds hblk hH hlen
  have hfs := finS_sort L hlt
  generalize ((finS L).toList.mergeSort fun x y => !(ltOf cfS) y x) = R at *
  intro i hi
  have hiR : i < R.length := by
    have := congrArg List.length hfs
    rw [List.length_map] at this
    omega
  refine ⟨blk, 0, rfl, ?_⟩
  rw [(hh i (by simpa using hiR)).1, ← hfs]
  rw [getElem!_pos R.toArray i (by simpa using hiR)]
  simp [hiR, encS]

end Go.Proofs.Yteckeobhlfddlaa.Rib
