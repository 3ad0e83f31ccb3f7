/-
  THE PLAIN FUNCTIONS of package fold and of its reference: lists and numbers alone; nothing of the program.
-/
namespace Go.Proofs.Yteckeobhlfddlaa

/-- A crease. -/
structure Cr where
  first : Nat
  second : Nat
  pos : Int
/-- What strips and vertices have in common. -/
structure Cl where
  low : List Int
  high : List Int
  crs : List Cr

def sizeB (z : Int) : Bool := decide (1 ≤ z) && decide (z ≤ 1000)
def sizesB (zs : List Int) : Bool := zs.all sizeB
def stripB (zs : List Int) : Bool := decide (1 ≤ zs.length) && decide (zs.length ≤ 9) && sizesB zs

def Cr.beside (f g : Cr) : Bool := decide (f.pos = g.pos) && decide (f.second % 2 = g.second % 2)

theorem all_take_succ {α : Type} (p : α → Bool) (l : List α) (k : Nat) (h : k < l.length) : (l.take (k + 1)).all p = ((l.take k).all p && p l[k]) := by
  rw [List.take_succ_eq_append_getElem h, List.all_append]; simp

theorem all_false_at {α : Type} (p : α → Bool) (l : List α) (k : Nat) (h : k < l.length) (hp : p l[k] = false) : l.all p = false := by
  rw [Bool.eq_false_iff]; intro hc
  rw [List.all_eq_true] at hc
  have := hc _ (List.getElem_mem h)
  rw [hp] at this; cases this
theorem all_next {α : Type} (p : α → Bool) (l : List α) (k : Nat) (h : k < l.length) (ha : (l.take k).all p = true) (hp : p l[k] = true) : (l.take (k + 1)).all p = true := by
  rw [all_take_succ p l k h, ha, hp]; rfl

/-- The position at which segment k begins. -/
def posAt (zs : List Int) : Nat → Int
  | 0 => 0
  | k + 1 => if k % 2 = 0 then posAt zs k + zs[k]?.getD 0 else posAt zs k - zs[k]?.getD 0
def lowsTo (zs : List Int) (k : Nat) : List Int := (List.range k).map fun i => min (posAt zs i) (posAt zs (i + 1))
def highsTo (zs : List Int) (k : Nat) : List Int := (List.range k).map fun i => max (posAt zs i) (posAt zs (i + 1))
def crsTo (zs : List Int) (k : Nat) : List Cr := (List.range (k - 1)).map fun i => ⟨i, i + 1, posAt zs (i + 1)⟩
def layCl (zs : List Int) : Cl := ⟨lowsTo zs zs.length, highsTo zs zs.length, crsTo zs zs.length⟩

theorem lowsTo_succ (zs : List Int) (k : Nat) : lowsTo zs (k + 1) = lowsTo zs k ++ [min (posAt zs k) (posAt zs (k + 1))] := by simp [lowsTo, List.range_succ]
theorem highsTo_succ (zs : List Int) (k : Nat) : highsTo zs (k + 1) = highsTo zs k ++ [max (posAt zs k) (posAt zs (k + 1))] := by simp [highsTo, List.range_succ]
theorem crsTo_succ (zs : List Int) (k : Nat) (h : 0 < k) : crsTo zs (k + 1) = crsTo zs k ++ [⟨k - 1, k, posAt zs k⟩] := by
  obtain ⟨j, rfl⟩ : ∃ j, k = j + 1 := ⟨k - 1, by omega⟩
  simp [crsTo, List.range_succ]
theorem crsTo_one (zs : List Int) : crsTo zs 1 = [] := rfl
@[simp] theorem lowsTo_length (zs : List Int) (k : Nat) : (lowsTo zs k).length = k := by simp [lowsTo]
@[simp] theorem highsTo_length (zs : List Int) (k : Nat) : (highsTo zs k).length = k := by simp [highsTo]
@[simp] theorem crsTo_length (zs : List Int) (k : Nat) : (crsTo zs k).length = k - 1 := by simp [crsTo]

theorem size_at {zs : List Int} (h : sizesB zs = true) (k : Nat) : 0 ≤ zs[k]?.getD 0 ∧ zs[k]?.getD 0 ≤ 1000 := by
  by_cases hk : k < zs.length
  · rw [sizesB, List.all_eq_true] at h
    have := h _ (List.getElem_mem hk)
    simp [sizeB] at this
    simp [hk]; omega
  · simp [List.getElem?_eq_none (by omega : zs.length ≤ k)]
theorem size_in {zs : List Int} (h : sizesB zs = true) (k : Nat) (hk : k < zs.length) : 1 ≤ zs[k] ∧ zs[k] ≤ 1000 := by
  rw [sizesB, List.all_eq_true] at h
  have := h _ (List.getElem_mem hk)
  simp [sizeB] at this
  exact this
theorem posAt_bound {zs : List Int} (h : sizesB zs = true) : ∀ k : Nat, -(1000 * (k : Int)) ≤ posAt zs k ∧ posAt zs k ≤ 1000 * k
  | 0 => by simp [posAt]
  | k + 1 => by
    have := posAt_bound h k
    have := size_at h k
    rw [posAt]
    split <;> omega

/-- Whether a crease of which one segment is placed would cross another one. -/
def crossB (L : List Int) (m : Int) (f g : Cr) : Bool := g.beside f && (decide (m < L[g.first]?.getD 0) != decide (m < L[g.second]?.getD 0))
def crossedB (crs : List Cr) (L : List Int) (f : Cr) : Bool := crs.any (crossB L (max (L[f.first]?.getD 0) (L[f.second]?.getD 0)) f)

theorem any_true_at {α : Type} (p : α → Bool) (l : List α) (k : Nat) (h : k < l.length) (hp : p l[k] = true) : l.any p = true :=
  List.any_eq_true.2 ⟨_, List.getElem_mem h, hp⟩
theorem any_next {α : Type} (p : α → Bool) (l : List α) (k : Nat) (h : k < l.length) (ha : (l.take k).any p = false) (hp : p l[k] = false) : (l.take (k + 1)).any p = false := by
  rw [List.take_succ_eq_append_getElem h, List.any_append, ha]; simp [hp]
theorem any_done {α : Type} (p : α → Bool) (l : List α) (ha : (l.take l.length).any p = false) : l.any p = false := by simpa using ha

/-- Whether a crease lets segment s be the next layer. -/
def fitB (crs : List Cr) (low high L : List Int) (s : Nat) (f : Cr) : Bool :=
  if ((L[f.first]?.getD 0 == -1) != (L[f.second]?.getD 0 == -1)) = true then
    !(decide (low[s]?.getD 0 < f.pos) && decide (f.pos < high[s]?.getD 0)) && !((s == f.first || s == f.second) && crossedB crs L f)
  else true
def fitsB (c : Cl) (L : List Int) (s : Nat) : Bool := c.crs.all (fitB c.crs c.low c.high L s)

/-- All orders that fold, which begin with O, k layers being left to lay: L says which layer each segment has, or -1. -/
def placeAll (c : Cl) (n : Nat) : Nat → List Int → List Nat → List (List Nat)
  | 0, _, O => [O]
  | k + 1, L, O => (List.range n).flatMap fun s => if (L[s]?.getD 0 == -1 && fitsB c L s) = true then placeAll c n k (L.set s O.length) (O ++ [s]) else []
/-- The same, the next segment being less than j. -/
def placeTo (c : Cl) (n k : Nat) (L : List Int) (O : List Nat) (j : Nat) : List (List Nat) := (List.range j).flatMap fun s => if (L[s]?.getD 0 == -1 && fitsB c L s) = true then placeAll c n k (L.set s O.length) (O ++ [s]) else []
theorem placeTo_zero (c : Cl) (n k : Nat) (L : List Int) (O : List Nat) : placeTo c n k L O 0 = [] := rfl
theorem placeTo_all (c : Cl) (n k : Nat) (L : List Int) (O : List Nat) : placeTo c n k L O n = placeAll c n (k + 1) L O := rfl
theorem placeTo_skip (c : Cl) (n k : Nat) (L : List Int) (O : List Nat) (j : Nat) (h : (L[j]?.getD 0 == -1 && fitsB c L j) = false) : placeTo c n k L O (j + 1) = placeTo c n k L O j := by
  unfold placeTo
  rw [List.range_succ, List.flatMap_append, List.flatMap_cons, List.flatMap_nil, h, if_neg Bool.false_ne_true]; simp
theorem placeTo_take (c : Cl) (n k : Nat) (L : List Int) (O : List Nat) (j : Nat) (h : (L[j]?.getD 0 == -1 && fitsB c L j) = true) : placeTo c n k L O (j + 1) = placeTo c n k L O j ++ placeAll c n k (L.set j O.length) (O ++ [j]) := by
  unfold placeTo
  rw [List.range_succ, List.flatMap_append, List.flatMap_cons, List.flatMap_nil, h, if_pos rfl]; simp
theorem prefix_flatMap {α β : Type} (f : α → List β) : ∀ (l m : List α), l <+: m → l.flatMap f <+: m.flatMap f
  | l, _, ⟨t, rfl⟩ => by rw [List.flatMap_append]; exact ⟨_, rfl⟩
theorem range_prefix (a b : Nat) (h : a ≤ b) : List.range a <+: List.range b := by
  obtain ⟨d, rfl⟩ : ∃ d, b = a + d := ⟨b - a, by omega⟩
  rw [List.range_add]
  exact ⟨_, rfl⟩
theorem placeTo_prefix (c : Cl) (n k : Nat) (L : List Int) (O : List Nat) (j : Nat) (h : j ≤ n) : placeTo c n k L O j <+: placeAll c n (k + 1) L O := prefix_flatMap _ _ _ (range_prefix j n h)

@[simp] theorem layCl_low (zs : List Int) : (layCl zs).low.length = zs.length := by simp [layCl]
@[simp] theorem layCl_high (zs : List Int) : (layCl zs).high.length = zs.length := by simp [layCl]
@[simp] theorem layCl_crs (zs : List Int) : (layCl zs).crs.length = zs.length - 1 := by simp [layCl]
theorem layCl_in (zs : List Int) : ∀ f ∈ (layCl zs).crs, f.first < zs.length ∧ f.second < zs.length := by
  intro f hf
  simp only [layCl, crsTo, List.mem_map, List.mem_range] at hf
  obtain ⟨i, hi, rfl⟩ := hf
  simp; omega
theorem strip_parts {zs : List Int} (h : stripB zs = true) : 1 ≤ zs.length ∧ zs.length ≤ 9 ∧ sizesB zs = true := by
  simp [stripB] at h
  exact ⟨h.1.1, h.1.2, h.2⟩

/-- The layers of the first k segments of an order. -/
def layersTo (O : List Nat) (n : Nat) : Nat → List Int
  | 0 => List.replicate n (-1)
  | k + 1 => (layersTo O n k).set (O[k]?.getD 0) k
@[simp] theorem layersTo_length (O : List Nat) (n : Nat) : ∀ k, (layersTo O n k).length = n
  | 0 => by simp [layersTo]
  | k + 1 => by simp [layersTo, layersTo_length O n k]
def layersOf (O : List Nat) (n : Nat) : List Int := layersTo O n O.length
/-- The letter of a crease: V or M. -/
def letterZ (L : List Int) (f : Cr) : Int := if ((f.first % 2 == 0) == decide (L[f.first]?.getD 0 < L[f.second]?.getD 0)) = true then 86 else 77
def lettersZ (crs : List Cr) (L : List Int) : List Int := crs.map (letterZ L)
def strOf (ns : List Int) : ByteArray := ns.foldl (fun r n => r.push (UInt8.ofNat n.toNat)) ByteArray.empty

def letB (c : UInt8) : Bool := c == 77 || c == 86
def patB (s : ByteArray) (n : Nat) : Bool := s.size == n && s.data.toList.all letB

end Go.Proofs.Yteckeobhlfddlaa
