/-
  FoldTurned: the creases of the reversed order; the walk of the law.
-/
import Derived.Test.YteckeobhlfddlaaFp
import Derived.Test.YteckeobhlfddlaaGb
import Derived.Test.YteckeobhlfddlaaGd
namespace Go.Proofs.Yteckeobhlfddlaa
open Go.RowKit Go.Sort Go.Shelf

theorem strOf_list (ns : List Int) : (strOf ns).data.toList = ns.map fun n => UInt8.ofNat n.toNat := by
  have key : ∀ (l : List Int) (b : ByteArray), (l.foldl (fun r n => r.push (UInt8.ofNat n.toNat)) b).data.toList = b.data.toList ++ l.map fun n => UInt8.ofNat n.toNat := by
    intro l
    induction l with
    | nil => intro b; simp
    | cons a l ih => intro b; rw [List.foldl_cons, ih]; simp [ByteArray.push]
  have := key ns ByteArray.empty
  rw [strOf, this]; rfl
theorem layersOf_at {n : Nat} {P : List Nat} (hn : P.Nodup) (hv : ∀ x ∈ P, x < n) (hl : P.length = n) {s : Nat} (hs : s < n) : (layersOf P n)[s]?.getD 0 = (layerN P s : Int) := by
  rw [layersOf, hl, layersTo_layer hn hv hl hs n (Nat.le_refl _), if_pos (layerN_lt hn hv hl hs)]
theorem letter_flip {n : Nat} {P : List Nat} (hn : P.Nodup) (hv : ∀ x ∈ P, x < n) (hl : P.length = n) {f : Cr} (h1 : f.first < n) (h2 : f.second < n) (h3 : f.first ≠ f.second) :
    letterZ (layersOf P.reverse n) f = if letterZ (layersOf P n) f = 86 then 77 else 86 := by
  have hn' := nodup_rev hn
  have hv' : ∀ x ∈ P.reverse, x < n := fun x hx => hv x (List.mem_reverse.1 hx)
  have hl' : P.reverse.length = n := by simpa using hl
  have hne : layerN P f.first ≠ layerN P f.second := fun e => h3 (layerN_inj hn hv hl h1 h2 e)
  have a := layerN_lt hn hv hl h1
  have b := layerN_lt hn hv hl h2
  have e : decide (((n - 1 - layerN P f.first : Nat) : Int) < ((n - 1 - layerN P f.second : Nat) : Int)) = !decide ((layerN P f.first : Int) < (layerN P f.second : Int)) := by
    rw [Bool.eq_iff_iff, Bool.not_eq_true', decide_eq_true_eq, decide_eq_false_iff_not]
    omega
  rw [letterZ, letterZ, layersOf_at hn' hv' hl' h1, layersOf_at hn' hv' hl' h2, layersOf_at hn hv hl h1, layersOf_at hn hv hl h2, layerN_reverse hn hv hl h1, layerN_reverse hn hv hl h2, e]
  cases decide ((layerN P f.first : Int) < (layerN P f.second : Int)) <;> cases (f.first % 2 == 0) <;> rfl
theorem crs_reverse {zs : List Int} {P : List Nat} (hn : P.Nodup) (hv : ∀ x ∈ P, x < zs.length) (hl : P.length = zs.length) : crsOf zs P.reverse = exchS (crsOf zs P) := by
  refine bytes_eq ?_
  rw [crsOf, crsOf, exchZ, strOf_list, strOf_list, lettersZ, lettersZ, List.map_map, List.map_map, List.map_map]
  refine List.map_congr_left fun f hf => ?_
  obtain ⟨a, b, c⟩ := (strip_fair zs).ends f hf
  simp only [Function.comp]
  rw [letter_flip hn hv hl a b c]
  unfold letterZ
  split <;> rfl

/-- 'At' within the count. -/
def AtIn (zs : List Int) (w : World) (e : Ending) (w' : World) : Prop := ∃ O g cap, O ∈ ordersOf (layCl zs) zs.length ∧ e = .returned (.tuple #[.slice (some ⟨g, 0, none⟩) zs.length cap, .int .i64 0]) ∧ Ints w' (some ⟨g, 0, none⟩) (O.map fun (x : Nat) => (x : Int)) ∧ Below w.heap.size w w'
theorem At_in (a : Option Addr) (n cap m : Nat) (zs : List Int) (r : Int) (w : World) (hn : zs.length = n) (hz : Ints w a zs) (hs : stripB zs = true) (h0 : 0 ≤ r) (h1 : r < countOf zs) :
    CallsIn Fence.wide m Try.prog 10 #[.slice a n cap, .int .i64 r] w (AtIn zs w) := by
  refine (At_good a n cap m zs r w hn hz hs).mono ?_
  rintro e w' ⟨v, err, rfl, hb, hm⟩
  have hr : r.toNat < (ordersOf (layCl zs) zs.length).length := by unfold countOf at h1; omega
  rw [atZ, if_pos h0, List.getElem?_eq_getElem hr] at hm
  obtain ⟨rfl, g, cp, rfl, _, hr2⟩ := hm
  exact ⟨_, g, cp, List.getElem_mem hr, rfl, Ints.of_nats hr2, hb⟩

theorem crsOf_size {zs : List Int} (h9 : zs.length ≤ 9) (O : List Nat) : (crsOf zs O).size ≤ 1000 := by
  have : (crsOf zs O).data.toList.length ≤ 9 := by
    rw [crsOf, strOf_list, List.length_map, lettersZ, List.length_map, layCl_crs]; omega
  rw [Array.length_toList] at this
  exact Nat.le_trans this (by omega)

theorem scaled_good {zs : List Int} {t : Int} (h : stripB zs = true) (h6 : ∀ z ∈ zs, 1 ≤ z ∧ z ≤ 6) (h1 : 1 ≤ t) (h2 : t ≤ 100) : stripB (zs.map (· * t)) = true := by
  obtain ⟨p1, p9, _⟩ := strip_parts h
  rw [stripB, sizesB, List.length_map]
  simp only [Bool.and_eq_true, decide_eq_true_eq, List.all_eq_true, List.mem_map, forall_exists_index, and_imp, forall_apply_eq_imp_iff₂]
  refine ⟨⟨p1, p9⟩, fun z hz => ?_⟩
  obtain ⟨a, b⟩ := h6 z hz
  have e1 : 1 * 1 ≤ z * t := Int.mul_le_mul a h1 (by omega) (by omega)
  have e2 : z * t ≤ 6 * 100 := Int.mul_le_mul b h2 (by omega) (by omega)
  simp [sizeB]; omega
theorem stripOf_in (zs : List Int) (most : Nat) (size : Int) (hs : 1 ≤ size) : ∀ z ∈ stripOf zs most size, 1 ≤ z ∧ z ≤ size := by
  unfold stripOf
  split
  · intro z hz; simp at hz; omega
  · intro z hz
    obtain ⟨y, _, rfl⟩ := List.mem_map.1 hz
    exact f1Z_bd y size hs

attribute [local go_sem] Oper.semAt_some
end Go.Proofs.Yteckeobhlfddlaa
