/-
  Rows of numbers, sizes, strips, cloths, what fits: the walks.
-/
import Derived.Test.YteckeobhlfddlaaRows
import Derived.Test.YteckeobhlfddlaaFa
import Derived.WalkKit
import Derived.WalkSpells
import Derived.WalkLawsBesides
import Derived.BigQuiet
import Derived.Deep.QuietTactic
import Derived.Lib.Hide
import Derived.Maps.AppendAt
import Derived.Deep.LoopGhost
import Derived.Lib.QuietBelow
import Derived.BigGuardPart
namespace Go.Proofs.Yteckeobhlfddlaa

section
open Go.RowKit

/-- What a slice of integers holds. -/
def Ints (w : World) (a : Option Addr) (zs : List Int) : Prop := ∀ i, i < zs.length → ∃ b off, a = some ⟨b, off, none⟩ ∧ w.cell? ⟨b, off + i, none⟩ = some (.int .i64 (zs[i]?.getD 0))

theorem Ints.at {w : World} {a : Option Addr} {zs : List Int} (h : Ints w a zs) : (zs = [] ∨ ∃ b off, a = some ⟨b, off, none⟩ ∧ ∀ i, i < zs.length → w.cell? ⟨b, off + i, none⟩ = some (.int .i64 (zs[i]?.getD 0))) := by
  cases zs with
  | nil => exact .inl rfl
  | cons z zs =>
    obtain ⟨b, off, rfl, _⟩ := h 0 (by simp)
    refine .inr ⟨b, off, rfl, fun i hi => ?_⟩
    obtain ⟨b', off', e, hc⟩ := h i hi
    cases e; exact hc

theorem ret_bool {a b : Bool} (h : a = b) : Ending.returned (.bool a) = .returned (.bool b) := by rw [h]

theorem Ints.nonneg_len {w : World} {a : Option Addr} {zs : List Int} (_h : Ints w a zs) : 0 ≤ zs.length := Nat.zero_le _

set_option maxHeartbeats 400000 in
theorem areSizes_any (a : Option Addr) (n cap : Nat) (zs : List Int) (w : World) (hn : zs.length = n) (hm : n ≤ 9223372036854775807) (hz : Ints w a zs) :
    Calls Try.prog 37 #[.slice a n cap] w fun e w' => e = .returned (.bool (sizesB zs)) ∧ w = w' := by
  subst hn
  have hx := Lib.hid hz.at
  clear hz
  go_enter Try.func37, Try.ntmps37
  go_wp2
  go_loop [7] (fun i => ∃ k : Nat, k ≤ zs.length ∧ i = .int .i64 k ∧ (zs.take k).all sizeB = true) (fun i => zs.length - (intOf i).toNat)
  case atStart => exact ⟨0, Nat.zero_le _, rfl, by simp⟩
  case round =>
    obtain ⟨k, hk, rfl, hall⟩ := hrel
    have Hall := Lib.hid hall
    clear hall
    by_cases hlt : k < zs.length
    · rcases hx.out with h | ⟨b, off, rfl, hc⟩
      · subst h; simp at hlt
      have hck := hc k hlt
      clear hc
      go_wp2
      case roundEnd =>
        go_round
        case rel => exact ⟨k + 1, by omega, by go_num, all_next _ _ k hlt Hall.out (by simp [sizeB]; omega)⟩
        case measure => simp [intOf]; omega
      all_goals
        go_ret
        exact ⟨ret_bool (Eq.symm (all_false_at _ _ k hlt (by simp [sizeB]; omega))), rfl⟩
    · go_wp2
      go_ret
      exact ⟨ret_bool (by have : k = zs.length := by omega
                          subst this; simpa [sizesB] using Hall.out.symm), rfl⟩

theorem isStrip_any (a : Option Addr) (n cap : Nat) (zs : List Int) (w : World) (hn : zs.length = n) (hm : n ≤ 9223372036854775807) (hz : Ints w a zs) :
    Calls Try.prog 21 #[.slice a n cap] w fun e w' => e = .returned (.bool (stripB zs)) ∧ w = w' := by
  have hs := areSizes_any a n cap zs w hn hm hz
  have Hs := Lib.hid hs
  clear hs hz
  rcases (by omega : n < 1 ∨ (1 ≤ n ∧ n ≤ 9) ∨ (1 ≤ n ∧ 9 < n)) with h | ⟨h, h'⟩ | ⟨h, h'⟩
  all_goals
    have Hn := Lib.hid hn; clear hn
    go_enter Try.func21, Try.ntmps21
    go_wp2_with (go_at_call 37; refine Hs.out.mono ?_; rintro e w' ⟨rfl, rfl⟩)
    go_ret
    exact ⟨ret_bool (by rw [stripB, Hn.out]; simp; omega), rfl⟩

theorem Try.info3 : (Try.prog.info? 3).map (fun i => (i.zero, i.size, i.bytes)) = some (some (.int .i64 0), 1, 8) := by kernel_rfl
theorem Try.infoCr : (Try.prog.info? 87).map (fun i => (i.zero, i.size, i.bytes)) = some (some (.agg #[.int .i64 0, .int .i64 0, .int .i64 0]), 3, 24) := by kernel_rfl

/-- The cells of a list of creases. -/
def crCells (l : List Cr) : List Value := l.flatMap fun f => [.int .i64 f.first, .int .i64 f.second, .int .i64 f.pos]
theorem crCells_append (l m : List Cr) : crCells (l ++ m) = crCells l ++ crCells m := by simp [crCells]
@[simp] theorem crCells_length (l : List Cr) : (crCells l).length = l.length * 3 := by
  induction l with
  | nil => rfl
  | cons f l ih => simp [crCells] at ih ⊢; omega

/-- A block of three cells. -/
def Trip (w : World) (b : Nat) (t : TypeId) (v0 v1 v2 : Value) : Prop := w.heap[b]? = some (.cells #[v0, v1, v2] t (0, 0))
theorem Trip.c0 {w : World} {b : Nat} {t : TypeId} {v0 v1 v2 : Value} (h : Trip w b t v0 v1 v2) : w.cell? ⟨b, 0, none⟩ = some v0 := by simp [World.cell?, show w.heap[b]? = _ from h]
theorem Trip.c1 {w : World} {b : Nat} {t : TypeId} {v0 v1 v2 : Value} (h : Trip w b t v0 v1 v2) : w.cell? ⟨b, 1, none⟩ = some v1 := by simp [World.cell?, show w.heap[b]? = _ from h]
theorem Trip.c2 {w : World} {b : Nat} {t : TypeId} {v0 v1 v2 : Value} (h : Trip w b t v0 v1 v2) : w.cell? ⟨b, 2, none⟩ = some v2 := by simp [World.cell?, show w.heap[b]? = _ from h]
theorem Trip.fr {w : World} {b : Nat} {t : TypeId} {v0 v1 v2 : Value} (h : Trip w b t v0 v1 v2) (o : Nat) : w.frozen? ⟨b, o, none⟩ = false := by simp [World.frozen?, show w.heap[b]? = _ from h]
theorem Trip.lt {w : World} {b : Nat} {t : TypeId} {v0 v1 v2 : Value} (h : Trip w b t v0 v1 v2) : b < w.heap.size := lt_of_block h
theorem Trip.grown {w w' : World} {b : Nat} {t : TypeId} {v0 v1 v2 : Value} {row : Option Nat} (h : Trip w b t v0 v1 v2) (hg : w.grownBy w' row) (hne : some b ≠ row) : Trip w' b t v0 v1 v2 := (hg.block b h.lt hne).trans h
theorem heap_setCell_self {w : World} {b i : Nat} {cs : Array Value} {t : TypeId} {fz : Nat × Nat} (h : w.heap[b]? = some (.cells cs t fz)) (v : Value) : (w.setCell ⟨b, i, none⟩ v).heap[b]? = some (.cells (cs.setIfInBounds i v) t fz) := by
  obtain ⟨hlt, he⟩ := Array.getElem?_eq_some_iff.1 h
  show (w.heap.modify b _)[b]? = _
  rw [Array.getElem?_eq_getElem (by rw [Array.size_modify]; exact hlt), Array.getElem_modify_self, he]
  rfl
theorem Trip.set0 {w : World} {b : Nat} {t : TypeId} {v0 v1 v2 : Value} (h : Trip w b t v0 v1 v2) (v : Value) : Trip (w.setCell ⟨b, 0, none⟩ v) b t v v1 v2 := heap_setCell_self h v
theorem Trip.set1 {w : World} {b : Nat} {t : TypeId} {v0 v1 v2 : Value} (h : Trip w b t v0 v1 v2) (v : Value) : Trip (w.setCell ⟨b, 1, none⟩ v) b t v0 v v2 := heap_setCell_self h v
theorem Trip.set2 {w : World} {b : Nat} {t : TypeId} {v0 v1 v2 : Value} (h : Trip w b t v0 v1 v2) (v : Value) : Trip (w.setCell ⟨b, 2, none⟩ v) b t v0 v1 v := heap_setCell_self h v
theorem Trip.setOther {w : World} {b : Nat} {t : TypeId} {v0 v1 v2 : Value} (h : Trip w b t v0 v1 v2) {a : Addr} (ha : b ≠ a.block) (v : Value) : Trip (w.setCell a v) b t v0 v1 v2 := (Below.heap_setCell w a v b ha).trans h


theorem ownsRow_succ' {W : World} {base : Nat} {e : TypeId} {size : Nat} {v : Value} {k : Nat} {xs : List Value} (h : W.ownsRow base e size v (k + 1) xs) : ∃ g cap, v = .slice (some ⟨g, 0, none⟩) (k + 1) cap := by
  rcases h.2 with ⟨_, h0⟩ | ⟨g, cap, _, rfl, _⟩
  · omega
  · exact ⟨g, cap, rfl⟩
theorem grown_alloc {w w1 : World} {o : Obj} {row : Option Nat} (h : (w.alloc o).grownBy w1 row) : w.grownBy w1 row :=
  ⟨h.os, h.tape, h.output, by have := h.size; simp at this; omega, fun k hk hne => (h.block k (by simp; omega) hne).trans (Below.heap_alloc w o k hk)⟩
theorem cells_new (W : World) (xs : List Value) (t : TypeId) (b : Nat) (hb : b = W.heap.size) : ∀ j u, xs[j]? = some u → (W.alloc (.cells xs.toArray t)).cell? ((⟨b, 0, none⟩ : Addr).add j) = some u := by
  subst hb
  intro j u hj
  have hadd : (⟨W.heap.size, 0, none⟩ : Addr).add j = ⟨W.heap.size, j, none⟩ := by unfold Addr.add; split <;> simp_all
  rw [hadd, World.cell?_alloc_at _ _ _ _ rfl]
  simpa using hj

/-- 'out = append(out, x)' of one integer: what the walk wants of it. -/
theorem wpList_app_int {W : World} {ops : Array Oper} {rest : List Oper} {o : Oper} {a : Act} {Q : Exit → Act → World → Prop} (hgd : o.guard = none) (s x : Operand)
    (ho : o.op = .call { callee := .builtin .append, args := #[s, x], argTypes := #[22, 22] }) (base : Nat) (v : Value) (n : Nat) (xs : List Value) (hs : a.eval s = v) (z : Int) (b : Nat)
    (hx : a.eval x = .slice (some ⟨b, 0, none⟩) 1 1) (hb : b = W.heap.size) (hown : W.ownsRow base 3 1 v n xs) (hn : n ≤ 1000000) (hbase : base ≤ W.heap.size)
    (h : ∀ (g cap : Nat) (w' : World), w'.ownsRow base 3 1 (.slice (some ⟨g, 0, none⟩) (n + 1) cap) (n + 1) (xs ++ [.int .i64 z]) → W.grownBy w' v.ownBlock → (some g = v.ownBlock ∨ W.heap.size ≤ g) → W.heap.size < w'.heap.size → wpList Try.prog ops Q rest (a.put o.dst (.slice (some ⟨g, 0, none⟩) (n + 1) cap)) w') :
    wpList Try.prog ops Q (o :: rest) a (W.alloc (.cells #[.int .i64 z] 3)) := by
  obtain ⟨i0, hi, hz0, hz1, hz2⟩ := info_parts Try.info3
  refine wpList_append_own_at _ hgd s x 22 ho base 3 i0 (.int .i64 0) 1 8 Try.underlying22 hi hz0 hz1 hz2 rfl (by decide) v n xs hs (hown.alloc _) ⟨b, 0, none⟩ 1 1 [.int .i64 z] hx rfl (cells_new W [.int .i64 z] _ b hb) (by simp [Value.oneCell']) (by unfold maxLen; omega) (by omega) (by simp; omega) ?_
  intro v' w' hown' hg _ hat
  obtain ⟨g, cap, rfl⟩ := ownsRow_succ' hown'
  have hsz := hg.size
  simp at hsz
  refine h g cap w' hown' (grown_alloc hg) ?_ (by omega)
  rcases hat with e | e
  · exact .inl (by simpa [Value.ownBlock] using e)
  · refine .inr ?_
    simp [Value.ownBlock] at e
    omega

/-- 'out = append(out, x)' of one crease. -/
theorem wpList_app_crease {W : World} {ops : Array Oper} {rest : List Oper} {o : Oper} {a : Act} {Q : Exit → Act → World → Prop} (hgd : o.guard = none) (s x : Operand)
    (ho : o.op = .call { callee := .builtin .append, args := #[s, x], argTypes := #[61, 61] }) (base : Nat) (v : Value) (n : Nat) (xs : List Value) (hs : a.eval s = v) (z0 z1 z2 : Int) (b : Nat)
    (hx : a.eval x = .slice (some ⟨b, 0, none⟩) 1 1) (hb : b = W.heap.size) (hown : W.ownsRow base 87 3 v n xs) (hn : n ≤ 1000000) (hbase : base ≤ W.heap.size)
    (h : ∀ (g cap : Nat) (w' : World), w'.ownsRow base 87 3 (.slice (some ⟨g, 0, none⟩) (n + 1) cap) (n + 1) (xs ++ [.int .i64 z0, .int .i64 z1, .int .i64 z2]) → W.grownBy w' v.ownBlock → (some g = v.ownBlock ∨ W.heap.size ≤ g) → W.heap.size < w'.heap.size → wpList Try.prog ops Q rest (a.put o.dst (.slice (some ⟨g, 0, none⟩) (n + 1) cap)) w') :
    wpList Try.prog ops Q (o :: rest) a (W.alloc (.cells #[.int .i64 z0, .int .i64 z1, .int .i64 z2] 87)) := by
  obtain ⟨i0, hi, hz0, hz1, hz2⟩ := info_parts Try.infoCr
  refine wpList_append_own_at _ hgd s x 61 ho base 87 i0 (.agg #[.int .i64 0, .int .i64 0, .int .i64 0]) 3 24 Try.underlying61 hi hz0 hz1 hz2 rfl (by decide) v n xs hs (hown.alloc _) ⟨b, 0, none⟩ 1 1 [.int .i64 z0, .int .i64 z1, .int .i64 z2] hx rfl (cells_new W [.int .i64 z0, .int .i64 z1, .int .i64 z2] _ b hb) (by simp [Value.oneCell']) (by unfold maxLen; omega) (by omega) (by simp; omega) ?_
  intro v' w' hown' hg _ hat
  obtain ⟨g, cap, rfl⟩ := ownsRow_succ' hown'
  have hsz := hg.size
  simp at hsz
  refine h g cap w' hown' (grown_alloc hg) ?_ (by omega)
  rcases hat with e | e
  · exact .inl (by simpa [Value.ownBlock] using e)
  · refine .inr ?_
    simp [Value.ownBlock] at e
    omega

theorem ownsRow_weaken {w : World} {base base' : Nat} {e : TypeId} {size : Nat} {v : Value} {n : Nat} {xs : List Value} (h : w.ownsRow base e size v n xs) (hb : base' ≤ base) : w.ownsRow base' e size v n xs :=
  ⟨h.1, h.2.imp id fun ⟨g, cap, cur, e', hg, r⟩ => ⟨g, cap, cur, e', Nat.le_trans hb hg, r⟩⟩

theorem ownsRow_slice {w : World} {base : Nat} {e : TypeId} {size : Nat} {v : Value} {n : Nat} {xs : List Value} (h : w.ownsRow base e size v n xs) : ∃ a cap, v = .slice a n cap := by
  rcases h.2 with ⟨rfl, rfl⟩ | ⟨g, cap, cur, rfl, _⟩
  · exact ⟨none, 0, rfl⟩
  · exact ⟨_, _, rfl⟩

/-- A value that is a cloth. -/
def ClothV (w : World) (base : Nat) (c : Cl) (v : Value) : Prop := ∃ vl vh vc : Value, v = .agg #[vl, vh, vc] ∧ w.ownsRow base 3 1 vl c.low.length (c.low.map (Value.int .i64)) ∧
  w.ownsRow base 3 1 vh c.high.length (c.high.map (Value.int .i64)) ∧ w.ownsRow base 87 3 vc c.crs.length (crCells c.crs)

theorem crCells_at : ∀ (l : List Cr) (j : Nat) (h : j < l.length), (crCells l)[j * 3]? = some (.int .i64 l[j].first) ∧ (crCells l)[j * 3 + 1]? = some (.int .i64 l[j].second) ∧ (crCells l)[j * 3 + 2]? = some (.int .i64 l[j].pos)
  | f :: l, 0, _ => by simp [crCells]
  | f :: l, j + 1, h => by
    have := crCells_at l j (by simpa using h)
    have e : ∀ i, (crCells (f :: l))[(j + 1) * 3 + i]? = (crCells l)[j * 3 + i]? := fun i => by
      show (([.int .i64 (f.first : Int), .int .i64 (f.second : Int), .int .i64 f.pos] : List Value) ++ crCells l)[(j + 1) * 3 + i]? = _
      rw [List.getElem?_append_right (by simp; omega)]
      simp; congr 1; omega
    have e0 := e 0
    simp only [Nat.add_zero] at e0
    rw [e0, e 1, e 2]
    simpa using this

/-- The creases' slice, read. -/
theorem creases_cells {w : World} {base : Nat} {a : Option Addr} {cap : Nat} {l : List Cr} (h : w.ownsRow base 87 3 (.slice a l.length cap) l.length (crCells l)) :
    l = [] ∨ ∃ b, a = some ⟨b, 0, none⟩ ∧ b < w.heap.size ∧ ∀ j (hj : j < l.length), w.cell? ⟨b, j * 3, none⟩ = some (.int .i64 l[j].first) ∧ w.cell? ⟨b, j * 3 + 1, none⟩ = some (.int .i64 l[j].second) ∧ w.cell? ⟨b, j * 3 + 2, none⟩ = some (.int .i64 l[j].pos) := by
  rcases h.2 with ⟨_, h0⟩ | ⟨g, cap', cur, e, _⟩
  · exact .inl (List.eq_nil_of_length_eq_zero h0)
  · cases e
    refine .inr ⟨g, rfl, (h.lt g rfl).2, fun j hj => ?_⟩
    have k := crCells_at l j hj
    exact ⟨(h.cellAt _ (by omega)).trans k.1, (h.cellAt _ (by omega)).trans k.2.1, (h.cellAt _ (by omega)).trans k.2.2⟩
/-- A slice of integers, read. -/
theorem ints_cells {w : World} {base : Nat} {a : Option Addr} {cap n : Nat} {l : List Int} (h : w.ownsRow base 3 1 (.slice a n cap) n (l.map (Value.int .i64))) :
    l = [] ∨ ∃ b, a = some ⟨b, 0, none⟩ ∧ b < w.heap.size ∧ ∀ j, j < l.length → w.cell? ⟨b, j, none⟩ = some (.int .i64 (l[j]?.getD 0)) := by
  have hn : l.length = n := by simpa using h.1
  rcases h.2 with ⟨_, h0⟩ | ⟨g, cap', cur, e, _⟩
  · exact .inl (List.eq_nil_of_length_eq_zero (by omega))
  · cases e
    refine .inr ⟨g, rfl, (h.lt g rfl).2, fun j hj => ?_⟩
    rw [h.cellAt j (by omega)]
    simp [hj]

theorem ownsRow_below {w w' : World} {base B : Nat} {e : TypeId} {size : Nat} {v : Value} {n : Nat} {xs : List Value} (h : w.ownsRow base e size v n xs) (hb : Below B w w') (hB : ∀ k, v.ownBlock = some k → k < B) : w'.ownsRow base e size v n xs := by
  refine ⟨h.1, h.2.imp id ?_⟩
  rintro ⟨g, cap, cur, rfl, h1, h2, h3⟩
  exact ⟨g, cap, cur, rfl, h1, (hb.block g (hB g rfl)).trans h2, h3⟩
theorem ownsRow_kept {w w' : World} {base : Nat} {e : TypeId} {size : Nat} {v : Value} {n : Nat} {xs : List Value} (h : w.ownsRow base e size v n xs) (hb : Below w.heap.size w w') : w'.ownsRow base e size v n xs :=
  ownsRow_below h hb fun k hk => (h.lt k hk).2
end

section
open Go.RowKit

/-- What the loop of 'lay' keeps. -/
structure LayW (w wr : World) (vl vh vc : Value) (nl nh nc : Nat) (xl xh xc : List Value) : Prop where
  T : Trip wr (w.heap.size + 1) 63 vl vh vc
  R : Trip wr w.heap.size 63 (.slice none 0 0) (.slice none 0 0) (.slice none 0 0)
  l : wr.ownsRow (w.heap.size + 2) 3 1 vl nl xl
  h : wr.ownsRow (w.heap.size + 2) 3 1 vh nh xh
  c : wr.ownsRow (w.heap.size + 2) 87 3 vc nc xc
  d1 : vl.ownBlock = none ∨ vl.ownBlock ≠ vh.ownBlock
  d2 : vl.ownBlock = none ∨ vl.ownBlock ≠ vc.ownBlock
  d3 : vh.ownBlock = none ∨ vh.ownBlock ≠ vc.ownBlock
  below : Below w.heap.size w wr

theorem apart_symm {x y : Option Nat} (h : x = none ∨ x ≠ y) : y = none ∨ y ≠ x := by
  cases y with
  | none => exact .inl rfl
  | some b => exact .inr fun e => h.elim (fun h => by rw [h] at e; cases e) (fun h => h e.symm)
theorem apart_new {w : World} {base : Nat} {e : TypeId} {size : Nat} {u v : Value} {n : Nat} {xs : List Value} {g m cap : Nat} (hu : w.ownsRow base e size u n xs) (h : v.ownBlock = none ∨ v.ownBlock ≠ u.ownBlock)
    (hat : some g = v.ownBlock ∨ w.heap.size ≤ g) : (Value.slice (some ⟨g, 0, none⟩) m cap).ownBlock = none ∨ (Value.slice (some ⟨g, 0, none⟩) m cap).ownBlock ≠ u.ownBlock := by
  refine .inr fun e2 => ?_
  have e2 : some g = u.ownBlock := e2
  rcases hat with e' | e'
  · rcases h with h | h
    · rw [h] at e'; cases e'
    · exact h (e'.symm.trans e2)
  · have := (hu.lt g e2.symm).2
    omega
theorem not_own {w : World} {base b : Nat} {e : TypeId} {size : Nat} {v : Value} {n : Nat} {xs : List Value} (h : w.ownsRow base e size v n xs) (hb : b < base) : some b ≠ v.ownBlock := fun e' => by
  have := (h.lt b e'.symm).1; omega

theorem LayW.base {w wr : World} {vl vh vc : Value} {nl nh nc : Nat} {xl xh xc : List Value} (S : LayW w wr vl vh vc nl nh nc xl xh xc) : w.heap.size + 2 ≤ wr.heap.size := by
  have := S.T.lt; omega

theorem LayW.low {w wr w1 : World} {vl vh vc : Value} {nl nh nc m : Nat} {xl xh xc ys : List Value} {g cap : Nat} (S : LayW w wr vl vh vc nl nh nc xl xh xc) (hown : w1.ownsRow (w.heap.size + 2) 3 1 (.slice (some ⟨g, 0, none⟩) m cap) m ys)
    (hg' : wr.grownBy w1 vl.ownBlock) (hat : some g = vl.ownBlock ∨ wr.heap.size ≤ g) :
    Trip w1 (w.heap.size + 1) 63 vl vh vc ∧ LayW w (w1.setCell ⟨w.heap.size + 1, 0, none⟩ (.slice (some ⟨g, 0, none⟩) m cap)) (.slice (some ⟨g, 0, none⟩) m cap) vh vc m nh nc ys xh xc := by
  have T1 := S.T.grown hg' (not_own S.l (by omega))
  have hb := S.base
  refine ⟨T1, T1.set0 (.slice (some ⟨g, 0, none⟩) m cap), (S.R.grown hg' (not_own S.l (by omega))).setOther (by simp) _, ownsRow_setCell_below hown (by simp) _, ownsRow_setCell_below (S.h.kept hg' (apart_symm S.d1)) (by simp) _, ownsRow_setCell_below (S.c.kept hg' (apart_symm S.d2)) (by simp) _,
    apart_new S.h S.d1 hat, apart_new S.c S.d2 hat, S.d3, (S.below.grown hg' (by omega) fun k e => by have := (S.l.lt k e).1; omega).setCell (by simp) _⟩
theorem LayW.high {w wr w1 : World} {vl vh vc : Value} {nl nh nc m : Nat} {xl xh xc ys : List Value} {g cap : Nat} (S : LayW w wr vl vh vc nl nh nc xl xh xc) (hown : w1.ownsRow (w.heap.size + 2) 3 1 (.slice (some ⟨g, 0, none⟩) m cap) m ys)
    (hg' : wr.grownBy w1 vh.ownBlock) (hat : some g = vh.ownBlock ∨ wr.heap.size ≤ g) :
    Trip w1 (w.heap.size + 1) 63 vl vh vc ∧ LayW w (w1.setCell ⟨w.heap.size + 1, 1, none⟩ (.slice (some ⟨g, 0, none⟩) m cap)) vl (.slice (some ⟨g, 0, none⟩) m cap) vc nl m nc xl ys xc := by
  have T1 := S.T.grown hg' (not_own S.h (by omega))
  have hb := S.base
  refine ⟨T1, T1.set1 (.slice (some ⟨g, 0, none⟩) m cap), (S.R.grown hg' (not_own S.h (by omega))).setOther (by simp) _, ownsRow_setCell_below (S.l.kept hg' S.d1) (by simp) _, ownsRow_setCell_below hown (by simp) _, ownsRow_setCell_below (S.c.kept hg' (apart_symm S.d3)) (by simp) _,
    apart_symm (apart_new S.l (apart_symm S.d1) hat), S.d2, apart_new S.c S.d3 hat, (S.below.grown hg' (by omega) fun k e => by have := (S.h.lt k e).1; omega).setCell (by simp) _⟩
theorem LayW.cr {w wr w1 : World} {vl vh vc : Value} {nl nh nc m : Nat} {xl xh xc ys : List Value} {g cap : Nat} (S : LayW w wr vl vh vc nl nh nc xl xh xc) (hown : w1.ownsRow (w.heap.size + 2) 87 3 (.slice (some ⟨g, 0, none⟩) m cap) m ys)
    (hg' : wr.grownBy w1 vc.ownBlock) (hat : some g = vc.ownBlock ∨ wr.heap.size ≤ g) :
    Trip w1 (w.heap.size + 1) 63 vl vh vc ∧ LayW w (w1.setCell ⟨w.heap.size + 1, 2, none⟩ (.slice (some ⟨g, 0, none⟩) m cap)) vl vh (.slice (some ⟨g, 0, none⟩) m cap) nl nh m xl xh ys := by
  have T1 := S.T.grown hg' (not_own S.c (by omega))
  have hb := S.base
  refine ⟨T1, T1.set2 (.slice (some ⟨g, 0, none⟩) m cap), (S.R.grown hg' (not_own S.c (by omega))).setOther (by simp) _, ownsRow_setCell_below (S.l.kept hg' S.d2) (by simp) _, ownsRow_setCell_below (S.h.kept hg' S.d3) (by simp) _, ownsRow_setCell_below hown (by simp) _,
    S.d1, apart_symm (apart_new S.l (apart_symm S.d2) hat), apart_symm (apart_new S.h (apart_symm S.d3) hat), (S.below.grown hg' (by omega) fun k e => by have := (S.c.lt k e).1; omega).setCell (by simp) _⟩

def LayS (w wr : World) (zs : List Int) (k : Nat) : Prop := ∃ vl vh vc, LayW w wr vl vh vc k k (k - 1) ((lowsTo zs k).map (Value.int .i64)) ((highsTo zs k).map (Value.int .i64)) (crCells (crsTo zs k))

theorem LayS.next {w wr : World} {vl vh vc : Value} {zs : List Int} {k nc : Nat} {lo hi : Int} {xc : List Value} (S : LayW w wr vl vh vc (k + 1) (k + 1) nc ((lowsTo zs k).map (Value.int .i64) ++ [.int .i64 lo]) ((highsTo zs k).map (Value.int .i64) ++ [.int .i64 hi]) xc)
    (h1 : lo = min (posAt zs k) (posAt zs (k + 1))) (h2 : hi = max (posAt zs k) (posAt zs (k + 1))) (h3 : nc = k) (h4 : xc = crCells (crsTo zs (k + 1))) : LayS w wr zs (k + 1) := by
  subst h1 h2 h3 h4
  refine ⟨vl, vh, vc, ?_⟩
  rw [lowsTo_succ, highsTo_succ]
  simpa using S
theorem posAt_even {zs : List Int} {k : Nat} (h : k < zs.length) (hp : ((k : Int) % 2 == 0) = true) : posAt zs (k + 1) = posAt zs k + zs[k] := by
  have : k % 2 = 0 := by simp at hp; omega
  simp [posAt, this, h]
theorem posAt_odd {zs : List Int} {k : Nat} (h : k < zs.length) (hp : ((k : Int) % 2 == 0) = false) : posAt zs (k + 1) = posAt zs k - zs[k] := by
  have : ¬ k % 2 = 0 := by simp at hp; omega
  simp [posAt, this, h]
theorem crs_next {zs : List Int} {k : Nat} (h : 0 < k) : crCells (crsTo zs k) ++ [.int .i64 ((k : Int) - 1), .int .i64 k, .int .i64 (posAt zs k)] = crCells (crsTo zs (k + 1)) := by
  rw [crsTo_succ zs k h, crCells_append]
  simp only [crCells, List.flatMap_cons, List.flatMap_nil, List.append_nil]
  rw [show ((k - 1 : Nat) : Int) = (k : Int) - 1 from by omega]

theorem LayS.start (w : World) (zs : List Int) : LayS w ((w.alloc (.cells #[.slice none 0 0, .slice none 0 0, .slice none 0 0] 63)).alloc (.cells #[.slice none 0 0, .slice none 0 0, .slice none 0 0] 63)) zs 0 := by
  refine ⟨.slice none 0 0, .slice none 0 0, .slice none 0 0, ?_, ?_, World.ownsRow_nil _ _ _ _, World.ownsRow_nil _ _ _ _, World.ownsRow_nil _ _ _ _, .inl rfl, .inl rfl, .inl rfl, ((Below.refl _ _).alloc (Nat.le_refl _) _).alloc (by simp) _⟩
  · have := heap_alloc_new (w.alloc (.cells #[.slice none 0 0, .slice none 0 0, .slice none 0 0] 63)) (.cells #[.slice none 0 0, .slice none 0 0, .slice none 0 0] 63)
    rw [World.size_alloc] at this
    exact this
  · exact (Below.heap_alloc _ _ _ (by simp)).trans (heap_alloc_new w _)

/-- What 'lay' hands back. -/
def LayPost (zs : List Int) (w : World) (e : Ending) (w' : World) : Prop := ∃ v, e = .returned (.tuple #[v, .int .i64 (posAt zs zs.length)]) ∧ ClothV w' w.heap.size (layCl zs) v ∧ Below w.heap.size w w'

theorem LayPost.mk {w wr : World} {vl vh vc : Value} {zs : List Int} (S : LayW w wr vl vh vc zs.length zs.length (zs.length - 1) ((lowsTo zs zs.length).map (Value.int .i64)) ((highsTo zs zs.length).map (Value.int .i64)) (crCells (crsTo zs zs.length))) :
    LayPost zs w (.returned (.tuple #[.agg #[vl, vh, vc], .int .i64 (posAt zs zs.length)])) (((wr.setCell ⟨w.heap.size, 0, none⟩ vl).setCell ⟨w.heap.size, 1, none⟩ vh).setCell ⟨w.heap.size, 2, none⟩ vc) := by
  have k : ∀ {e : TypeId} {size : Nat} {v : Value} {n : Nat} {xs : List Value}, wr.ownsRow (w.heap.size + 2) e size v n xs → (((wr.setCell ⟨w.heap.size, 0, none⟩ vl).setCell ⟨w.heap.size, 1, none⟩ vh).setCell ⟨w.heap.size, 2, none⟩ vc).ownsRow w.heap.size e size v n xs := fun h =>
    ownsRow_weaken (ownsRow_setCell_below (ownsRow_setCell_below (ownsRow_setCell_below h (by simp) _) (by simp) _) (by simp) _) (by omega)
  refine ⟨_, rfl, ⟨vl, vh, vc, rfl, ?_, ?_, ?_⟩, ((S.below.setCell (by simp) _).setCell (by simp) _).setCell (by simp) _⟩
  · simpa [layCl] using k S.l
  · simpa [layCl] using k S.h
  · simpa [layCl] using k S.c

set_option maxRecDepth 100000 in
set_option maxHeartbeats 1000000 in
theorem lay_any (a : Option Addr) (n cap : Nat) (zs : List Int) (w : World) (hn : zs.length = n) (hm : n ≤ 9) (hs : sizesB zs = true) (hz : Ints w a zs) :
    Calls Try.prog 38 #[.slice a n cap] w (LayPost zs w) := by
  subst hn
  have hx := Lib.hid hz.at
  have Hs := Lib.hid hs
  clear hz hs
  go_enter Try.func38, Try.ntmps38
  go_wp2
  go_loopw [5, 11] (fun at_ i wr => ∃ k : Nat, k ≤ zs.length ∧ i = .int .i64 k ∧ at_ = .int .i64 (posAt zs k) ∧ LayS w wr zs k) (fun _ i _ => zs.length - (intOf i).toNat)
  case atStart => exact ⟨0, Nat.zero_le _, rfl, rfl, LayS.start w zs⟩
  case round =>
    obtain ⟨k, hk, rfl, rfl, vl, vh, vc, S⟩ := hrel
    by_cases hlt : k < zs.length
    · rcases hx.out with h | ⟨b, off, rfl, hc⟩
      · subst h; simp at hlt
      have hck := hc k hlt
      clear hc hx
      have hckr := (S.below.cell (p := ⟨b, off + k, none⟩) (World.block_lt_of_cell? w _ hck)).trans hck
      clear hck
      have hbd := posAt_bound Hs.out k
      have hsz := size_in Hs.out k hlt
      have t0 := S.T.c0
      have t1 := S.T.c1
      have t2 := S.T.c2
      have f0 := S.T.fr 0
      have f1 := S.T.fr 1
      have f2 := S.T.fr 2
      have hb0 := Lib.hid S.base
      rcases Bool.eq_false_or_eq_true ((k : Int) % 2 == 0) with hpar | hpar
      · have HE := Lib.hid (posAt_even hlt hpar)
        go_wp2_with (first
          | (at_builtin; refine wpList_app_int rfl (.tmp 27) (.tmp 31) rfl (w.heap.size + 2) _ _ _ rfl (posAt zs k) _ rfl (by simp) S.l (by omega) (by first | exact hb0.out | omega) ?_; intro g1 cap1 w1 hown hgr hat hlt1; obtain ⟨T1, S1⟩ := S.low hown hgr hat; clear t0 t1 t2 f0 f1 f2; have q0 := T1.c0; have q1 := T1.c1; have q2 := T1.c2; have f0 := T1.fr 0; have f1 := T1.fr 1; have f2 := T1.fr 2; have hb1 := Lib.hid S1.base; clear hown hgr hat T1 S)
          | (at_builtin; refine wpList_app_int rfl (.tmp 35) (.tmp 39) rfl (w.heap.size + 2) _ _ _ rfl (posAt zs k + zs[k]) _ rfl (by simp) S1.h (by omega) (by first | exact hb1.out | omega) ?_; intro g2 cap2 w2 hown hgr hat hlt2; obtain ⟨T2, S2⟩ := S1.high hown hgr hat; clear q0 q1 q2 f0 f1 f2; have q0 := T2.c0; have q1 := T2.c1; have q2 := T2.c2; have f0 := T2.fr 0; have f1 := T2.fr 1; have f2 := T2.fr 2; have hb2 := Lib.hid S2.base; clear hown hgr hat T2 S1)
          | (at_builtin; refine wpList_app_crease rfl (.tmp 45) (.tmp 51) rfl (w.heap.size + 2) _ _ _ rfl ((k : Int) - 1) k (posAt zs k) _ rfl (by simp) S2.c (by omega) (by first | exact hb2.out | omega) ?_; intro g3 cap3 w3 hown hgr hat hlt3; obtain ⟨T3, S3⟩ := S2.cr hown hgr hat; clear q0 q1 q2 f0 f1 f2; have q0 := T3.c0; have q1 := T3.c1; have q2 := T3.c2; have f0 := T3.fr 0; have f1 := T3.fr 1; have f2 := T3.fr 2; have hb3 := Lib.hid S3.base; clear hown hgr hat T3 S2))
        · go_roundw
          case rel => exact ⟨k + 1, by omega, by go_num, by rw [HE.out], LayS.next S3 (by rw [HE.out]; omega) (by rw [HE.out]; omega) (by omega) (crs_next (by assumption))⟩
          case measure => simp [intOf]; omega
        · have hk0 : ¬ 0 < k := by assumption
          go_roundw
          case rel => exact ⟨k + 1, by omega, by go_num, by rw [HE.out], LayS.next S2 (by rw [HE.out]; omega) (by rw [HE.out]; omega) (by omega) (by have : k = 0 := (by omega); subst this; rfl)⟩
          case measure => simp [intOf]; omega
      · have HE := Lib.hid (posAt_odd hlt hpar)
        go_wp2_with (first
          | (at_builtin; refine wpList_app_int rfl (.tmp 27) (.tmp 31) rfl (w.heap.size + 2) _ _ _ rfl (posAt zs k - zs[k]) _ rfl (by simp) S.l (by omega) (by first | exact hb0.out | omega) ?_; intro g1 cap1 w1 hown hgr hat hlt1; obtain ⟨T1, S1⟩ := S.low hown hgr hat; clear t0 t1 t2 f0 f1 f2; have q0 := T1.c0; have q1 := T1.c1; have q2 := T1.c2; have f0 := T1.fr 0; have f1 := T1.fr 1; have f2 := T1.fr 2; have hb1 := Lib.hid S1.base; clear hown hgr hat T1 S)
          | (at_builtin; refine wpList_app_int rfl (.tmp 35) (.tmp 39) rfl (w.heap.size + 2) _ _ _ rfl (posAt zs k) _ rfl (by simp) S1.h (by omega) (by first | exact hb1.out | omega) ?_; intro g2 cap2 w2 hown hgr hat hlt2; obtain ⟨T2, S2⟩ := S1.high hown hgr hat; clear q0 q1 q2 f0 f1 f2; have q0 := T2.c0; have q1 := T2.c1; have q2 := T2.c2; have f0 := T2.fr 0; have f1 := T2.fr 1; have f2 := T2.fr 2; have hb2 := Lib.hid S2.base; clear hown hgr hat T2 S1)
          | (at_builtin; refine wpList_app_crease rfl (.tmp 45) (.tmp 51) rfl (w.heap.size + 2) _ _ _ rfl ((k : Int) - 1) k (posAt zs k) _ rfl (by simp) S2.c (by omega) (by first | exact hb2.out | omega) ?_; intro g3 cap3 w3 hown hgr hat hlt3; obtain ⟨T3, S3⟩ := S2.cr hown hgr hat; clear q0 q1 q2 f0 f1 f2; have q0 := T3.c0; have q1 := T3.c1; have q2 := T3.c2; have f0 := T3.fr 0; have f1 := T3.fr 1; have f2 := T3.fr 2; have hb3 := Lib.hid S3.base; clear hown hgr hat T3 S2))
        · go_roundw
          case rel => exact ⟨k + 1, by omega, by go_num, by rw [HE.out], LayS.next S3 (by rw [HE.out]; omega) (by rw [HE.out]; omega) (by omega) (crs_next (by assumption))⟩
          case measure => simp [intOf]; omega
        · have hk0 : ¬ 0 < k := by assumption
          go_roundw
          case rel => exact ⟨k + 1, by omega, by go_num, by rw [HE.out], LayS.next S2 (by rw [HE.out]; omega) (by rw [HE.out]; omega) (by omega) (by have : k = 0 := (by omega); subst this; rfl)⟩
          case measure => simp [intOf]; omega
    · obtain rfl : k = zs.length := by omega
      have t0 := S.T.c0
      have t1 := S.T.c1
      have t2 := S.T.c2
      have r0 := S.R.c0
      have r1 := S.R.c1
      have r2 := S.R.c2
      have g0 := S.R.fr 0
      have g1 := S.R.fr 1
      have g2 := S.R.fr 2
      obtain ⟨al, cl, rfl⟩ := ownsRow_slice S.l
      obtain ⟨ah, ch, rfl⟩ := ownsRow_slice S.h
      obtain ⟨ac, cc, rfl⟩ := ownsRow_slice S.c
      go_wp2
      refine bodyPost_ret (v := .tuple #[.agg #[.slice al zs.length cl, .slice ah zs.length ch, .slice ac (zs.length - 1) cc], .int .i64 (posAt zs zs.length)]) (by simp [results, Try.results38, go_sem, r0, r1, r2]) rfl (LayPost.mk S)
end

section
open Go.RowKit Go.Sort

theorem ClothV.slices {w : World} {base : Nat} {c : Cl} {v : Value} (h : ClothV w base c v) : ∃ (al : Option Addr) (cl : Nat) (ah : Option Addr) (ch : Nat) (ac : Option Addr) (cc : Nat), v = .agg #[.slice al c.low.length cl, .slice ah c.high.length ch, .slice ac c.crs.length cc] ∧
    w.ownsRow base 3 1 (.slice al c.low.length cl) c.low.length (c.low.map (Value.int .i64)) ∧ w.ownsRow base 3 1 (.slice ah c.high.length ch) c.high.length (c.high.map (Value.int .i64)) ∧
    w.ownsRow base 87 3 (.slice ac c.crs.length cc) c.crs.length (crCells c.crs) := by
  obtain ⟨vl, vh, vc, rfl, hl, hh, hc⟩ := h
  obtain ⟨al, cl, rfl⟩ := ownsRow_slice hl
  obtain ⟨ah, ch, rfl⟩ := ownsRow_slice hh
  obtain ⟨ac, cc, rfl⟩ := ownsRow_slice hc
  exact ⟨al, cl, ah, ch, ac, cc, rfl, hl, hh, hc⟩

/-- What a call that only makes memory hands back. -/
def Gives (R : Value → World → Prop) (w : World) (e : Ending) (w' : World) : Prop := ∃ v, e = .returned v ∧ R v w' ∧ Below w.heap.size w w'

theorem Trip.below {w w' : World} {b B : Nat} {t : TypeId} {v0 v1 v2 : Value} (h : Trip w b t v0 v1 v2) (hb : Below B w w') (hB : b < B) : Trip w' b t v0 v1 v2 := (hb.block b hB).trans h
theorem Trip.new (w : World) (t : TypeId) (v0 v1 v2 : Value) : Trip (w.alloc (.cells #[v0, v1, v2] t)) w.heap.size t v0 v1 v2 := heap_alloc_new w _
theorem Trip.alloc {w : World} {b : Nat} {t : TypeId} {v0 v1 v2 : Value} (h : Trip w b t v0 v1 v2) (o : Obj) : Trip (w.alloc o) b t v0 v1 v2 := (Below.heap_alloc w o b h.lt).trans h

theorem ClothV.map {w w' : World} {base base' : Nat} {c : Cl} {v : Value} (h : ClothV w base c v) (hk : ∀ {e : TypeId} {size : Nat} {v : Value} {n : Nat} {xs : List Value}, w.ownsRow base e size v n xs → w'.ownsRow base' e size v n xs) : ClothV w' base' c v := by
  obtain ⟨vl, vh, vc, rfl, hl, hh, hc⟩ := h
  exact ⟨vl, vh, vc, rfl, hk hl, hk hh, hk hc⟩

set_option maxRecDepth 100000 in
set_option maxHeartbeats 1000000 in
theorem clothOfStrip_any (a : Option Addr) (n cap : Nat) (zs : List Int) (w : World) (hn : zs.length = n) (hm : n ≤ 9) (hs : sizesB zs = true) (hz : Ints w a zs) :
    Calls Try.prog 22 #[.slice a n cap] w (Gives (fun v w' => ClothV w' w.heap.size (layCl zs) v) w) := by
  have hL := Lib.hid (lay_any a n cap zs (w.alloc (.cells #[.slice none 0 0, .slice none 0 0, .slice none 0 0] 63)) hn hm hs (fun i hi => by
    obtain ⟨b, off, e, hc⟩ := hz i hi
    exact ⟨b, off, e, (World.cell?_alloc_past _ _ _ (World.block_lt_of_cell? w _ hc)).trans hc⟩))
  clear hz hs hm hn
  go_enter Try.func22, Try.ntmps22
  go_wp2_with fail
  refine hL.out.mono ?_
  rintro e w1 ⟨v, rfl, hv, hb⟩
  have hR := (Trip.new w 63 (.slice none 0 0) (.slice none 0 0) (.slice none 0 0)).below hb (by simp)
  obtain ⟨al, cl, ah, ch, ac, cc, rfl, hl, hh, hc⟩ := hv.slices
  have r0 := hR.c0
  have r1 := hR.c1
  have r2 := hR.c2
  have g0 := hR.fr 0
  have g1 := hR.fr 1
  have g2 := hR.fr 2
  have hlt := hR.lt
  go_wp2
  refine bodyPost_ret (v := .agg #[.slice al (layCl zs).low.length cl, .slice ah (layCl zs).high.length ch, .slice ac (layCl zs).crs.length cc]) (by simp [results, Try.results22, go_sem, r0, r1, r2, hlt]) rfl ?_
  refine ⟨_, rfl, hv.map fun h => ?_, ?_⟩
  · exact ownsRow_weaken ((ownsRow_setCell_below (ownsRow_setCell_below (ownsRow_setCell_below h (by simp) _) (by simp) _) (by simp) _).alloc _) (by simp)
  · refine ((((((Below.refl _ _).alloc (Nat.le_refl _) _).trans (hb.mono (by simp))).setCell (by simp) _).setCell (by simp) _).setCell (by simp) _).alloc ?_ _
    simp; omega


/-- A crease as a value, and its box. -/
def crV (f : Cr) : Value := .agg #[.int .i64 f.first, .int .i64 f.second, .int .i64 f.pos]
def crBox (f : Cr) : Obj := .cells #[.int .i64 f.first, .int .i64 f.second, .int .i64 f.pos] 87

theorem beside_eq (f g : Cr) : ((f.pos == g.pos) && (((f.second : Int) % 2) == ((g.second : Int) % 2))) = f.beside g := by
  unfold Cr.beside
  rw [Bool.eq_iff_iff]
  simp
  omega

set_option maxHeartbeats 400000 in
theorem beside_any (f g : Cr) (w : World) :
    Calls Try.prog 67 #[.agg #[.int .i64 f.first, .int .i64 f.second, .int .i64 f.pos], .agg #[.int .i64 g.first, .int .i64 g.second, .int .i64 g.pos]] w
      fun e w' => e = .returned (.bool (f.beside g)) ∧ (w.alloc (crBox f)).alloc (crBox g) = w' := by
  have hB := Lib.hid (beside_eq f g)
  rcases Bool.eq_false_or_eq_true (f.pos == g.pos) with h | h
  all_goals
    go_enter Try.func67, Try.ntmps67
    go_wp2
    go_ret
    exact ⟨ret_bool (by rw [← hB.out, h]; simp), rfl⟩

theorem beside_below (f g : Cr) (w : World) :
    Calls Try.prog 67 #[.agg #[.int .i64 f.first, .int .i64 f.second, .int .i64 f.pos], .agg #[.int .i64 g.first, .int .i64 g.second, .int .i64 g.pos]] w
      fun e w' => e = .returned (.bool (f.beside g)) ∧ Below w.heap.size w w' :=
  (beside_any f g w).mono fun _ _ ⟨he, hw⟩ => ⟨he, hw ▸ ((Below.refl _ _).alloc (Nat.le_refl _) _).alloc (by simp) _⟩

set_option maxRecDepth 100000 in
set_option maxHeartbeats 1000000 in
theorem crossed_any (vl vh : Value) (ac aL : Option Addr) (cc n cL : Nat) (crs : List Cr) (L : List Int) (f : Cr) (w : World) (hn : L.length = n) (hm : n ≤ 9) (hm2 : crs.length ≤ 9)
    (hc : w.ownsRow 0 87 3 (.slice ac crs.length cc) crs.length (crCells crs)) (hL : w.ownsRow 0 3 1 (.slice aL n cL) n (L.map (Value.int .i64)))
    (hf : f.first < n ∧ f.second < n) (hcr : ∀ g ∈ crs, g.first < n ∧ g.second < n) :
    Calls Try.prog 52 #[.agg #[vl, vh, .slice ac crs.length cc], .slice aL n cL, .agg #[.int .i64 f.first, .int .i64 f.second, .int .i64 f.pos]] w
      (Gives (fun v _ => v = .bool (crossedB crs L f)) w) := by
  have HC := Lib.hid (creases_cells hc)
  have HL := Lib.hid (ints_cells hL)
  subst hn
  rcases HL.out with h | ⟨bL, rfl, hbL, hLc⟩
  · subst h; simp at hf
  have l1 := hLc _ hf.1
  have l2 := hLc _ hf.2
  have HLc := Lib.hid hLc
  clear hLc HL hc hL
  obtain ⟨hf1, hf2⟩ := hf
  go_enter Try.func52, Try.ntmps52
  rcases Int.lt_or_le (L[f.first]'hf1) (L[f.second]'hf2) with h | h
  case' inl => have hmax : max (L[f.first]?.getD 0) (L[f.second]?.getD 0) = L[f.second]'hf2 := by simp [hf1, hf2]; omega
  case' inr => have hmax : max (L[f.first]?.getD 0) (L[f.second]?.getD 0) = L[f.first]'hf1 := by simp [hf1, hf2]; omega
  all_goals
    have HM := Lib.hid hmax
    clear hmax
    go_wp2
    go_quiet (fail)
    go_wp2
    first
      | (obtain ⟨M, hM, hX⟩ : ∃ M, max (L[f.first]?.getD 0) (L[f.second]?.getD 0) = M ∧ L[f.second]'hf2 = M := ⟨_, HM.out, rfl⟩; rw [hX]; clear hX)
      | (obtain ⟨M, hM, hX⟩ : ∃ M, max (L[f.first]?.getD 0) (L[f.second]?.getD 0) = M ∧ L[f.first]'hf1 = M := ⟨_, HM.out, rfl⟩; rw [hX]; clear hX)
    clear HM
    have HM := Lib.hid hM
    clear hM
    go_loopw [24] (fun i wr => ∃ k : Nat, k ≤ crs.length ∧ i = .int .i64 k ∧ (crs.take k).any (crossB L M f) = false ∧ Below (w.heap.size + 2) ((w.alloc (.cells #[vl, vh, .slice ac crs.length cc] 63)).alloc (crBox f)) wr) (fun i _ => crs.length - (intOf i).toNat)
    case atStart => exact ⟨0, Nat.zero_le _, rfl, by simp, below_drewN (Below.refl _ _) _⟩
    case round =>
      obtain ⟨k, hk, rfl, hany, hb⟩ := hrel
      have Hany := Lib.hid hany
      clear hany
      by_cases hlt : k < crs.length
      · rcases HC.out with h | ⟨bc, rfl, hbc, hcc⟩
        · subst h; simp at hlt
        obtain ⟨c0, c1, c2⟩ := hcc k hlt
        obtain ⟨n1, n2⟩ := hcr _ (List.getElem_mem hlt)
        have m1 := HLc.out _ n1
        have m2 := HLc.out _ n2
        have far : ∀ {b o : Nat} {v : Value}, b < w.heap.size → w.cell? ⟨b, o, none⟩ = some v → wr.cell? ⟨b, o, none⟩ = some v := fun {b o v} hbb hv => by
          rw [hb.cell (p := ⟨b, o, none⟩) (by simp; omega), World.cell?_alloc_past _ _ _ (by simp; omega), World.cell?_alloc_past _ _ _ hbb]; exact hv
        replace c0 := far hbc c0
        replace c1 := far hbc c1
        replace c2 := far hbc c2
        replace m1 := far hbL m1
        replace m2 := far hbL m2
        have hsz := hb.size
        simp at hsz
        have b0 : wr.cell? ⟨w.heap.size + 1, 0, none⟩ = some (.int .i64 f.first) := (hb.cell (p := ⟨w.heap.size + 1, 0, none⟩) (by simp)).trans (World.cell?_alloc_at _ _ _ _ (by simp))
        have b1 : wr.cell? ⟨w.heap.size + 1, 1, none⟩ = some (.int .i64 f.second) := (hb.cell (p := ⟨w.heap.size + 1, 1, none⟩) (by simp)).trans (World.cell?_alloc_at _ _ _ _ (by simp))
        have b2 : wr.cell? ⟨w.heap.size + 1, 2, none⟩ = some (.int .i64 f.pos) := (hb.cell (p := ⟨w.heap.size + 1, 2, none⟩) (by simp)).trans (World.cell?_alloc_at _ _ _ _ (by simp))
        clear far
        generalize hg : crs[k] = g at *
        have HG := Lib.hid hg
        have HB := Lib.hid hb
        clear hg hb
        have hbs := fun wx => beside_below g f wx
        have far : ∀ {b o : Nat} {v : Value}, b < wr.heap.size → wr.cell? ⟨b, o, none⟩ = some v → (wr.alloc (crBox g)).cell? ⟨b, o, none⟩ = some v := fun {b o v} hbb hv => by
          rw [World.cell?_alloc_past _ _ _ hbb]; exact hv
        have s0 := cell_regrown (show (wr.alloc (crBox g)).cell? ⟨wr.heap.size, 0, none⟩ = some (.int .i64 g.first) from (World.cell?_alloc_at _ _ _ _ rfl))
        have s1 := cell_regrown (show (wr.alloc (crBox g)).cell? ⟨wr.heap.size, 1, none⟩ = some (.int .i64 g.second) from (World.cell?_alloc_at _ _ _ _ rfl))
        have s2 := cell_regrown (show (wr.alloc (crBox g)).cell? ⟨wr.heap.size, 2, none⟩ = some (.int .i64 g.pos) from (World.cell?_alloc_at _ _ _ _ rfl))
        have s3 := cell_regrown (far (by omega) b0)
        have s4 := cell_regrown (far (by omega) b1)
        have s5 := cell_regrown (far (by omega) b2)
        have s6 := cell_regrown (far (by omega) m1)
        have s7 := cell_regrown (far (by omega) m2)
        clear far
        simp only [crBox] at s0 s1 s2 s3 s4 s5 s6 s7
        rcases Bool.eq_false_or_eq_true (g.beside f) with hbt | hbt
        all_goals
          simp only [hbt] at hbs
          have Hbs := Lib.hid hbs
          clear hbs
          go_wp2_with fail
          refine wp_region_quiet_below (by kernel_rfl) (by kernel_rfl) ?_
          repeat (go_big_quiet_step ((exact Calls.regrown_of (Hbs.out _))))
          refine wpQuiet_nil ?_
          intro w2 hw2
          obtain ⟨pw, hpw⟩ := hw2
          have hb2 := below_regrown (wr.alloc (crBox g)) pw.d pw.os
          simp only [crBox] at hb2
          rw [← hpw] at hb2
          clear hpw s0 s1 s2 s3 s4 s5 s6 s7
          have HBW := Lib.hid (HB.out.trans ((((Below.refl _ _).alloc (Nat.le_refl _) _).trans (hb2.mono (by simp))).mono (show w.heap.size + 2 ≤ wr.heap.size by omega)))
          have HQ := Lib.hid (show crossB L M f g = (g.beside f && !(decide (M < L[g.first]'n1) == decide (M < L[g.second]'n2))) by simp [crossB, n1, n2, bne])
          have Hbt := Lib.hid hbt
          clear hb2 hbt
          go_wp2
          all_goals first
            | (go_roundw
               case rel => exact ⟨k + 1, by omega, by go_num, any_next _ _ _ hlt Hany.out (by rw [HG.out, HQ.out, Hbt.out]; first | rfl | (rw [Bool.true_and]; assumption)), HBW.out⟩
               case measure => simp [intOf]; omega)
            | (go_ret
               refine ⟨.bool true, rfl, ?_, (((Below.refl _ _).alloc (Nat.le_refl _) _).alloc (by simp) _).trans (HBW.out.mono (by omega))⟩
               rw [crossedB, HM.out, any_true_at _ _ _ hlt (by rw [HG.out, HQ.out, Hbt.out, Bool.true_and]; assumption)])
      · go_wp2
        go_ret
        refine ⟨.bool false, rfl, ?_, ((((Below.refl _ _).alloc (Nat.le_refl _) _).alloc (by simp) _).trans (hb.mono (by omega)))⟩
        have hk' : k = crs.length := by omega
        subst hk'
        rw [crossedB, HM.out, any_done _ _ Hany.out]
end

section
open Go.RowKit Go.Sort

set_option maxRecDepth 100000 in
set_option maxHeartbeats 1000000 in
theorem fits_any (al ah ac aL : Option Addr) (cl ch cc cL n s : Nat) (c : Cl) (L : List Int) (w : World) (hn : L.length = n) (hm : n ≤ 9) (hm2 : c.crs.length ≤ 9)
    (hl : w.ownsRow 0 3 1 (.slice al n cl) n (c.low.map (Value.int .i64))) (hh : w.ownsRow 0 3 1 (.slice ah n ch) n (c.high.map (Value.int .i64)))
    (hc : w.ownsRow 0 87 3 (.slice ac c.crs.length cc) c.crs.length (crCells c.crs)) (hL : w.ownsRow 0 3 1 (.slice aL n cL) n (L.map (Value.int .i64)))
    (hs : s < n) (hcr : ∀ g ∈ c.crs, g.first < n ∧ g.second < n) :
    Calls Try.prog 43 #[.agg #[.slice al n cl, .slice ah n ch, .slice ac c.crs.length cc], .slice aL n cL, .int .i64 s] w
      (Gives (fun v _ => v = .bool (fitsB c L s)) w) := by
  obtain ⟨low, high, crs⟩ := c
  simp only at hm2 hl hh hc hcr ⊢
  have HC := Lib.hid (creases_cells hc)
  have HX := Lib.hid (And.intro hc hL)
  have elow : low.length = n := by simpa using hl.1
  have ehigh : high.length = n := by simpa using hh.1
  rcases ints_cells hL with h | ⟨bL, rfl, hbL, hLc⟩
  · subst h; simp at hn; omega
  rcases ints_cells hl with h | ⟨bl, rfl, hbl, hlc⟩
  · subst h; simp at elow; omega
  rcases ints_cells hh with h | ⟨bh, rfl, hbh, hhc⟩
  · subst h; simp at ehigh; omega
  have lo := hlc s (by omega)
  have hi := hhc s (by omega)
  have HN := Lib.hid (And.intro hn (And.intro elow ehigh))
  have HLc := Lib.hid hLc
  clear hLc hlc hhc hc hL hl hh hn elow ehigh
  go_enter Try.func43, Try.ntmps43
  go_wp2
  go_loopw [13] (fun i wr => ∃ k : Nat, k ≤ crs.length ∧ i = .int .i64 k ∧ (crs.take k).all (fitB crs low high L s) = true ∧ Below (w.heap.size + 1) (w.alloc (.cells #[.slice (some ⟨bl, 0, none⟩) n cl, .slice (some ⟨bh, 0, none⟩) n ch, .slice ac crs.length cc] 63)) wr) (fun i _ => crs.length - (intOf i).toNat)
  case atStart => exact ⟨0, Nat.zero_le _, rfl, by simp, Below.refl _ _⟩
  case round =>
    obtain ⟨k, hk, rfl, hall, hb⟩ := hrel
    have Hall := Lib.hid hall
    clear hall
    by_cases hlt : k < crs.length
    · rcases HC.out with h | ⟨bc, rfl, hbc, hcc⟩
      · subst h; simp at hlt
      obtain ⟨c0, c1, c2⟩ := hcc k hlt
      obtain ⟨n1, n2⟩ := hcr _ (List.getElem_mem hlt)
      have m1 := HLc.out _ (HN.out.1 ▸ n1)
      have m2 := HLc.out _ (HN.out.1 ▸ n2)
      have far : ∀ {b o : Nat} {v : Value}, b < w.heap.size → w.cell? ⟨b, o, none⟩ = some v → wr.cell? ⟨b, o, none⟩ = some v := fun {b o v} hbb hv => by
        rw [hb.cell (p := ⟨b, o, none⟩) (by simp; omega), World.cell?_alloc_past _ _ _ hbb]; exact hv
      replace c0 := far hbc c0
      replace c1 := far hbc c1
      replace c2 := far hbc c2
      replace m1 := far hbL m1
      replace m2 := far hbL m2
      replace lo := far hbl lo
      replace hi := far hbh hi
      clear far
      have hsz := hb.size
      simp at hsz
      have b0 : wr.cell? ⟨w.heap.size, 0, none⟩ = some (.slice (some ⟨bl, 0, none⟩) n cl) := (hb.cell (p := ⟨w.heap.size, 0, none⟩) (by simp)).trans (World.cell?_alloc_at _ _ _ _ (by simp))
      have b1 : wr.cell? ⟨w.heap.size, 1, none⟩ = some (.slice (some ⟨bh, 0, none⟩) n ch) := (hb.cell (p := ⟨w.heap.size, 1, none⟩) (by simp)).trans (World.cell?_alloc_at _ _ _ _ (by simp))
      have b2 : wr.cell? ⟨w.heap.size, 2, none⟩ = some (.slice (some ⟨bc, 0, none⟩) crs.length cc) := (hb.cell (p := ⟨w.heap.size, 2, none⟩) (by simp)).trans (World.cell?_alloc_at _ _ _ _ (by simp))
      have HB := Lib.hid hb
      generalize hg : crs[k] = f at *
      have HG := Lib.hid hg
      clear hg hb
      generalize hA : L[f.first]?.getD 0 = A at *
      generalize hA2 : L[f.second]?.getD 0 = A2 at *
      generalize hlo : low[s]?.getD 0 = lw at *
      generalize hhi : high[s]?.getD 0 = hg at *
      have xL : bL < wr.heap.size := by omega
      have xl : bl < wr.heap.size := by omega
      have xh : bh < wr.heap.size := by omega
      have xw : w.heap.size < wr.heap.size := by omega
      have HE := Lib.hid (And.intro hA (And.intro hA2 (And.intro hlo hhi)))
      clear hA hA2 hlo hhi
      go_wp2
      have HCr : Hid (∀ W', Below wr.heap.size wr W' → Calls Try.prog 52 #[.agg #[.slice (some ⟨bl, 0, none⟩) n cl, .slice (some ⟨bh, 0, none⟩) n ch, .slice (some ⟨bc, 0, none⟩) crs.length cc], .slice (some ⟨bL, 0, none⟩) n cL, .agg #[.int .i64 f.first, .int .i64 f.second, .int .i64 f.pos]] W'
          (Gives (fun v _ => v = .bool (crossedB crs L f)) W')) := Lib.hid fun W' hW' => by
        have hw : Below w.heap.size w W' := (((Below.refl _ _).alloc (Nat.le_refl _) _).trans (HB.out.mono (by omega))).trans (hW'.mono (by omega))
        exact crossed_any _ _ _ _ _ _ _ _ _ _ _ HN.out.1 hm hm2 (ownsRow_kept HX.out.1 hw) (ownsRow_kept HX.out.2 hw) ⟨n1, n2⟩ hcr
      have HF : Hid (fitB crs low high L s f = if ((A == -1) != (A2 == -1)) = true then !(decide (lw < f.pos) && decide (f.pos < hg)) && !((s == f.first || s == f.second) && crossedB crs L f) else true) := Lib.hid (by
        unfold fitB; rw [HE.out.1, HE.out.2.1, HE.out.2.2.1, HE.out.2.2.2])
      have HW := Lib.hid (show Below (w.heap.size + 1) (w.alloc (.cells #[.slice (some ⟨bl, 0, none⟩) n cl, .slice (some ⟨bh, 0, none⟩) n ch, .slice (some ⟨bc, 0, none⟩) crs.length cc] 63)) (wr.alloc (crBox f)) from HB.out.alloc (by omega) _)
      have HW2 := Lib.hid (((Below.refl _ w).alloc (Nat.le_refl _) _).trans (HW.out.mono (show w.heap.size ≤ w.heap.size + 1 by omega)))
      generalize hX : crossedB crs L f = X at *
      clear hX
      go_wp2
      go_quiet (fail)
      go_wp2
      case roundEnd =>
        have ho : ((A == -1) == (A2 == -1)) = true := by assumption
        go_roundw
        case rel => exact ⟨k + 1, by omega, by go_num, all_next _ _ _ hlt Hall.out (by rw [HG.out, HF.out, bne, ho]; rfl), below_drewN HW.out _⟩
        case measure => simp [intOf]; omega
      have HO := Lib.hid (show ((A == -1) == (A2 == -1)) = false by assumption)
      rcases (by omega : (s = f.first) ∨ (s ≠ f.first ∧ s = f.second) ∨ (s ≠ f.first ∧ s ≠ f.second)) with h1 | ⟨h1, h2⟩ | ⟨h1, h2⟩
      case' inl =>
        have HS : Hid ((s == f.first || s == f.second) = true) := Lib.hid (by simp [h1])
        have e1 : ((s : Int) == (f.first : Int)) = true := by simp; omega
        have e1' : (s == f.first) = true := by simp; omega
        clear h1
      case' inr.inl =>
        have HS : Hid ((s == f.first || s == f.second) = true) := Lib.hid (by simp [h2])
        have e1 : ((s : Int) == (f.first : Int)) = false := by simp; omega
        have e1' : (s == f.first) = false := by simp; omega
        have e2 : ((s : Int) == (f.second : Int)) = true := by simp; omega
        have e2' : (s == f.second) = true := by simp; omega
        clear h1 h2
      case' inr.inr =>
        have HS : Hid ((s == f.first || s == f.second) = false) := Lib.hid (by simp [h1, h2])
        have e1 : ((s : Int) == (f.first : Int)) = false := by simp; omega
        have e1' : (s == f.first) = false := by simp; omega
        have e2 : ((s : Int) == (f.second : Int)) = false := by simp; omega
        have e2' : (s == f.second) = false := by simp; omega
        clear h1 h2
      all_goals
        rcases Bool.eq_false_or_eq_true (decide (lw < f.pos)) with hp | hp
        all_goals
          go_quiet (fail)
          go_wp2_with (go_at_call 52; refine (HCr.out _ (by repeat (first | exact (Below.refl _ _).alloc (Nat.le_refl _) _ | refine below_drewN ?_ _ | refine Below.drew ?_))).mono ?_; rintro e w3 ⟨v, rfl, rfl, hb3⟩; have Hb3 := Lib.hid hb3; clear hb3)
          all_goals
            first
              | (go_roundw
                 case rel => exact ⟨k + 1, by omega, by go_num, all_next _ _ _ hlt Hall.out (by rw [HG.out, HF.out, bne, HO.out, HS.out]; first | (rw [hp, show decide (f.pos < hg) = true from decide_eq_true (by assumption)]; done) | (rw [hp, show decide (f.pos < hg) = true from decide_eq_true (by assumption)]; rfl) | (rw [hp, show decide (f.pos < hg) = false from decide_eq_false (by omega), show X = true by assumption]; rfl) | (rw [hp, show decide (f.pos < hg) = false from decide_eq_false (by omega), show X = false by assumption]; rfl) | (rw [hp, show X = true by assumption]; rfl) | (rw [hp, show X = false by assumption]; rfl) | (rw [hp, show decide (f.pos < hg) = false from decide_eq_false (by omega)]; cases X <;> rfl) | (rw [hp]; cases X <;> cases decide (f.pos < hg) <;> rfl)), (by (first | exact Below.trans (by repeat (first | exact HW.out | refine below_drewN ?_ _)) (Hb3.out.mono (by simp; omega)) | exact below_drewN HW.out _ | exact below_drewN (below_drewN HW.out _) _))⟩
                 case measure => simp [intOf]; omega)
              | (go_ret
                 refine ⟨.bool false, rfl, ?_, (by (first | exact Below.trans (by repeat (first | exact HW2.out | refine below_drewN ?_ _)) (Hb3.out.mono (by simp; omega)) | exact below_drewN HW2.out _ | exact below_drewN (below_drewN HW2.out _) _))⟩
                 rw [fitsB, all_false_at _ _ _ hlt (by rw [HG.out, HF.out, bne, HO.out, HS.out]; first | (rw [hp, show decide (f.pos < hg) = true from decide_eq_true (by assumption)]; done) | (rw [hp, show decide (f.pos < hg) = true from decide_eq_true (by assumption)]; rfl) | (rw [hp, show decide (f.pos < hg) = false from decide_eq_false (by omega), show X = true by assumption]; rfl) | (rw [hp, show decide (f.pos < hg) = false from decide_eq_false (by omega), show X = false by assumption]; rfl) | (rw [hp, show X = true by assumption]; rfl) | (rw [hp, show X = false by assumption]; rfl) | (rw [hp, show decide (f.pos < hg) = false from decide_eq_false (by omega)]; cases X <;> rfl) | (rw [hp]; cases X <;> cases decide (f.pos < hg) <;> rfl))])
    · go_wp2
      go_ret
      refine ⟨.bool true, rfl, ?_, (((Below.refl _ _).alloc (Nat.le_refl _) _).trans (hb.mono (by omega)))⟩
      have hk' : k = crs.length := by omega
      subst hk'
      have := Hall.out
      rw [List.take_length] at this
      rw [fitsB, this]
end

end Go.Proofs.Yteckeobhlfddlaa
