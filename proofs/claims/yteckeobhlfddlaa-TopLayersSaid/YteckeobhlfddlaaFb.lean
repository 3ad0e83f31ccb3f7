/-
  The walks of the small functions of package fold.
-/
import Derived.Test.YteckeobhlfddlaaRows
import Derived.Test.YteckeobhlfddlaaFa
import Derived.WalkKit
import Derived.WalkSpells
import Derived.WalkLawsBesides
import Derived.BigQuiet
import Derived.Deep.QuietTactic
import Derived.Lib.Hide
import Derived.Maps.AppendAt
namespace Go.Proofs.Yteckeobhlfddlaa
open Go.RowKit

/-- What a slice of integers holds. -/
def Ints (w : World) (a : Option Addr) (zs : List Int) : Prop := ∀ i, i < zs.length → ∃ b off, a = some ⟨b, off, none⟩ ∧ w.cell? ⟨b, off + i, none⟩ = some (.int .i64 (zs[i]?.getD 0))

theorem Ints.at {w : World} {a : Option Addr} {zs : List Int} (h : Ints w a zs) : (zs = [] ∨ ∃ b off, a = some ⟨b, off, none⟩ ∧ ∀ i, i < zs.length → w.cell? ⟨b, off + i, none⟩ = some (.int .i64 (zs[i]?.getD 0))) := by
  cases zs with
  | nil => exact .inl rfl
  | cons z zs =>
    obtain ⟨b, off, rfl, _⟩ := h 0 (by simp)
    refine .inr ⟨b, off, rfl, fun i hi => ?_⟩
    obtain ⟨b', off', e, hc⟩ := h i hi
    cases e; exact hc

theorem ret_bool {a b : Bool} (h : a = b) : Ending.returned (.bool a) = .returned (.bool b) := by rw [h]

theorem Ints.nonneg_len {w : World} {a : Option Addr} {zs : List Int} (_h : Ints w a zs) : 0 ≤ zs.length := Nat.zero_le _

set_option maxHeartbeats 400000 in
theorem areSizes_any (a : Option Addr) (n cap : Nat) (zs : List Int) (w : World) (hn : zs.length = n) (hm : n ≤ 9223372036854775807) (hz : Ints w a zs) :
    Calls Try.prog 37 #[.slice a n cap] w fun e w' => e = .returned (.bool (sizesB zs)) ∧ w = w' := by
  subst hn
  have hx := Lib.hid hz.at
  clear hz
  go_enter Try.func37, Try.ntmps37
  go_wp2
  go_loop [7] (fun i => ∃ k : Nat, k ≤ zs.length ∧ i = .int .i64 k ∧ (zs.take k).all sizeB = true) (fun i => zs.length - (intOf i).toNat)
  case atStart => exact ⟨0, Nat.zero_le _, rfl, by simp⟩
  case round =>
    obtain ⟨k, hk, rfl, hall⟩ := hrel
    have Hall := Lib.hid hall
    clear hall
    by_cases hlt : k < zs.length
    · rcases hx.out with h | ⟨b, off, rfl, hc⟩
      · subst h; simp at hlt
      have hck := hc k hlt
      clear hc
      go_wp2
      case roundEnd =>
        go_round
        case rel => exact ⟨k + 1, by omega, by go_num, all_next _ _ k hlt Hall.out (by simp [sizeB]; omega)⟩
        case measure => simp [intOf]; omega
      all_goals
        go_ret
        exact ⟨ret_bool (Eq.symm (all_false_at _ _ k hlt (by simp [sizeB]; omega))), rfl⟩
    · go_wp2
      go_ret
      exact ⟨ret_bool (by have : k = zs.length := by omega
                          subst this; simpa [sizesB] using Hall.out.symm), rfl⟩

theorem isStrip_any (a : Option Addr) (n cap : Nat) (zs : List Int) (w : World) (hn : zs.length = n) (hm : n ≤ 9223372036854775807) (hz : Ints w a zs) :
    Calls Try.prog 21 #[.slice a n cap] w fun e w' => e = .returned (.bool (stripB zs)) ∧ w = w' := by
  have hs := areSizes_any a n cap zs w hn hm hz
  have Hs := Lib.hid hs
  clear hs hz
  rcases (by omega : n < 1 ∨ (1 ≤ n ∧ n ≤ 9) ∨ (1 ≤ n ∧ 9 < n)) with h | ⟨h, h'⟩ | ⟨h, h'⟩
  all_goals
    have Hn := Lib.hid hn; clear hn
    go_enter Try.func21, Try.ntmps21
    go_wp2_with (go_at_call 37; refine Hs.out.mono ?_; rintro e w' ⟨rfl, rfl⟩)
    go_ret
    exact ⟨ret_bool (by rw [stripB, Hn.out]; simp; omega), rfl⟩

theorem Try.info3 : (Try.prog.info? 3).map (fun i => (i.zero, i.size, i.bytes)) = some (some (.int .i64 0), 1, 8) := by kernel_rfl
theorem Try.infoCr : (Try.prog.info? 87).map (fun i => (i.zero, i.size, i.bytes)) = some (some (.agg #[.int .i64 0, .int .i64 0, .int .i64 0]), 3, 24) := by kernel_rfl

/-- The cells of a list of creases. -/
def crCells (l : List Cr) : List Value := l.flatMap fun f => [.int .i64 f.first, .int .i64 f.second, .int .i64 f.pos]
theorem crCells_append (l m : List Cr) : crCells (l ++ m) = crCells l ++ crCells m := by simp [crCells]
@[simp] theorem crCells_length (l : List Cr) : (crCells l).length = l.length * 3 := by
  induction l with
  | nil => rfl
  | cons f l ih => simp [crCells] at ih ⊢; omega

/-- A block of three cells. -/
def Trip (w : World) (b : Nat) (t : TypeId) (v0 v1 v2 : Value) : Prop := w.heap[b]? = some (.cells #[v0, v1, v2] t (0, 0))
theorem Trip.c0 {w : World} {b : Nat} {t : TypeId} {v0 v1 v2 : Value} (h : Trip w b t v0 v1 v2) : w.cell? ⟨b, 0, none⟩ = some v0 := by simp [World.cell?, show w.heap[b]? = _ from h]
theorem Trip.c1 {w : World} {b : Nat} {t : TypeId} {v0 v1 v2 : Value} (h : Trip w b t v0 v1 v2) : w.cell? ⟨b, 1, none⟩ = some v1 := by simp [World.cell?, show w.heap[b]? = _ from h]
theorem Trip.c2 {w : World} {b : Nat} {t : TypeId} {v0 v1 v2 : Value} (h : Trip w b t v0 v1 v2) : w.cell? ⟨b, 2, none⟩ = some v2 := by simp [World.cell?, show w.heap[b]? = _ from h]
theorem Trip.fr {w : World} {b : Nat} {t : TypeId} {v0 v1 v2 : Value} (h : Trip w b t v0 v1 v2) (o : Nat) : w.frozen? ⟨b, o, none⟩ = false := by simp [World.frozen?, show w.heap[b]? = _ from h]
theorem Trip.lt {w : World} {b : Nat} {t : TypeId} {v0 v1 v2 : Value} (h : Trip w b t v0 v1 v2) : b < w.heap.size := lt_of_block h
theorem Trip.grown {w w' : World} {b : Nat} {t : TypeId} {v0 v1 v2 : Value} {row : Option Nat} (h : Trip w b t v0 v1 v2) (hg : w.grownBy w' row) (hne : some b ≠ row) : Trip w' b t v0 v1 v2 := (hg.block b h.lt hne).trans h
theorem heap_setCell_self {w : World} {b i : Nat} {cs : Array Value} {t : TypeId} {fz : Nat × Nat} (h : w.heap[b]? = some (.cells cs t fz)) (v : Value) : (w.setCell ⟨b, i, none⟩ v).heap[b]? = some (.cells (cs.setIfInBounds i v) t fz) := by
  obtain ⟨hlt, he⟩ := Array.getElem?_eq_some_iff.1 h
  show (w.heap.modify b _)[b]? = _
  rw [Array.getElem?_eq_getElem (by rw [Array.size_modify]; exact hlt), Array.getElem_modify_self, he]
  rfl
theorem Trip.set0 {w : World} {b : Nat} {t : TypeId} {v0 v1 v2 : Value} (h : Trip w b t v0 v1 v2) (v : Value) : Trip (w.setCell ⟨b, 0, none⟩ v) b t v v1 v2 := heap_setCell_self h v
theorem Trip.set1 {w : World} {b : Nat} {t : TypeId} {v0 v1 v2 : Value} (h : Trip w b t v0 v1 v2) (v : Value) : Trip (w.setCell ⟨b, 1, none⟩ v) b t v0 v v2 := heap_setCell_self h v
theorem Trip.set2 {w : World} {b : Nat} {t : TypeId} {v0 v1 v2 : Value} (h : Trip w b t v0 v1 v2) (v : Value) : Trip (w.setCell ⟨b, 2, none⟩ v) b t v0 v1 v := heap_setCell_self h v
theorem Trip.setOther {w : World} {b : Nat} {t : TypeId} {v0 v1 v2 : Value} (h : Trip w b t v0 v1 v2) {a : Addr} (ha : b ≠ a.block) (v : Value) : Trip (w.setCell a v) b t v0 v1 v2 := (Below.heap_setCell w a v b ha).trans h


theorem ownsRow_succ' {W : World} {base : Nat} {e : TypeId} {size : Nat} {v : Value} {k : Nat} {xs : List Value} (h : W.ownsRow base e size v (k + 1) xs) : ∃ g cap, v = .slice (some ⟨g, 0, none⟩) (k + 1) cap := by
  rcases h.2 with ⟨_, h0⟩ | ⟨g, cap, _, rfl, _⟩
  · omega
  · exact ⟨g, cap, rfl⟩
theorem grown_alloc {w w1 : World} {o : Obj} {row : Option Nat} (h : (w.alloc o).grownBy w1 row) : w.grownBy w1 row :=
  ⟨h.os, h.tape, h.output, by have := h.size; simp at this; omega, fun k hk hne => (h.block k (by simp; omega) hne).trans (Below.heap_alloc w o k hk)⟩
theorem cells_new (W : World) (xs : List Value) (t : TypeId) (b : Nat) (hb : b = W.heap.size) : ∀ j u, xs[j]? = some u → (W.alloc (.cells xs.toArray t)).cell? ((⟨b, 0, none⟩ : Addr).add j) = some u := by
  subst hb
  intro j u hj
  have hadd : (⟨W.heap.size, 0, none⟩ : Addr).add j = ⟨W.heap.size, j, none⟩ := by unfold Addr.add; split <;> simp_all
  rw [hadd, World.cell?_alloc_at _ _ _ _ rfl]
  simpa using hj

/-- 'out = append(out, x)' of one integer: what the walk wants of it. -/
theorem wpList_app_int {W : World} {ops : Array Oper} {rest : List Oper} {o : Oper} {a : Act} {Q : Exit → Act → World → Prop} (hgd : o.guard = none) (s x : Operand)
    (ho : o.op = .call { callee := .builtin .append, args := #[s, x], argTypes := #[22, 22] }) (base : Nat) (v : Value) (n : Nat) (xs : List Value) (hs : a.eval s = v) (z : Int) (b : Nat)
    (hx : a.eval x = .slice (some ⟨b, 0, none⟩) 1 1) (hb : b = W.heap.size) (hown : W.ownsRow base 3 1 v n xs) (hn : n ≤ 1000000) (hbase : base ≤ W.heap.size)
    (h : ∀ (g cap : Nat) (w' : World), w'.ownsRow base 3 1 (.slice (some ⟨g, 0, none⟩) (n + 1) cap) (n + 1) (xs ++ [.int .i64 z]) → W.grownBy w' v.ownBlock → (some g = v.ownBlock ∨ W.heap.size ≤ g) → W.heap.size < w'.heap.size → wpList Try.prog ops Q rest (a.put o.dst (.slice (some ⟨g, 0, none⟩) (n + 1) cap)) w') :
    wpList Try.prog ops Q (o :: rest) a (W.alloc (.cells #[.int .i64 z] 3)) := by
  obtain ⟨i0, hi, hz0, hz1, hz2⟩ := info_parts Try.info3
  refine wpList_append_own_at _ hgd s x 22 ho base 3 i0 (.int .i64 0) 1 8 Try.underlying22 hi hz0 hz1 hz2 rfl (by decide) v n xs hs (hown.alloc _) ⟨b, 0, none⟩ 1 1 [.int .i64 z] hx rfl (cells_new W [.int .i64 z] _ b hb) (by simp [Value.oneCell']) (by unfold maxLen; omega) (by omega) (by simp; omega) ?_
  intro v' w' hown' hg _ hat
  obtain ⟨g, cap, rfl⟩ := ownsRow_succ' hown'
  have hsz := hg.size
  simp at hsz
  refine h g cap w' hown' (grown_alloc hg) ?_ (by omega)
  rcases hat with e | e
  · exact .inl (by simpa [Value.ownBlock] using e)
  · refine .inr ?_
    simp [Value.ownBlock] at e
    omega

/-- 'out = append(out, x)' of one crease. -/
theorem wpList_app_crease {W : World} {ops : Array Oper} {rest : List Oper} {o : Oper} {a : Act} {Q : Exit → Act → World → Prop} (hgd : o.guard = none) (s x : Operand)
    (ho : o.op = .call { callee := .builtin .append, args := #[s, x], argTypes := #[61, 61] }) (base : Nat) (v : Value) (n : Nat) (xs : List Value) (hs : a.eval s = v) (z0 z1 z2 : Int) (b : Nat)
    (hx : a.eval x = .slice (some ⟨b, 0, none⟩) 1 1) (hb : b = W.heap.size) (hown : W.ownsRow base 87 3 v n xs) (hn : n ≤ 1000000) (hbase : base ≤ W.heap.size)
    (h : ∀ (g cap : Nat) (w' : World), w'.ownsRow base 87 3 (.slice (some ⟨g, 0, none⟩) (n + 1) cap) (n + 1) (xs ++ [.int .i64 z0, .int .i64 z1, .int .i64 z2]) → W.grownBy w' v.ownBlock → (some g = v.ownBlock ∨ W.heap.size ≤ g) → W.heap.size < w'.heap.size → wpList Try.prog ops Q rest (a.put o.dst (.slice (some ⟨g, 0, none⟩) (n + 1) cap)) w') :
    wpList Try.prog ops Q (o :: rest) a (W.alloc (.cells #[.int .i64 z0, .int .i64 z1, .int .i64 z2] 87)) := by
  obtain ⟨i0, hi, hz0, hz1, hz2⟩ := info_parts Try.infoCr
  refine wpList_append_own_at _ hgd s x 61 ho base 87 i0 (.agg #[.int .i64 0, .int .i64 0, .int .i64 0]) 3 24 Try.underlying61 hi hz0 hz1 hz2 rfl (by decide) v n xs hs (hown.alloc _) ⟨b, 0, none⟩ 1 1 [.int .i64 z0, .int .i64 z1, .int .i64 z2] hx rfl (cells_new W [.int .i64 z0, .int .i64 z1, .int .i64 z2] _ b hb) (by simp [Value.oneCell']) (by unfold maxLen; omega) (by omega) (by simp; omega) ?_
  intro v' w' hown' hg _ hat
  obtain ⟨g, cap, rfl⟩ := ownsRow_succ' hown'
  have hsz := hg.size
  simp at hsz
  refine h g cap w' hown' (grown_alloc hg) ?_ (by omega)
  rcases hat with e | e
  · exact .inl (by simpa [Value.ownBlock] using e)
  · refine .inr ?_
    simp [Value.ownBlock] at e
    omega

theorem ownsRow_weaken {w : World} {base base' : Nat} {e : TypeId} {size : Nat} {v : Value} {n : Nat} {xs : List Value} (h : w.ownsRow base e size v n xs) (hb : base' ≤ base) : w.ownsRow base' e size v n xs :=
  ⟨h.1, h.2.imp id fun ⟨g, cap, cur, e', hg, r⟩ => ⟨g, cap, cur, e', Nat.le_trans hb hg, r⟩⟩

theorem ownsRow_slice {w : World} {base : Nat} {e : TypeId} {size : Nat} {v : Value} {n : Nat} {xs : List Value} (h : w.ownsRow base e size v n xs) : ∃ a cap, v = .slice a n cap := by
  rcases h.2 with ⟨rfl, rfl⟩ | ⟨g, cap, cur, rfl, _⟩
  · exact ⟨none, 0, rfl⟩
  · exact ⟨_, _, rfl⟩

/-- A value that is a cloth. -/
def ClothV (w : World) (base : Nat) (c : Cl) (v : Value) : Prop := ∃ vl vh vc : Value, v = .agg #[vl, vh, vc] ∧ w.ownsRow base 3 1 vl c.low.length (c.low.map (Value.int .i64)) ∧
  w.ownsRow base 3 1 vh c.high.length (c.high.map (Value.int .i64)) ∧ w.ownsRow base 87 3 vc c.crs.length (crCells c.crs)

theorem crCells_at : ∀ (l : List Cr) (j : Nat) (h : j < l.length), (crCells l)[j * 3]? = some (.int .i64 l[j].first) ∧ (crCells l)[j * 3 + 1]? = some (.int .i64 l[j].second) ∧ (crCells l)[j * 3 + 2]? = some (.int .i64 l[j].pos)
  | f :: l, 0, _ => by simp [crCells]
  | f :: l, j + 1, h => by
    have := crCells_at l j (by simpa using h)
    have e : ∀ i, (crCells (f :: l))[(j + 1) * 3 + i]? = (crCells l)[j * 3 + i]? := fun i => by
      show (([.int .i64 (f.first : Int), .int .i64 (f.second : Int), .int .i64 f.pos] : List Value) ++ crCells l)[(j + 1) * 3 + i]? = _
      rw [List.getElem?_append_right (by simp; omega)]
      simp; congr 1; omega
    have e0 := e 0
    simp only [Nat.add_zero] at e0
    rw [e0, e 1, e 2]
    simpa using this

/-- The creases' slice, read. -/
theorem creases_cells {w : World} {base : Nat} {a : Option Addr} {cap : Nat} {l : List Cr} (h : w.ownsRow base 87 3 (.slice a l.length cap) l.length (crCells l)) :
    l = [] ∨ ∃ b, a = some ⟨b, 0, none⟩ ∧ b < w.heap.size ∧ ∀ j (hj : j < l.length), w.cell? ⟨b, j * 3, none⟩ = some (.int .i64 l[j].first) ∧ w.cell? ⟨b, j * 3 + 1, none⟩ = some (.int .i64 l[j].second) ∧ w.cell? ⟨b, j * 3 + 2, none⟩ = some (.int .i64 l[j].pos) := by
  rcases h.2 with ⟨_, h0⟩ | ⟨g, cap', cur, e, _⟩
  · exact .inl (List.eq_nil_of_length_eq_zero h0)
  · cases e
    refine .inr ⟨g, rfl, (h.lt g rfl).2, fun j hj => ?_⟩
    have k := crCells_at l j hj
    exact ⟨(h.cellAt _ (by omega)).trans k.1, (h.cellAt _ (by omega)).trans k.2.1, (h.cellAt _ (by omega)).trans k.2.2⟩
/-- A slice of integers, read. -/
theorem ints_cells {w : World} {base : Nat} {a : Option Addr} {cap n : Nat} {l : List Int} (h : w.ownsRow base 3 1 (.slice a n cap) n (l.map (Value.int .i64))) :
    l = [] ∨ ∃ b, a = some ⟨b, 0, none⟩ ∧ b < w.heap.size ∧ ∀ j, j < l.length → w.cell? ⟨b, j, none⟩ = some (.int .i64 (l[j]?.getD 0)) := by
  have hn : l.length = n := by simpa using h.1
  rcases h.2 with ⟨_, h0⟩ | ⟨g, cap', cur, e, _⟩
  · exact .inl (List.eq_nil_of_length_eq_zero (by omega))
  · cases e
    refine .inr ⟨g, rfl, (h.lt g rfl).2, fun j hj => ?_⟩
    rw [h.cellAt j (by omega)]
    simp [hj]

theorem ownsRow_below {w w' : World} {base B : Nat} {e : TypeId} {size : Nat} {v : Value} {n : Nat} {xs : List Value} (h : w.ownsRow base e size v n xs) (hb : Below B w w') (hB : ∀ k, v.ownBlock = some k → k < B) : w'.ownsRow base e size v n xs := by
  refine ⟨h.1, h.2.imp id ?_⟩
  rintro ⟨g, cap, cur, rfl, h1, h2, h3⟩
  exact ⟨g, cap, cur, rfl, h1, (hb.block g (hB g rfl)).trans h2, h3⟩
theorem ownsRow_kept {w w' : World} {base : Nat} {e : TypeId} {size : Nat} {v : Value} {n : Nat} {xs : List Value} (h : w.ownsRow base e size v n xs) (hb : Below w.heap.size w w') : w'.ownsRow base e size v n xs :=
  ownsRow_below h hb fun k hk => (h.lt k hk).2

end Go.Proofs.Yteckeobhlfddlaa
