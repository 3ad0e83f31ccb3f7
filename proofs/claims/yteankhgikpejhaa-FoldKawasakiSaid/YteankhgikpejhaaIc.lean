/-
  The reference: the walk of 'creases'.
-/
import Derived.Test.YteankhgikpejhaaIa
namespace Go.Proofs.Yteankhgikpejhaa
open Go.RowKit Go.Sort

/-- A crease of the reference. -/
structure Rc where
  pos : Int
  s : Int
  t : Int
  right : Bool
def rcCells (l : List Rc) : List Value := l.flatMap fun f => [.int .i64 f.pos, .int .i64 f.s, .int .i64 f.t, .bool f.right]
theorem rcCells_append (l m : List Rc) : rcCells (l ++ m) = rcCells l ++ rcCells m := by simp [rcCells]
@[simp] theorem rcCells_length (l : List Rc) : (rcCells l).length = l.length * 4 := by
  induction l with
  | nil => rfl
  | cons f l ih => simp [rcCells] at ih ⊢; omega
theorem rcCells_at : ∀ (l : List Rc) (j : Nat) (h : j < l.length), (rcCells l)[j * 4]? = some (.int .i64 l[j].pos) ∧ (rcCells l)[j * 4 + 1]? = some (.int .i64 l[j].s) ∧ (rcCells l)[j * 4 + 2]? = some (.int .i64 l[j].t) ∧ (rcCells l)[j * 4 + 3]? = some (.bool l[j].right)
  | f :: l, 0, _ => by simp [rcCells]
  | f :: l, j + 1, h => by
    have := rcCells_at l j (by simpa using h)
    have e : ∀ i, (rcCells (f :: l))[(j + 1) * 4 + i]? = (rcCells l)[j * 4 + i]? := fun i => by
      show (([.int .i64 f.pos, .int .i64 f.s, .int .i64 f.t, .bool f.right] : List Value) ++ rcCells l)[(j + 1) * 4 + i]? = _
      rw [List.getElem?_append_right (by simp; omega)]
      simp; congr 1; omega
    have e0 := e 0
    simp only [Nat.add_zero] at e0
    rw [e0, e 1, e 2, e 3]
    simpa using this

theorem infoRc : (Try.prog.info? 84).map (fun i => (i.zero, i.size, i.bytes)) = some (some (.agg #[.int .i64 0, .int .i64 0, .int .i64 0, .bool false]), 4, 32) := by kernel_rfl

theorem wpList_app_rc {W : World} {ops : Array Oper} {rest : List Oper} {o : Oper} {a : Act} {Q : Exit → Act → World → Prop} (hgd : o.guard = none) (s x : Operand)
    (ho : o.op = .call { callee := .builtin .append, args := #[s, x], argTypes := #[81, 81] }) (base : Nat) (v : Value) (n : Nat) (xs : List Value) (hs : a.eval s = v) (f : Rc) (b : Nat)
    (hx : a.eval x = .slice (some ⟨b, 0, none⟩) 1 1) (hb : b = W.heap.size) (hown : W.ownsRow base 84 4 v n xs) (hn : n ≤ 1000000) (hbase : base ≤ W.heap.size)
    (h : ∀ (g cap : Nat) (w' : World), w'.ownsRow base 84 4 (.slice (some ⟨g, 0, none⟩) (n + 1) cap) (n + 1) (xs ++ [.int .i64 f.pos, .int .i64 f.s, .int .i64 f.t, .bool f.right]) → W.grownBy w' v.ownBlock → wpList Try.prog ops Q rest (a.put o.dst (.slice (some ⟨g, 0, none⟩) (n + 1) cap)) w') :
    wpList Try.prog ops Q (o :: rest) a (W.alloc (.cells #[.int .i64 f.pos, .int .i64 f.s, .int .i64 f.t, .bool f.right] 84)) := by
  obtain ⟨i0, hi, hz0, hz1, hz2⟩ := info_parts infoRc
  refine wpList_append_own_at _ hgd s x 81 ho base 84 i0 (.agg #[.int .i64 0, .int .i64 0, .int .i64 0, .bool false]) 4 32 Try.underlying81 hi hz0 hz1 hz2 rfl (by decide) v n xs hs (hown.alloc _) ⟨b, 0, none⟩ 1 1 [.int .i64 f.pos, .int .i64 f.s, .int .i64 f.t, .bool f.right] hx rfl (cells_new W [.int .i64 f.pos, .int .i64 f.s, .int .i64 f.t, .bool f.right] _ b hb) (by simp [Value.oneCell']) (by unfold maxLen; omega) (by omega) (by simp; omega) ?_
  intro v' w' hown' hg _ hat
  obtain ⟨g, cap, rfl⟩ := ownsRow_succ' hown'
  exact h g cap w' hown' (grown_alloc hg)

/-- The word of a loop that collects creases. -/
def CollR (w : World) (l : List Rc) (k : Nat) (v : Value) (wr : World) : Prop := Below w.heap.size w wr ∧ l.length = k ∧ ∃ g cap, v = .slice (some ⟨g, 0, none⟩) k cap ∧ wr.ownsRow w.heap.size 84 4 v k (rcCells l)
theorem CollR.next {w wr w2 : World} {l : List Rc} {k : Nat} {v : Value} {f : Rc} {g cap : Nat} (h : CollR w l k v wr) (hr : w2.ownsRow w.heap.size 84 4 (.slice (some ⟨g, 0, none⟩) (k + 1) cap) (k + 1) (rcCells l ++ [.int .i64 f.pos, .int .i64 f.s, .int .i64 f.t, .bool f.right])) (hg : wr.grownBy w2 v.ownBlock) : CollR w (l ++ [f]) (k + 1) (.slice (some ⟨g, 0, none⟩) (k + 1) cap) w2 := by
  obtain ⟨hb, hl, g0, c0, rfl, h0⟩ := h
  exact ⟨hb.grown hg hb.size (fun q hq => (h0.lt q hq).1), by simp [hl], g, cap, rfl, by rw [rcCells_append]; exact hr⟩
theorem CollR.owns {w wr : World} {l : List Rc} {k : Nat} {v : Value} (h : CollR w l k v wr) : wr.ownsRow w.heap.size 84 4 v k (rcCells l) := by
  obtain ⟨_, _, _, _, _, h0⟩ := h; exact h0
theorem CollR.grow {w wr w2 : World} {l : List Rc} {k : Nat} {v : Value} (h : CollR w l k v wr) (hb2 : Below wr.heap.size wr w2) : CollR w l k v w2 := by
  obtain ⟨hb, hl, g0, c0, rfl, h0⟩ := h
  exact ⟨hb.trans (hb2.mono hb.size), hl, g0, c0, rfl, ownsRow_kept h0 hb2⟩

/-- The crease before segment i of a strip. -/
def rcAt (zs : List Int) (i : Nat) : Rc := ⟨posAt zs (i + 1), (i : Int), (i : Int) + 1, decide (posAt zs (i + 1) < posAt zs (i + 1 + 1))⟩
def rcsOf (zs : List Int) (k : Nat) : List Rc := (List.range k).map (rcAt zs)
theorem posL_at (zs : List Int) (m k : Nat) (h : k < m) : (posL zs m)[k]?.getD 0 = posAt zs k := by simp [posL, h]

set_option maxRecDepth 100000 in
set_option maxHeartbeats 4000000 in
theorem creases_strip (a : Option Addr) (n cap : Nat) (zs : List Int) (w : World) (hn : zs.length = n) (h1 : 1 ≤ n) (h9 : n ≤ 9) (hs : sizesB zs = true) (hz : Ints w a zs) :
    Calls Try.prog 59 #[.slice a n cap, .bool false] w (Gives (fun v w' => ∃ wm, Below w.heap.size w wm ∧ CollR wm (rcsOf zs (n - 1)) (n - 1) v w') w) := by
  have hpl := Lib.hid (places_any a n cap zs w hn h9 hs hz)
  clear hz hn hs
  go_enter Try.func59, Try.ntmps59
  go_wp2_with (go_at_call 57; refine hpl.out.mono ?_; rintro e w1 ⟨v, rfl, hv, hb1⟩; obtain ⟨gp, cp, rfl, hI1⟩ := hv.ints; have H1 := Lib.hid (And.intro hI1 hb1); clear hv hI1 hb1)
  have hpn : Hid ((posL zs (n + 1)).length = n + 1) := Lib.hid (by simp [posL])
  rw [hpn.out]
  go_loopw [6, 7] (fun v i wr => ∃ k : Nat, k + 1 ≤ n ∧ i = .int .i64 ((k : Int) + 1) ∧ CollR w1 (rcsOf zs k) k v wr) (fun _ i _ => n - (intOf i).toNat)
  case atStart => exact ⟨0, by omega, rfl, (Below.refl _ _).alloc (Nat.le_refl _) _, rfl, w1.heap.size, 0, rfl, rfl, .inr ⟨w1.heap.size, 0, #[], rfl, Nat.le_refl _, heap_alloc_new w1 _, Nat.le_refl _, by unfold maxLen; omega, rfl, rfl⟩⟩
  case round =>
    obtain ⟨k, hk, rfl, hC⟩ := hrel
    by_cases hlt : k + 1 < n
    · have hJ := joined_int gp 0 cp (n + 1) k ((k : Int) + 1) (posL zs (n + 1)) wr hpn.out (by omega) (by omega) (by omega) (H1.out.1.below hC.1)
      rw [show ((k : Int) + 1).toNat = k + 1 by omega, posL_at zs (n + 1) (k + 1) (by omega), posL_at zs (n + 1) (k + 1 + 1) (by omega)] at hJ
      have HJ := Lib.hid hJ
      have HD : Hid (rcsOf zs (k + 1) = rcsOf zs k ++ [rcAt zs k]) := Lib.hid (by simp [rcsOf, List.range_succ])
      have HC := Lib.hid hC
      have hsz := hC.1.size
      clear hC hJ
      obtain ⟨_, _, g0, cp0, rfl, _⟩ := HC.out
      go_wp2_with (fail)
      refine HJ.out.mono ?_
      rintro e w3 ⟨rfl, hb3⟩
      have HC3 := Lib.hid (HC.out.grow hb3)
      have hsz3 := Nat.le_trans hsz hb3.size
      clear HC HJ hb3
      go_wp2_with (at_builtin; refine wpList_app_rc rfl (.tmp 26) (.tmp 32) rfl w1.heap.size _ _ _ rfl (rcAt zs k) _ rfl rfl HC3.out.owns (by omega) hsz3 ?_; intro g cpx w4 hr4 hg4; have H4 := Lib.hid (HC3.out.next hr4 hg4); clear hr4 hg4)
      go_roundw
      case rel => exact ⟨k + 1, by omega, by go_num, by rw [HD.out]; exact H4.out⟩
      case measure => simp [intOf]; omega
    · obtain rfl : n = k + 1 := by omega
      have HC := Lib.hid hC
      clear hC
      obtain ⟨_, _, g0, cp0, rfl, _⟩ := HC.out
      go_wp2
      go_ret
      exact ⟨_, rfl, ⟨w1, H1.out.2, HC.out⟩, H1.out.2.trans (HC.out.1.mono H1.out.2.size)⟩

end Go.Proofs.Yteankhgikpejhaa
