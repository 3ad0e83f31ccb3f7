/-
  strap: rows of rows (the factors of a normal form): windows, slices.Clone, append of one.
-/
import Derived.Test.YtbcggbmjbljnfaaBf
namespace Go.Proofs.Ytbcggbmjbljnfaa
open Go.RowKit Go.Sort

theorem infoRow : (Try.prog.info? 22).map (fun i => (i.zero, i.size, i.bytes)) = some (some (.slice none 0 0), 1, 24) := by kernel_rfl
/-- Slices of numbers, as values. -/
def PV (w : World) (n : Nat) : List Value → List (List Nat) → Prop
  | [], [] => True
  | v :: vs, p :: ps => (InN n p ∧ ∃ a c, v = .slice a n c ∧ Nats w a p) ∧ PV w n vs ps
  | _, _ => False
theorem PV.len {w : World} {n : Nat} : ∀ {vs : List Value} {ps : List (List Nat)}, PV w n vs ps → vs.length = ps.length
  | [], [], _ => rfl
  | _ :: _, _ :: _, h => by simp [PV.len h.2]
theorem PV.below {w w' : World} {n : Nat} (hb : Below w.heap.size w w') : ∀ {vs : List Value} {ps : List (List Nat)}, PV w n vs ps → PV w' n vs ps
  | [], [], _ => trivial
  | _ :: _, _ :: _, h => by
    obtain ⟨⟨hi, a, c, e, hz⟩, ht⟩ := h
    exact ⟨⟨hi, a, c, e, hz.below hb⟩, PV.below hb ht⟩
theorem PV.append {w : World} {n : Nat} : ∀ {vs us : List Value} {ps qs : List (List Nat)}, PV w n vs ps → PV w n us qs → PV w n (vs ++ us) (ps ++ qs)
  | [], _, [], _, _, k => k
  | _ :: _, _, _ :: _, _, h, k => ⟨h.1, PV.append h.2 k⟩
theorem PV.take {w : World} {n : Nat} : ∀ {vs : List Value} {ps : List (List Nat)} (k : Nat), PV w n vs ps → PV w n (vs.take k) (ps.take k)
  | [], [], k, _ => by simp [PV]
  | _ :: _, _ :: _, 0, _ => trivial
  | _ :: _, _ :: _, k + 1, h => ⟨h.1, PV.take k h.2⟩
theorem PV.drop {w : World} {n : Nat} : ∀ {vs : List Value} {ps : List (List Nat)} (k : Nat), PV w n vs ps → PV w n (vs.drop k) (ps.drop k)
  | [], [], k, _ => by simp [PV]
  | _ :: _, _ :: _, 0, h => h
  | _ :: _, _ :: _, k + 1, h => PV.drop k h.2
theorem PV.at {w : World} {n : Nat} : ∀ {vs : List Value} {ps : List (List Nat)} (i : Nat), i < ps.length → PV w n vs ps → InN n (ps[i]?.getD []) ∧ ∃ a c, vs[i]?.getD undef = .slice a n c ∧ Nats w a (ps[i]?.getD [])
  | [], [], i, hi, _ => by simp at hi
  | _ :: _, _ :: _, 0, _, h => h.1
  | _ :: _, _ :: _, i + 1, hi, h => by simpa using PV.at i (by simpa using hi) h.2
theorem PV.set {w : World} {n : Nat} {v : Value} {p : List Nat} (hv : InN n p ∧ ∃ a c, v = .slice a n c ∧ Nats w a p) : ∀ {vs : List Value} {ps : List (List Nat)} (i : Nat), PV w n vs ps → PV w n (vs.set i v) (ps.set i p)
  | [], [], i, _ => by simp [PV]
  | _ :: _, _ :: _, 0, h => ⟨hv, h.2⟩
  | _ :: _, _ :: _, i + 1, h => ⟨h.1, PV.set hv i h.2⟩
theorem PV.one {w : World} {n : Nat} : ∀ {vs : List Value} {ps : List (List Nat)}, PV w n vs ps → ∀ v ∈ vs, v.oneCell' = true
  | [], [], _, v, hv => by simp at hv
  | _ :: _, _ :: _, h, v, hv => by
    rcases List.mem_cons.1 hv with rfl | hv
    · obtain ⟨_, a, c, rfl, _⟩ := h.1; rfl
    · exact PV.one h.2 v hv

/-- A window of a row of values. -/
structure WinV (w : World) (g o n cap : Nat) (vs : List Value) : Prop where
  len : vs.length = n
  le : n ≤ cap
  row : ∃ F R : List Value, F.length = o ∧ cap ≤ n + R.length ∧ w.heap[g]? = some (.cells (F ++ (vs ++ R)).toArray 22 (0, 0))
theorem WinV.lt {w : World} {g o n cap : Nat} {vs : List Value} (h : WinV w g o n cap vs) : g < w.heap.size := by
  obtain ⟨F, R, _, _, hr⟩ := h.row
  exact (Array.getElem?_eq_some_iff.1 hr).1
theorem WinV.cap_le {w : World} {g o n cap : Nat} {vs : List Value} (h : WinV w g o n cap vs) : n ≤ cap := h.le
theorem WinV.cell {w : World} {g o n cap : Nat} {vs : List Value} (h : WinV w g o n cap vs) (i : Nat) (hi : i < n) : w.cell? ⟨g, o + i, none⟩ = some (vs[i]?.getD undef) := by
  obtain ⟨F, R, hF, hc, hr⟩ := h.row
  have hl := h.len
  simp only [World.cell?, hr]
  rw [List.getElem?_toArray, ← hF, List.getElem?_append_right (by omega), Nat.add_sub_cancel_left, List.getElem?_append_left (by omega), List.getElem?_eq_getElem (by omega)]
  rfl
theorem WinV.free {w : World} {g o n cap : Nat} {vs : List Value} (h : WinV w g o n cap vs) (j : Nat) : w.frozen? ⟨g, j, none⟩ = false := by
  obtain ⟨F, R, _, _, hr⟩ := h.row
  exact row_free hr j
theorem WinV.put {w : World} {g o n cap : Nat} {vs : List Value} (h : WinV w g o n cap vs) (i : Nat) (hi : i < n) (v : Value) : WinV (w.setCell ⟨g, o + i, none⟩ v) g o n cap (vs.set i v) := by
  obtain ⟨F, R, hF, hc, hr⟩ := h.row
  have hl := h.len
  refine ⟨by rw [List.length_set]; exact hl, h.le, F, R, hF, hc, ?_⟩
  rw [heap_setCell_self hr, List.setIfInBounds_toArray, ← hF, List.set_append_right _ _ (by omega), Nat.add_sub_cancel_left, List.set_append_left _ _ (by omega)]
theorem WinV.first {w : World} {g o n cap : Nat} {vs : List Value} (h : WinV w g o (n + 1) cap vs) : WinV w g (o + 1) n (cap - 1) (vs.drop 1) := by
  obtain ⟨F, R, hF, hc, hr⟩ := h.row
  have hl := h.len
  obtain ⟨a, t, rfl⟩ : ∃ a t, vs = a :: t := List.exists_cons_of_length_pos (by omega)
  refine ⟨by simp at hl ⊢; omega, by have := h.le; omega, F ++ [a], R, by simp [hF], by omega, ?_⟩
  rw [hr]; simp
/-- The address does not move where no room is left behind it. -/
theorem WinV.spent {w : World} {g o n cap : Nat} {vs : List Value} (h : WinV w g o n cap vs) : WinV w g o 0 0 [] := by
  obtain ⟨F, R, hF, hc, hr⟩ := h.row
  exact ⟨rfl, Nat.le_refl _, F, vs ++ R, hF, by omega, by simpa using hr⟩
theorem WinV.last {w : World} {g o n cap : Nat} {vs : List Value} (h : WinV w g o (n + 1) cap vs) : WinV w g o n cap (vs.take n) := by
  obtain ⟨F, R, hF, hc, hr⟩ := h.row
  have hl := h.len
  refine ⟨by simp; omega, by have := h.le; omega, F, vs.drop n ++ R, hF, by simp; omega, ?_⟩
  rw [hr, ← List.append_assoc (vs.take n), List.take_append_drop]
theorem WinV.below {w w' : World} {g o n cap : Nat} {vs : List Value} (h : WinV w g o n cap vs) (hb : Below w.heap.size w w') : WinV w' g o n cap vs := by
  have hlt := h.lt
  obtain ⟨F, R, hF, hc, hr⟩ := h.row
  exact ⟨h.len, h.le, F, R, hF, hc, (hb.block g hlt).trans hr⟩
theorem WinV.of_owns {w : World} {base g n cap : Nat} {vs : List Value} (h : w.ownsRow base 22 1 (.slice (some ⟨g, 0, none⟩) n cap) n vs) : base ≤ g ∧ WinV w g 0 n cap vs := by
  have hl : vs.length = n := by simpa using h.1
  rcases h.2 with ⟨e, _⟩ | ⟨g', cap', cur, e, hg, hr, h1, _, hs, ht⟩
  · cases e
  · cases e
    rw [Nat.mul_one] at hs ht
    refine ⟨hg, hl, h1, [], cur.toList.drop n, rfl, by simp; omega, ?_⟩
    rw [List.nil_append, ← ht, List.take_append_drop]
    exact hr

/-- 'append(v, x...)' of rows: v lies in memory of the call's own, or is nil. -/
theorem wpList_app_rows {W : World} {ops : Array Oper} {rest : List Oper} {o : Oper} {a : Act} {Q : Exit → Act → World → Prop} (hgd : o.guard = none) (s x : Operand)
    (ho : o.op = .call { callee := .builtin .append, args := #[s, x], argTypes := #[35, 35] }) (base : Nat) (v : Value) (n : Nat) (xs : List Value) (hs : a.eval s = v) (ad : Addr) (m c : Nat) (us : List Value)
    (hx : a.eval x = .slice (some ad) m c) (hl : us.length = m) (hc : ∀ j u, us[j]? = some u → W.cell? (ad.add j) = some u) (h1 : ∀ u ∈ us, u.oneCell' = true) (hown : W.ownsRow base 22 1 v n xs) (hnn : v ≠ .slice none 0 0 ∨ 0 < m) (r : Nat) (hr : n + m = r) (hn : r ≤ 1000000) (hbase : base ≤ W.heap.size)
    (h : ∀ (g c' : Nat) (w' : World), w'.ownsRow base 22 1 (.slice (some ⟨g, 0, none⟩) r c') r (xs ++ us) → W.grownBy w' v.ownBlock → wpList Try.prog ops Q rest (a.put o.dst (.slice (some ⟨g, 0, none⟩) r c')) w') :
    wpList Try.prog ops Q (o :: rest) a W := by
  obtain ⟨i0, hi, hz0, hz1, hz2⟩ := info_parts infoRow
  subst hr
  refine wpList_append_own_at _ hgd s x 35 ho base 22 i0 (.slice none 0 0) 1 24 Try.underlying35 hi hz0 hz1 hz2 rfl (by decide) v n xs hs hown ad m c us hx (by omega) hc h1 (by unfold maxLen; omega) (by omega) hbase ?_
  intro v' w' hown' hg hnil _
  rcases hown'.2 with ⟨e, _⟩ | ⟨g, c', cur, e, _⟩
  · have := hnil.1 e
    rcases hnn with h | h
    · exact absurd this.1 h
    · omega
  · subst e
    exact h g c' w' hown' hg

/-- A row of rows, handed back in memory of its own. -/
def GivesR (vs : List Value) (w : World) (e : Ending) (w' : World) : Prop := ∃ v, e = .returned v ∧ w'.ownsRow w.heap.size 22 1 v vs.length vs ∧ Below w.heap.size w w'
theorem eqNil (w : World) (a : Option Addr) (n c : Nat) : (binOp .eql 35 (.slice a n c) (.slice none 0 0)).run Try.prog w = .ok (.bool a.isNone) w := Lib.run_eql_slice_nil w _ _ a n c 0 0 Try.underlying35
set_option maxRecDepth 100000 in
theorem cloneR_nil (w : World) : Calls Try.prog 120 #[.slice none 0 0] w (GivesR [] w) := by
  have q0 := eqNil
  go_enter Try.func120, Try.ntmps120
  go_wp2
  go_ret
  exact ⟨_, rfl, ⟨rfl, .inl ⟨rfl, rfl⟩⟩, Below.refl _ _⟩
theorem owns_empty0 (W : World) : (W.alloc (.cells #[] 22)).ownsRow W.heap.size 22 1 (.slice (some ⟨W.heap.size, 0, none⟩) 0 0) 0 [] :=
  ⟨rfl, .inr ⟨W.heap.size, 0, #[], rfl, Nat.le_refl _, heap_alloc_new W _, Nat.le_refl _, by unfold maxLen; omega, rfl, rfl⟩⟩
set_option maxRecDepth 100000 in
theorem cloneR_any (b off n cap : Nat) (vs : List Value) (w : World) (hl : vs.length = n) (hn : n ≤ 1000) (hc : ∀ i, i < n → w.cell? ⟨b, off + i, none⟩ = some (vs[i]?.getD undef)) (h1 : ∀ u ∈ vs, u.oneCell' = true) :
    Calls Try.prog 120 #[.slice (some ⟨b, off, none⟩) n cap] w (GivesR vs w) := by
  have HL := Lib.hid hl
  have HC : Hid (∀ j u, vs[j]? = some u → (w.alloc (.cells #[] 22)).cell? ((⟨b, off, none⟩ : Addr).add j) = some u) := Lib.hid (fun j u hj => by
    obtain ⟨hjl, rfl⟩ := List.getElem?_eq_some_iff.1 hj
    have hadd : (⟨b, off, none⟩ : Addr).add j = ⟨b, off + j, none⟩ := by unfold Addr.add; split <;> simp_all
    have h := hc j (by omega)
    rw [List.getElem?_eq_getElem hjl, Option.getD_some] at h
    rw [hadd, ((Below.refl _ w).alloc (Nat.le_refl _) (.cells #[] 22)).cell (p := ⟨b, off + j, none⟩) (World.block_lt_of_cell? w _ h)]
    exact h)
  have H1 := Lib.hid h1
  clear hc h1 hl
  have q0 := eqNil
  go_enter Try.func120, Try.ntmps120
  go_wp2_with (at_builtin; refine wpList_app_rows rfl (.tmp 5) (.tmp 6) rfl w.heap.size _ 0 [] rfl ⟨b, off, none⟩ n cap vs rfl HL.out HC.out H1.out (owns_empty0 w) (.inl (fun e => by cases e)) n (by omega) (by omega) (by simp) ?_; intro g5 c5 w5 hr5 hg5; have H5 := Lib.hid (And.intro hr5 hg5); clear hr5 hg5)
  go_ret
  refine ⟨_, rfl, by rw [HL.out]; exact H5.out.1, ?_⟩
  exact ((Below.refl _ w).alloc (Nat.le_refl _) (.cells #[] 22)).grown H5.out.2 (by simp) (fun k hk => by cases hk; exact Nat.le_refl _)

end Go.Proofs.Ytbcggbmjbljnfaa
