/-
  strap: 'normalProduct'.
-/
import Derived.Test.YtbcggbmjbljnfaaBi
namespace Go.Proofs.Ytbcggbmjbljnfaa
open Go.RowKit Go.Sort

/-! ### Pure: how long -/
theorem passN_len {f n : Nat} : ∀ {k : Nat} {ps qs : List (List Nat)}, passN f n k ps = some qs → qs.length = ps.length
  | 0, ps, qs, h => by simp only [passN] at h; cases h; rfl
  | k + 1, ps, qs, h => by
    unfold passN at h
    cases hs : setN n f (ps[k]?.getD []) (ps[k + 1]?.getD []) with
    | none => rw [hs] at h; cases h
    | some r => rw [hs] at h; have := passN_len h; simpa using this
theorem headN_len (n : Nat) : ∀ ps : List (List Nat), (headN n ps).1 + (headN n ps).2.length = ps.length
  | [] => rfl
  | p :: ps => by
    unfold headN
    have := headN_len n ps
    split
    · simp; omega
    · simp
theorem tailN_len (n : Nat) : ∀ (k : Nat) (ps : List (List Nat)), (tailN n k ps).length ≤ ps.length
  | 0, ps => Nat.le_refl _
  | k + 1, ps => by
    unfold tailN
    split
    · have := tailN_len n k (ps.take k); simp at this; omega
    · exact Nat.le_refl _
theorem folN_len {f n : Nat} {b r : Int × List (List Nat)} {s : List Nat} (h : folN f n b s = some r) : b.1 ≤ r.1 ∧ r.2.length ≤ b.2.length + 1 ∧ r.1 + r.2.length ≤ b.1 + b.2.length + 1 := by
  unfold folN at h
  cases hp : passN f n b.2.length (b.2 ++ [s]) with
  | none => rw [hp] at h; cases h
  | some qs =>
    rw [hp] at h
    cases h
    have h1 := passN_len hp
    have h2 := headN_len n qs
    have h3 := tailN_len n (headN n qs).2.length (headN n qs).2
    simp at h1
    refine ⟨?_, ?_, ?_⟩
    · simp only []; omega
    · simp only []; omega
    · simp only []; omega
/-- Factors, one after the other. -/
def prodTo (f n : Nat) : Int × List (List Nat) → List (List Nat) → Option (Int × List (List Nat))
  | r, [] => some r
  | r, s :: l => match folN f n r s with
    | none => none
    | some r' => prodTo f n r' l
def flips (n : Nat) (odd : Bool) (ps : List (List Nat)) : List (List Nat) := ps.map fun s => if odd then flipN n s else s
/-- The product of two normal forms. -/
def prodN (f n : Nat) (a b : Int × List (List Nat)) : Option (Int × List (List Nat)) := prodTo f n (a.1 + b.1, flips n (b.1.tmod 2 != 0) a.2) b.2
theorem flipN_in {n : Nat} {p : List Nat} (h : InN n p) : InN n (flipN n p) := thenN_in (thenN_in (halfN_in n) h) (halfN_in n)

theorem owns_set {w : World} {base : Nat} {e : TypeId} {v y : Value} {n H i : Nat} {xs : List Value} (h : w.ownsRow base e 1 v n xs) (hH : H < base) : (w.setCell ⟨H, i, none⟩ y).ownsRow base e 1 v n xs :=
  ⟨h.1, h.2.imp id fun ⟨g, cap, cur, e', hg, hr, r⟩ => ⟨g, cap, cur, e', hg, (RowKit.Below.heap_setCell w ⟨H, i, none⟩ y g (by simp; omega)).trans hr, r⟩⟩
theorem owns_fac {w : World} {base n : Nat} {v : Value} {vs : List Value} {ps : List (List Nat)} (h : w.ownsRow base 22 1 v ps.length vs) (hp : PV w n vs ps) : FacV w n v ps := by
  rcases h.2 with ⟨rfl, h0⟩ | ⟨g, cap, cur, rfl, _⟩
  · rw [List.eq_nil_of_length_eq_zero h0]
    exact FacV.nil w n
  · exact (WinV.of_owns h).2.fac hp
/-- A factor, read. -/
theorem FacV.at {w : World} {n m : Nat} {a : Option Addr} {c : Nat} {ps : List (List Nat)} (h : FacV w n (.slice a m c) ps) {i : Nat} (hi : i < ps.length) : ∃ b off, a = some ⟨b, off, none⟩ ∧ ∃ a' c', w.cell? ⟨b, off + i, none⟩ = some (.slice a' n c') ∧ InN n (ps[i]?.getD []) ∧ Nats w a' (ps[i]?.getD []) := by
  obtain ⟨a1, c1, vs, e, hp, hq⟩ := h
  cases e
  rcases hq with ⟨rfl, rfl, _⟩ | ⟨b, off, rfl, hc⟩
  · simp at hi
  · obtain ⟨hin, a', c', e', hz⟩ := hp.at i hi
    exact ⟨b, off, rfl, a', c', by rw [hc i hi, e'], hin, hz⟩

theorem box_cell0 {w : World} {H : Nat} {x u : Value} {T : TypeId} (h : w.heap[H]? = some (.cells #[x, u] T (0, 0))) : w.cell? ⟨H, 0, none⟩ = some x := by simp [World.cell?, h]
theorem box_cell1 {w : World} {H : Nat} {x u : Value} {T : TypeId} (h : w.heap[H]? = some (.cells #[x, u] T (0, 0))) : w.cell? ⟨H, 1, none⟩ = some u := by simp [World.cell?, h]
theorem Nats.grown {w w2 : World} {a : Option Addr} {p : List Nat} {row : Option Nat} (h : Nats w a p) (hg : w.grownBy w2 row) (ho : ∀ g, row = some g → Off g a) : Nats w2 a p := fun i hi => by
  obtain ⟨b, off, e, hc⟩ := h i hi
  refine ⟨b, off, e, ?_⟩
  have hlt := World.block_lt_of_cell? w _ hc
  have hk : w2.heap[b]? = w.heap[b]? := hg.block b hlt (fun e' => ho b e'.symm _ e rfl)
  unfold World.cell? at hc ⊢
  rw [hk]
  exact hc
theorem PV.grown {w w2 : World} {n : Nat} {row : Option Nat} (hg : w.grownBy w2 row) : ∀ {vs : List Value} {ps : List (List Nat)}, PV w n vs ps → (∀ g, row = some g → OffL g vs) → PV w2 n vs ps
  | [], [], _, _ => trivial
  | v :: _, _ :: _, h, ho => by
    obtain ⟨⟨hi, a, c, e, hz⟩, ht⟩ := h
    exact ⟨⟨hi, a, c, e, hz.grown hg (fun g hr => ho g hr v (by simp) _ _ _ e)⟩, PV.grown hg ht (fun g hr u hu => ho g hr u (by simp [hu]))⟩
theorem wpList_app_rows2 {W : World} {ops : Array Oper} {rest : List Oper} {o : Oper} {a : Act} {Q : Exit → Act → World → Prop} (hgd : o.guard = none) (s x : Operand)
    (ho : o.op = .call { callee := .builtin .append, args := #[s, x], argTypes := #[35, 35] }) (base : Nat) (v : Value) (n : Nat) (xs : List Value) (hs : a.eval s = v) (ad : Addr) (m c : Nat) (us : List Value)
    (hx : a.eval x = .slice (some ad) m c) (hl : us.length = m) (hc : ∀ j u, us[j]? = some u → W.cell? (ad.add j) = some u) (h1 : ∀ u ∈ us, u.oneCell' = true) (hown : W.ownsRow base 22 1 v n xs) (hm : 0 < m) (r : Nat) (hr : n + m = r) (hn : r ≤ 1000000) (hbase : base ≤ W.heap.size)
    (h : ∀ (g c' : Nat) (w' : World), w'.ownsRow base 22 1 (.slice (some ⟨g, 0, none⟩) r c') r (xs ++ us) → W.grownBy w' v.ownBlock → (some g = v.ownBlock ∨ g = W.heap.size) → wpList Try.prog ops Q rest (a.put o.dst (.slice (some ⟨g, 0, none⟩) r c')) w') :
    wpList Try.prog ops Q (o :: rest) a W := by
  obtain ⟨i0, hi, hz0, hz1, hz2⟩ := info_parts infoRow
  subst hr
  refine wpList_append_own_at _ hgd s x 35 ho base 22 i0 (.slice none 0 0) 1 24 Try.underlying35 hi hz0 hz1 hz2 rfl (by decide) v n xs hs hown ad m c us hx (by omega) hc h1 (by unfold maxLen; omega) (by omega) hbase ?_
  intro v' w' hown' hg hnil hat
  rcases hown'.2 with ⟨e, _⟩ | ⟨g, c', cur, e, _⟩
  · have := hnil.1 e
    omega
  · subst e
    exact h g c' w' hown' hg (by simpa [Value.ownBlock] using hat)

/-- What the first loop holds: the factors so far, in a row of the call's own, and the box that points to it. -/
def Pro (w0 : World) (B n H : Nat) (pw : Int) (ps : List (List Nat)) (k : Nat) (a : Option Addr) (c : Nat) (vs : List Value) (wr : World) : Prop := Below B w0 wr ∧ wr.heap[H]? = some (.cells #[.int .i64 pw, .slice a k c] 37 (0, 0)) ∧ wr.ownsRow (H + 1) 22 1 (.slice a k c) k vs ∧ PV wr n vs ps ∧ (∀ g, (Value.slice a k c).ownBlock = some g → OffL g vs) ∧ ps.length = k
theorem Pro.below {w0 : World} {B n H k c : Nat} {pw : Int} {ps : List (List Nat)} {a : Option Addr} {vs : List Value} {wr w' : World} (h : Pro w0 B n H pw ps k a c vs wr) (hB : B ≤ w0.heap.size) (hb : Below wr.heap.size wr w') : Pro w0 B n H pw ps k a c vs w' := by
  obtain ⟨h1, h2, h3, h4, h5, h6⟩ := h
  have := h1.size
  exact ⟨h1.trans (hb.mono (by omega)), (hb.block H (Array.getElem?_eq_some_iff.1 h2).1).trans h2, ownsRow_kept h3 hb, h4.below hb, h5, h6⟩
theorem Pro.push {w0 wx w2 : World} {B n H k c c' c2 gN : Nat} {pw : Int} {ps : List (List Nat)} {q : List Nat} {a a' : Option Addr} {vs : List Value} {o : Obj} (h : Pro w0 B n H pw ps k a c vs wx) (h1 : 2 ≤ n) (hBH : B ≤ H)
    (hr2 : w2.ownsRow (H + 1) 22 1 (.slice (some ⟨gN, 0, none⟩) (k + 1) c2) (k + 1) (vs ++ [.slice a' n c'])) (hg2 : (wx.alloc o).grownBy w2 (Value.slice a k c).ownBlock) (hat : some gN = (Value.slice a k c).ownBlock ∨ gN = (wx.alloc o).heap.size)
    (hin : InN n q) (hz : Nats wx a' q) (hoff : ∀ g, (Value.slice a k c).ownBlock = some g → Off g a') :
    w2.heap[H]? = some (.cells #[.int .i64 pw, .slice a k c] 37 (0, 0)) ∧ Pro w0 B n H pw (ps ++ [q]) (k + 1) (some ⟨gN, 0, none⟩) c2 (vs ++ [.slice a' n c']) (w2.setCell ⟨H, 1, none⟩ (.slice (some ⟨gN, 0, none⟩) (k + 1) c2)) := by
  obtain ⟨p1, p2, p3, p4, p5, p6⟩ := h
  have hHx : H < wx.heap.size := (Array.getElem?_eq_some_iff.1 p2).1
  have hge : ∀ g, (Value.slice a k c).ownBlock = some g → H + 1 ≤ g := fun g hg => (p3.lt g hg).1
  have hbw : Below (H + 1) wx w2 := ((Below.refl _ wx).alloc (by omega) o).grown hg2 (by simp; omega) (fun g hg => hge g hg)
  have hrow : w2.heap[H]? = some (.cells #[.int .i64 pw, .slice a k c] 37 (0, 0)) := (hbw.block H (by omega)).trans p2
  have hba : Below wx.heap.size wx (wx.alloc o) := (Below.refl _ wx).alloc (Nat.le_refl _) o
  have hpv : PV w2 n (vs ++ [.slice a' n c']) (ps ++ [q]) := PV.append ((p4.below hba).grown hg2 p5) (by show PV w2 n [.slice a' n c'] [q]; exact ⟨⟨hin, a', c', rfl, (hz.below hba).grown hg2 hoff⟩, trivial⟩)
  have hoN : OffL gN (vs ++ [.slice a' n c']) := by
    intro u hu x m d e
    have hor : OffL gN vs ∧ Off gN a' := by
      rcases hat with hat | hat
      · exact ⟨p5 gN hat.symm, hoff gN hat.symm⟩
      · have hle : wx.heap.size ≤ gN := by rw [hat]; simp
        exact ⟨p4.off (by omega) hle, hz.off hin.1 (by omega) hle⟩
    rcases List.mem_append.1 hu with hu | hu
    · exact hor.1 u hu _ _ _ e
    · obtain rfl : u = .slice a' n c' := by simpa using hu
      cases e
      exact hor.2
  refine ⟨hrow, ?_, heap_setCell_self (i := 1) hrow _, owns_set hr2 (by omega), hpv.setCell (PV.offBox' h1 hrow (fun z e => by cases e) hpv), ?_, by simp [p6]⟩
  · exact (p1.trans (hbw.mono (by omega))).setCell (p := ⟨H, 1, none⟩) hBH _
  · intro g hg
    cases hg
    exact hoN

end Go.Proofs.Ytbcggbmjbljnfaa
