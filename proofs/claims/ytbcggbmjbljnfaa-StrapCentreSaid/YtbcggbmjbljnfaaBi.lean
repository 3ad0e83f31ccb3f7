/-
  strap: a box that holds a braid; 'normalLetter'.
-/
import Derived.Test.YtbcggbmjbljnfaaBh
namespace Go.Proofs.Ytbcggbmjbljnfaa
open Go.RowKit Go.Sort

theorem Nats.offBox' {w : World} {a : Option Addr} {p : List Nat} {H : Nat} {x : Int} {u : Value} {T : TypeId} (h : Nats w a p) (hl : 2 ≤ p.length) (hb : w.heap[H]? = some (.cells #[.int .i64 x, u] T (0, 0))) (hu : ∀ z, u ≠ .int .i64 z) : Off H a := fun y e hy => by
  obtain ⟨b, off, e1, c0⟩ := h 0 (by omega)
  obtain ⟨b', off', e1', c1⟩ := h 1 (by omega)
  rw [e] at e1 e1'
  cases e1
  cases e1'
  simp only [] at hy
  subst hy
  match off with
  | 0 => simp [World.cell?, hb] at c1; exact hu _ c1
  | o + 1 => simp [World.cell?, hb] at c1
theorem PV.offBox' {w : World} {n H : Nat} {x : Int} {u : Value} {T : TypeId} (h1 : 2 ≤ n) (hb : w.heap[H]? = some (.cells #[.int .i64 x, u] T (0, 0))) (hu : ∀ z, u ≠ .int .i64 z) : ∀ {vs : List Value} {ps : List (List Nat)}, PV w n vs ps → OffL H vs
  | [], [], _ => fun v hv => by simp at hv
  | _ :: _, _ :: _, h => fun v hv a m c e => by
    rcases List.mem_cons.1 hv with rfl | hv
    · obtain ⟨hi, a', c', e', hz⟩ := h.1
      rw [e'] at e
      cases e
      exact hz.offBox' (by rw [hi.1]; exact h1) hb hu
    · exact PV.offBox' h1 hb hu h.2 v hv a m c e
theorem FacV.notInt {w : World} {n : Nat} {v : Value} {ps : List (List Nat)} (h : FacV w n v ps) : ∀ z, v ≠ .int .i64 z := by
  obtain ⟨a, c, vs, rfl, _⟩ := h
  intro z e; cases e
theorem FacV.offBlock {w : World} {n H b off c : Nat} {x : Int} {u : Value} {T : TypeId} {ps qs : List (List Nat)} {vs : List Value} (h1 : 2 ≤ n) (hb : w.heap[H]? = some (.cells #[.int .i64 x, u] T (0, 0))) (hu : FacV w n u qs)
    (hp : PV w n vs ps) (hl : 0 < ps.length) (hc : ∀ i, i < ps.length → w.cell? ⟨b, off + i, none⟩ = some (vs[i]?.getD undef)) : b ≠ H := fun e => by
  subst e
  have c0 := hc 0 hl
  obtain ⟨hi, a', c', e', hz⟩ := hp.at 0 hl
  rw [e'] at c0
  match off with
  | 0 => simp [World.cell?, hb] at c0
  | 1 =>
    simp [World.cell?, hb] at c0
    subst c0
    obtain ⟨a2, c2, us, e2, hp2, hq⟩ := hu
    cases e2
    rcases hq with ⟨rfl, rfl, _⟩ | ⟨b2, off2, rfl, hc2⟩
    · simp at h1
    · obtain ⟨b3, off3, e3, c3⟩ := hz 0 (by rw [hi.1]; omega)
      cases e3
      have c4 := hc2 0 (by omega)
      obtain ⟨_, a5, c5, e5, _⟩ := hp2.at 0 (by omega)
      rw [c3, e5] at c4
      cases c4
  | o + 2 => simp [World.cell?, hb] at c0
theorem cell_other {w : World} {H i b k : Nat} {y : Value} (h : b ≠ H) : (w.setCell ⟨H, i, none⟩ y).cell? ⟨b, k, none⟩ = w.cell? ⟨b, k, none⟩ := by
  have hk : (w.setCell ⟨H, i, none⟩ y).heap[b]? = w.heap[b]? := RowKit.Below.heap_setCell _ _ _ _ (by exact h)
  simp [World.cell?, hk]
theorem FacV.setBox {w : World} {n H i : Nat} {x : Int} {u v y : Value} {T : TypeId} {ps qs : List (List Nat)} (h1 : 2 ≤ n) (hb : w.heap[H]? = some (.cells #[.int .i64 x, u] T (0, 0))) (hu : FacV w n u qs) (hv : FacV w n v ps) : FacV (w.setCell ⟨H, i, none⟩ y) n v ps := by
  have hni := hu.notInt
  obtain ⟨a, c, vs, rfl, hp, hq⟩ := hv
  refine ⟨a, c, vs, rfl, hp.setCell (PV.offBox' h1 hb hni hp), hq.imp id ?_⟩
  rintro ⟨b, off, rfl, hc⟩
  refine ⟨b, off, rfl, fun j hj => ?_⟩
  rw [cell_other (FacV.offBlock (c := c) h1 hb hu hp (by omega) hc)]
  exact hc j hj
/-- A box that holds a braid. -/
def BrBox (w : World) (n H : Nat) (pw : Int) (ps : List (List Nat)) : Prop := ∃ fv, w.heap[H]? = some (.cells #[.int .i64 pw, fv] 37 (0, 0)) ∧ FacV w n fv ps
theorem BrBox.below {w w' : World} {n H : Nat} {pw : Int} {ps : List (List Nat)} (h : BrBox w n H pw ps) (hb : Below w.heap.size w w') : BrBox w' n H pw ps := by
  obtain ⟨fv, e, hf⟩ := h
  exact ⟨fv, (hb.block H (Array.getElem?_eq_some_iff.1 e).1).trans e, hf.below hb⟩
theorem BrBox.put {w : World} {n H : Nat} {pw pw' : Int} {v : Value} {ps qs : List (List Nat)} (h1 : 2 ≤ n) (h : BrBox w n H pw ps) (hv : FacV w n v qs) : BrBox ((w.setCell ⟨H, 0, none⟩ (.int .i64 pw')).setCell ⟨H, 1, none⟩ v) n H pw' qs := by
  obtain ⟨fv, e, hf⟩ := h
  have e2 := heap_setCell_self (i := 0) e (.int .i64 pw')
  have hf2 := FacV.setBox (i := 0) (y := .int .i64 pw') h1 e hf hf
  have hv2 := FacV.setBox (i := 0) (y := .int .i64 pw') h1 e hf hv
  exact ⟨v, heap_setCell_self (i := 1) e2 v, FacV.setBox h1 e2 hf2 hv2⟩
theorem FacV.nil (w : World) (n : Nat) : FacV w n (.slice none 0 0) [] := ⟨none, 0, [], rfl, trivial, .inl ⟨rfl, rfl, rfl⟩⟩

/-- 'followed', and its result. -/
def folN (f n : Nat) (b : Int × List (List Nat)) (s : List Nat) : Option (Int × List (List Nat)) := match passN f n b.2.length (b.2 ++ [s]) with
  | none => none
  | some qs => some (b.1 + ((headN n qs).1 : Nat), tailN n (headN n qs).2.length (headN n qs).2)
theorem folR (n f sc : Nat) (sa : Option Addr) (b r : Int × List (List Nat)) (v : Value) (s : List Nat) (w : World) (h1 : 2 ≤ n) (hn : n ≤ 100) (hm : b.2.length ≤ 100) (hpw : -1000 ≤ b.1 ∧ b.1 ≤ 1000) (hF : BrV w n v b.1 b.2) (hs : InN n s) (hz : Nats w sa s) (hq : folN f n b s = some r) :
    Calls Try.prog 106 #[v, .slice sa n sc] w (GivesB n r.1 r.2 w) := by
  obtain ⟨fv, rfl, hF⟩ := hF
  unfold folN at hq
  cases hp : passN f n b.2.length (b.2 ++ [s]) with
  | none => rw [hp] at hq; cases hq
  | some qs =>
    rw [hp] at hq
    cases hq
    exact followed_any n f sc sa b.1 fv b.2 qs s w h1 hn hm hpw hF hs hz hp (headN n qs).1 (headN n qs).2 _ rfl rfl
/-- The normal form of a letter. -/
def letN (f n : Nat) (z : Int) : Option (Int × List (List Nat)) := if 0 < z then folN f n (0, []) (exchN n z.natAbs) else folN f n (-1, []) (thenN (halfN n) (exchN n z.natAbs))

set_option maxRecDepth 100000 in
set_option maxHeartbeats 4000000 in
theorem letter_any (n f : Nat) (z : Int) (r : Int × List (List Nat)) (w : World) (h1 : 2 ≤ n) (hn : n ≤ 100) (hz0 : z ≠ 0) (hz1 : -(n : Int) < z) (hz2 : z < n) (hq : letN f n z = some r) :
    Calls Try.prog 86 #[.int .i64 (n : Int), .int .i64 z] w (GivesB n r.1 r.2 w) := by
  have HEX := Lib.hid (fun wx => exchange_any n z.natAbs z wx (by omega) (by omega) (by omega) (by omega))
  have HEI := Lib.hid (exchN_in (n := n) (k := z.natAbs) (by omega) (by omega))
  have HHT := Lib.hid (fun wx => halfTwist_any n wx (by omega) (by omega))
  have hh := halfN_in n
  unfold GivesP at HEX HHT
  rw [HEI.out.1] at HEX
  rw [hh.1] at HHT
  obtain ⟨ex, hex⟩ : ∃ ex, exchN n z.natAbs = ex := ⟨_, rfl⟩
  obtain ⟨ht, hht⟩ : ∃ ht, halfN n = ht := ⟨_, rfl⟩
  unfold letN at hq
  rw [hex, hht] at hq
  rw [hex] at HEX HEI
  rw [hht] at HHT hh
  have HH := Lib.hid hh
  obtain ⟨w0, hw0⟩ : ∃ w0, w.alloc (.cells #[.int .i64 0, .slice none 0 0] 37) = w0 := ⟨_, rfl⟩
  have H0 : Hid (Below w.heap.size w w0 ∧ BrBox w0 n w.heap.size 0 [] ∧ w.alloc (.cells #[.int .i64 0, .slice none 0 0] 37) = w0) := Lib.hid (by
    refine ⟨?_, ?_, hw0⟩
    · rw [← hw0]; exact (Below.refl _ w).alloc (Nat.le_refl _) _
    · rw [← hw0]; exact ⟨_, heap_alloc_new w _, FacV.nil _ _⟩)
  have hs0 : w0.heap.size = w.heap.size + 1 := by rw [← hw0]; simp
  clear hh hw0 hex hht
  by_cases hz : 0 < z
  · rw [if_pos hz] at hq
    have HF := Lib.hid (fun (g8 : Nat) (wx : World) (hx : Nats wx (some ⟨g8, 0, none⟩) ex) => folR n f n (some ⟨g8, 0, none⟩) (0, []) r (.agg #[.int .i64 0, .slice none 0 0]) ex wx h1 hn (by simp) (by simp) ⟨_, rfl, FacV.nil _ _⟩ HEI.out hx hq)
    clear hq
    go_enter Try.func86, Try.ntmps86
    go_wp2_with (fail)
    rw [H0.out.2.2]
    refine (HEX.out w0).mono ?_
    rintro e w2 ⟨g8, rfl, _, hr8, hb2⟩
    have H2 := Lib.hid (And.intro hr8 hb2)
    clear hr8 hb2
    go_wp2_with (fail)
    refine (HF.out g8 w2 H2.out.1.nats).mono ?_
    rintro e w3 ⟨v, rfl, ⟨fv, rfl, hf⟩, hb3⟩
    have hbx := (H0.out.2.1.below H2.out.2).below hb3
    have hbw := H0.out.1.trans ((H2.out.2.trans (hb3.mono H2.out.2.size)).mono H0.out.1.size)
    have H3 := Lib.hid (And.intro hbw (hbx.put (pw' := r.1) h1 hf))
    obtain ⟨fx, hbl, ax, cx, vx, rfl, _⟩ := hbx
    obtain ⟨af, cf, vf, rfl, _⟩ := hf
    have k0 : w3.cell? ⟨w.heap.size, 0, none⟩ = some (.int .i64 0) := by simp [World.cell?, hbl]
    have k1 : w3.cell? ⟨w.heap.size, 1, none⟩ = some (.slice ax 0 cx) := by simp [World.cell?, hbl]
    have f0 := row_free hbl 0
    have f1 := row_free hbl 1
    clear hbl hb3 hbw
    go_wp2_with (fail)
    obtain ⟨hbw, fy, hby, hfy⟩ := H3.out
    refine bodyPost_ret_by (results_cell_row (P := Try.prog) rfl _ _ w.heap.size 37 #[.int .i64 r.1, fy] (0, 0) _ rfl hby Try.underlying37 rfl (by kernel_rfl)) rfl ?_
    exact ⟨_, rfl, ⟨_, rfl, hfy⟩, (hbw.setCell (p := ⟨w.heap.size, 0, none⟩) (by simp) _).setCell (p := ⟨w.heap.size, 1, none⟩) (by simp) _⟩
  · rw [if_neg hz] at hq
    have hzn : ¬ 0 < z := hz
    have HTH := Lib.hid (fun (ga gb : Nat) (wx : World) (hx : Nats wx (some ⟨ga, 0, none⟩) ht) (hy : Nats wx (some ⟨gb, 0, none⟩) ex) => then_any (some ⟨ga, 0, none⟩) (some ⟨gb, 0, none⟩) n n n ht ex wx HH.out HEI.out.1 (by omega) hx hy)
    have HTI := Lib.hid (thenN_in HH.out HEI.out)
    unfold GivesP at HTH
    rw [HTI.out.1] at HTH
    obtain ⟨th, hth⟩ : ∃ th, thenN ht ex = th := ⟨_, rfl⟩
    rw [hth] at HTH HTI hq
    have HF := Lib.hid (fun (g8 : Nat) (wx : World) (hx : Nats wx (some ⟨g8, 0, none⟩) th) => folR n f n (some ⟨g8, 0, none⟩) (-1, []) r (.agg #[.int .i64 (-1), .slice none 0 0]) th wx h1 hn (by simp) (by simp) ⟨_, rfl, FacV.nil _ _⟩ HTI.out hx hq)
    clear hq hth
    go_enter Try.func86, Try.ntmps86
    go_wp2_with (fail)
    rw [H0.out.2.2]
    refine (HHT.out w0).mono ?_
    rintro e w1 ⟨ga, rfl, _, hr7, hb1⟩
    have H1 := Lib.hid (And.intro hr7 hb1)
    clear hr7 hb1
    go_wp2_with (fail)
    refine (HEX.out w1).mono ?_
    rintro e w2 ⟨g8, rfl, _, hr8, hb2⟩
    have H2 := Lib.hid (And.intro hr8 (And.intro (H1.out.1.below hb2) (H1.out.2.trans (hb2.mono H1.out.2.size))))
    clear hr8 hb2
    go_wp2_with (fail)
    refine (HTH.out ga g8 w2 H2.out.2.1.nats H2.out.1.nats).mono ?_
    rintro e w4 ⟨g9, rfl, _, hr9, hb4⟩
    have H4 := Lib.hid (And.intro hr9 (H2.out.2.2.trans (hb4.mono H2.out.2.2.size)))
    clear hr9 hb4
    go_wp2_with (fail)
    refine (HF.out g9 w4 H4.out.1.nats).mono ?_
    rintro e w3 ⟨v, rfl, ⟨fv, rfl, hf⟩, hb3⟩
    have hbx := (H0.out.2.1.below H4.out.2).below hb3
    have hbw := H0.out.1.trans ((H4.out.2.trans (hb3.mono H4.out.2.size)).mono H0.out.1.size)
    have H3 := Lib.hid (And.intro hbw (hbx.put (pw' := r.1) h1 hf))
    obtain ⟨fx, hbl, ax, cx, vx, rfl, _⟩ := hbx
    obtain ⟨af, cf, vf, rfl, _⟩ := hf
    have k0 : w3.cell? ⟨w.heap.size, 0, none⟩ = some (.int .i64 0) := by simp [World.cell?, hbl]
    have k1 : w3.cell? ⟨w.heap.size, 1, none⟩ = some (.slice ax 0 cx) := by simp [World.cell?, hbl]
    have f0 := row_free hbl 0
    have f1 := row_free hbl 1
    clear hbl hb3 hbw
    go_wp2_with (fail)
    obtain ⟨hbw, fy, hby, hfy⟩ := H3.out
    refine bodyPost_ret_by (results_cell_row (P := Try.prog) rfl _ _ w.heap.size 37 #[.int .i64 r.1, fy] (0, 0) _ rfl hby Try.underlying37 rfl (by kernel_rfl)) rfl ?_
    exact ⟨_, rfl, ⟨_, rfl, hfy⟩, (hbw.setCell (p := ⟨w.heap.size, 0, none⟩) (by simp) _).setCell (p := ⟨w.heap.size, 1, none⟩) (by simp) _⟩

end Go.Proofs.Ytbcggbmjbljnfaa
