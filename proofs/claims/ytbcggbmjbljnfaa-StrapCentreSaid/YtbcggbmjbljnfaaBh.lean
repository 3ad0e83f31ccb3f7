/-
  strap: 'followed'.
-/
import Derived.Test.YtbcggbmjbljnfaaBg
import Derived.Deep.CutBlock
import Derived.Deep.CutRange
import Derived.Deep.RegionHeld3
namespace Go.Proofs.Ytbcggbmjbljnfaa
open Go.RowKit Go.Sort

/-- The factors of a braid. -/
def FacV (w : World) (n : Nat) (v : Value) (ps : List (List Nat)) : Prop := ∃ (a : Option Addr) (c : Nat) (vs : List Value), v = .slice a ps.length c ∧ PV w n vs ps ∧
  ((a = none ∧ ps = [] ∧ c = 0) ∨ ∃ b off, a = some ⟨b, off, none⟩ ∧ ∀ i, i < ps.length → w.cell? ⟨b, off + i, none⟩ = some (vs[i]?.getD undef))
theorem FacV.below {w w' : World} {n : Nat} {v : Value} {ps : List (List Nat)} (h : FacV w n v ps) (hb : Below w.heap.size w w') : FacV w' n v ps := by
  obtain ⟨a, c, vs, e, hp, hc⟩ := h
  refine ⟨a, c, vs, e, hp.below hb, hc.imp id ?_⟩
  rintro ⟨b, off, e, hc⟩
  exact ⟨b, off, e, fun i hi => (hb.cell (p := ⟨b, off + i, none⟩) (World.block_lt_of_cell? w _ (hc i hi))).trans (hc i hi)⟩
theorem WinV.fac {w : World} {n g o cap : Nat} {vs : List Value} {ps : List (List Nat)} (h : WinV w g o ps.length cap vs) (hp : PV w n vs ps) : FacV w n (.slice (some ⟨g, o, none⟩) ps.length cap) ps :=
  ⟨_, cap, vs, rfl, hp, .inr ⟨g, o, rfl, fun i hi => h.cell i hi⟩⟩
def ClonedV (n : Nat) (ps : List (List Nat)) (w : World) (e : Ending) (w' : World) : Prop := ∃ v vs, e = .returned v ∧ PV w n vs ps ∧ w'.ownsRow w.heap.size 22 1 v ps.length vs ∧ Below w.heap.size w w'
theorem cloneF_any (n : Nat) (v : Value) (ps : List (List Nat)) (w : World) (hn : ps.length ≤ 1000) (h : FacV w n v ps) : Calls Try.prog 120 #[v] w (ClonedV n ps w) := by
  obtain ⟨a, c, vs, rfl, hp, ⟨rfl, rfl, rfl⟩ | ⟨b, off, rfl, hc⟩⟩ := h
  · obtain rfl : vs = [] := List.eq_nil_of_length_eq_zero hp.len
    refine (cloneR_nil w).mono ?_
    rintro e w' ⟨v, rfl, ho, hb⟩
    exact ⟨v, [], rfl, trivial, ho, hb⟩
  · have hl := hp.len
    refine (cloneR_any b off ps.length c vs w hl hn hc hp.one).mono ?_
    rintro e w' ⟨v, rfl, ho, hb⟩
    rw [hl] at ho
    exact ⟨v, vs, rfl, hp, ho, hb⟩

theorem Nats.setCell {w : World} {a : Option Addr} {p : List Nat} {g i : Nat} {v : Value} (h : Nats w a p) (ho : Off g a) : Nats (w.setCell ⟨g, i, none⟩ v) a p := fun j hj => by
  obtain ⟨b, off, e, hc⟩ := h j hj
  refine ⟨b, off, e, ?_⟩
  have hne := ho _ e
  have hk : (w.setCell ⟨g, i, none⟩ v).heap[b]? = w.heap[b]? := RowKit.Below.heap_setCell _ _ _ _ hne
  unfold World.cell? at hc ⊢
  rw [hk]
  exact hc
/-- The slices lie outside a block. -/
def OffL (g : Nat) (vs : List Value) : Prop := ∀ v ∈ vs, ∀ a m c, v = Value.slice a m c → Off g a
theorem OffL.set {g : Nat} {vs : List Value} {v : Value} (h : OffL g vs) (hv : ∀ a m c, v = Value.slice a m c → Off g a) (i : Nat) : OffL g (vs.set i v) := fun u hu => by
  rcases List.mem_or_eq_of_mem_set hu with hu | rfl
  · exact h u hu
  · exact hv
theorem PV.setCell {w : World} {n g i : Nat} {x : Value} : ∀ {vs : List Value} {ps : List (List Nat)}, PV w n vs ps → OffL g vs → PV (w.setCell ⟨g, i, none⟩ x) n vs ps
  | [], [], _, _ => trivial
  | v :: _, _ :: _, h, ho => by
    obtain ⟨⟨hi, a, c, e, hz⟩, ht⟩ := h
    exact ⟨⟨hi, a, c, e, hz.setCell (ho v (by simp) _ _ _ e)⟩, PV.setCell ht (fun u hu => ho u (by simp [hu]))⟩
theorem Nats.off {w : World} {a : Option Addr} {p : List Nat} {g n : Nat} (h : Nats w a p) (hl : p.length = n) (h1 : 1 ≤ n) (hg : w.heap.size ≤ g) : Off g a := fun x e => by
  obtain ⟨b, off, e', hc⟩ := h 0 (by omega)
  rw [e] at e'
  cases e'
  have := World.block_lt_of_cell? w _ hc
  simp at this ⊢
  omega
theorem PV.off {w : World} {n g : Nat} (h1 : 1 ≤ n) (hg : w.heap.size ≤ g) : ∀ {vs : List Value} {ps : List (List Nat)}, PV w n vs ps → OffL g vs
  | [], [], _ => fun v hv => by simp at hv
  | _ :: _, _ :: _, h => fun v hv a m c e => by
    rcases List.mem_cons.1 hv with rfl | hv
    · obtain ⟨hi, a', c', e', hz⟩ := h.1
      rw [e'] at e
      cases e
      exact hz.off hi.1 h1 hg
    · exact PV.off h1 hg h.2 v hv a m c e
theorem set_in {n f : Nat} : ∀ {s t : List Nat} {r : List Nat × List Nat}, InN n s → InN n t → setN n f s t = some r → InN n r.1 ∧ InN n r.2 := by
  induction f with
  | zero => intro s t r _ _ h; simp [setN] at h
  | succ f ih =>
    intro s t r hs ht h
    unfold setN at h
    cases hm : movN n s t with
    | none => rw [hm] at h; cases h; exact ⟨hs, ht⟩
    | some i =>
      rw [hm] at h
      have he := exchN_in (n := n) (k := i + 1) (by omega) (movN_lt hm)
      exact ih (thenN_in hs he) (thenN_in he ht) h

/-- Once through the pairs of factors, from the last one on. -/
def passN (f n : Nat) : Nat → List (List Nat) → Option (List (List Nat))
  | 0, ps => some ps
  | k + 1, ps => match setN n f (ps[k]?.getD []) (ps[k + 1]?.getD []) with
    | none => none
    | some r => passN f n k ((ps.set k r.1).set (k + 1) r.2)
/-- The half twists at the head: how many, and what is left. -/
def headN (n : Nat) : List (List Nat) → Nat × List (List Nat)
  | [] => (0, [])
  | p :: ps => if p = halfN n then ((headN n ps).1 + 1, (headN n ps).2) else (0, p :: ps)
/-- What is left when the last ones that are no crossing at all are gone. -/
def tailN (n : Nat) : Nat → List (List Nat) → List (List Nat)
  | 0, ps => ps
  | k + 1, ps => if ps[k]?.getD [] = idN n then tailN n k (ps.take k) else ps
/-- A braid as a value. -/
def BrV (w : World) (n : Nat) (v : Value) (pw : Int) (ps : List (List Nat)) : Prop := ∃ fv, v = .agg #[.int .i64 pw, fv] ∧ FacV w n fv ps
def GivesB (n : Nat) (pw : Int) (ps : List (List Nat)) (w : World) (e : Ending) (w' : World) : Prop := ∃ v, e = .returned v ∧ BrV w' n v pw ps ∧ Below w.heap.size w w'

theorem Nats.offBox {w : World} {a : Option Addr} {p : List Nat} {H : Nat} {x : Int} {T : TypeId} (h : Nats w a p) (hl : 2 ≤ p.length) (hb : w.heap[H]? = some (.cells #[.int .i64 x, .slice none 0 0] T (0, 0))) : Off H a := fun y e hy => by
  obtain ⟨b, off, e1, c0⟩ := h 0 (by omega)
  obtain ⟨b', off', e1', c1⟩ := h 1 (by omega)
  rw [e] at e1 e1'
  cases e1
  cases e1'
  simp only [] at hy
  subst hy
  match off with
  | 0 => simp [World.cell?, hb] at c1
  | o + 1 => simp [World.cell?, hb] at c1
theorem PV.offBox {w : World} {n H : Nat} {x : Int} {T : TypeId} (h1 : 2 ≤ n) (hb : w.heap[H]? = some (.cells #[.int .i64 x, .slice none 0 0] T (0, 0))) : ∀ {vs : List Value} {ps : List (List Nat)}, PV w n vs ps → OffL H vs
  | [], [], _ => fun v hv => by simp at hv
  | _ :: _, _ :: _, h => fun v hv a m c e => by
    rcases List.mem_cons.1 hv with rfl | hv
    · obtain ⟨hi, a', c', e', hz⟩ := h.1
      rw [e'] at e
      cases e
      exact hz.offBox (by rw [hi.1]; exact h1) hb
    · exact PV.offBox h1 hb h.2 v hv a m c e
theorem WinV.other {w : World} {g o n cap x i : Nat} {v : Value} {vs : List Value} (h : WinV w g o n cap vs) (hx : x ≠ g) : WinV (w.setCell ⟨x, i, none⟩ v) g o n cap vs := by
  obtain ⟨F, R, hF, hc, hr⟩ := h.row
  exact ⟨h.len, h.le, F, R, hF, hc, (RowKit.Below.heap_setCell w ⟨x, i, none⟩ v g (by exact fun e => hx e.symm)).trans hr⟩
theorem keepS {wr w w' : World} {ad : Addr} {v : Value} (h : w.cell? ad = some v ∧ Hid (Below wr.heap.size wr w)) (hb : Below w.heap.size w w') : w'.cell? ad = some v ∧ Hid (Below wr.heap.size wr w') :=
  ⟨(hb.cell (p := ad) (World.block_lt_of_cell? w _ h.1)).trans h.1, Lib.hid (h.2.out.trans (hb.mono h.2.out.size))⟩
def lenV : Value → Nat
  | .slice _ n _ => n
  | _ => 0

set_option maxRecDepth 100000 in
set_option maxHeartbeats 4000000 in
theorem followed_any (n f sc : Nat) (sa : Option Addr) (pw : Int) (fv : Value) (ps qs : List (List Nat)) (s : List Nat) (w : World) (h1 : 2 ≤ n) (hn : n ≤ 100) (hm : ps.length ≤ 100) (hpw : -1000 ≤ pw ∧ pw ≤ 1000) (hF : FacV w n fv ps) (hs : InN n s) (hz : Nats w sa s) (hq : passN f n ps.length (ps ++ [s]) = some qs) (kk : Nat) (hrs zs : List (List Nat)) (hhd : headN n qs = (kk, hrs)) (htl : tailN n hrs.length hrs = zs) :
    Calls Try.prog 106 #[.agg #[.int .i64 pw, fv], .slice sa n sc] w (GivesB n (pw + kk) zs w) := by
  obtain ⟨w0, hw0⟩ : ∃ w0, w0 = ((w.alloc (.cells #[.int .i64 pw, fv] 37)).alloc (.cells #[.int .i64 0, .slice none 0 0] 37)) := ⟨_, rfl⟩
  have hb0 : Below w.heap.size w w0 := by rw [hw0]; exact ((Below.refl _ w).alloc (Nat.le_refl _) _).alloc (by simp) _
  have hs0 : w0.heap.size = w.heap.size + 2 := by rw [hw0]; simp
  have hk0 : w0.heap[w.heap.size]? = some (.cells #[.int .i64 pw, fv] 37 (0, 0)) := by
    rw [hw0, Below.heap_alloc _ _ _ (by simp)]; exact heap_alloc_new w _
  have hk1 : w0.heap[w.heap.size + 1]? = some (.cells #[.int .i64 0, .slice none 0 0] 37 (0, 0)) := by
    rw [hw0, show w.heap.size + 1 = (w.alloc (.cells #[.int .i64 pw, fv] 37)).heap.size by simp]; exact heap_alloc_new _ _
  have H0 : Hid (FacV w0 n fv ps ∧ InN n s ∧ Nats w0 sa s ∧ Below w.heap.size w w0 ∧ w0.heap[w.heap.size]? = some (.cells #[.int .i64 pw, fv] 37 (0, 0)) ∧ w0.heap[w.heap.size + 1]? = some (.cells #[.int .i64 0, .slice none 0 0] 37 (0, 0))) := Lib.hid ⟨hF.below hb0, hs, hz.below hb0, hb0, hk0, hk1⟩
  have HW0 := Lib.hid hw0
  have HQ := Lib.hid hq
  have HCL := Lib.hid (cloneF_any n fv ps w0 (by omega) H0.out.1)
  obtain ⟨m, hmm⟩ : ∃ m, ps.length = m := ⟨_, rfl⟩
  have HM := Lib.hid hmm
  rw [hmm] at hm
  have HHD := Lib.hid (And.intro hhd htl)
  clear hhd htl
  clear hF hs hz hq hb0 hk0 hk1 hw0 hmm
  go_enter Try.func106, Try.ntmps106
  go_wp2_with (fail)
  rw [← HW0.out]
  refine HCL.out.mono ?_
  rintro e w1 ⟨v, vs, rfl, hp, ho, hb⟩
  have hs1 := hb.size
  rw [HM.out] at ho
  have H1 := Lib.hid (And.intro hp (And.intro ho hb))
  clear hp ho hb
  have HN1 : Hid ((w1.alloc (.cells #[.slice sa n sc] 22)).ownsRow w0.heap.size 22 1 v m vs) := Lib.hid (H1.out.2.1.alloc _)
  go_wp2_with (at_builtin; refine wpList_app_rows rfl (.tmp 11) (.tmp 13) rfl w0.heap.size v m vs rfl ⟨w1.heap.size, 0, none⟩ 1 1 [.slice sa n sc] rfl rfl (cell_one_new _ _ _) (by simp [Value.oneCell']) HN1.out (.inr (by omega)) (m + 1) rfl (by omega) (by simp; omega) ?_; intro g c2 w2 hr2 hg2; have H2 := Lib.hid (And.intro hr2 hg2); clear hr2 hg2)
  have HL1 : Hid (Below w0.heap.size w0 w2 ∧ ∃ us rs, rs.length = m + 1 ∧ WinV w2 g 0 (m + 1) c2 us ∧ PV w2 n us rs ∧ OffL g us ∧ passN f n m rs = some qs) := Lib.hid (by
    have hb2 : Below w0.heap.size w0 w2 := (H1.out.2.2.alloc hs1 (.cells #[.slice sa n sc] 22)).grown H2.out.2 (by simp; omega) (fun k hk => by
      rcases H1.out.2.1.2 with ⟨e, _⟩ | ⟨g', cap', cur, e, hg, _⟩
      · rw [e] at hk; cases hk
      · rw [e] at hk; cases hk; exact hg)
    refine ⟨hb2, vs ++ [.slice sa n sc], ps ++ [s], by simp [HM.out], (WinV.of_owns H2.out.1).2, ?_, ?_, by rw [← HM.out]; exact HQ.out⟩
    · exact PV.append (H1.out.1.below hb2) (by show PV w2 n [.slice sa n sc] [s]; exact ⟨⟨H0.out.2.1, sa, sc, rfl, H0.out.2.2.1.below hb2⟩, trivial⟩)
    · intro u hu
      have hge := (WinV.of_owns H2.out.1).1
      rcases List.mem_append.1 hu with hu | hu
      · exact H1.out.1.off (by omega) hge u hu
      · obtain rfl : u = .slice sa n sc := by simpa using hu
        intro a m' c' e
        cases e
        exact H0.out.2.2.1.off H0.out.2.1.1 (by omega) hge)
  have HGE : Hid (w0.heap.size ≤ g) := Lib.hid (WinV.of_owns H2.out.1).1
  have hs2 := HL1.out.1.size
  have HPW : Hid (∀ wr, Below w0.heap.size w0 wr → wr.cell? ⟨w.heap.size, 0, none⟩ = some (.int .i64 pw)) := Lib.hid (fun wr hb => by
    have h := (hb.block w.heap.size (by omega)).trans H0.out.2.2.2.2.1
    simp [World.cell?, h])
  clear HQ HN1
  go_loopw [6] (fun i wr => ∃ k : Nat, k ≤ m ∧ i = .int .i64 k ∧ Hid (Below w0.heap.size w0 wr ∧ ∃ us rs, rs.length = m + 1 ∧ WinV wr g 0 (m + 1) c2 us ∧ PV wr n us rs ∧ OffL g us ∧ passN f n k rs = some qs)) (fun i _ => (intOf i).toNat)
  case atStart => exact ⟨m, Nat.le_refl _, by go_num, HL1⟩
  case round =>
    clear HL1
    obtain ⟨k, hk, rfl, HR⟩ := hrel
    cases k with
    | zero =>
      have cpw := HPW.out wr HR.out.1
      have HI2 : Hid (Below w0.heap.size w0 wr ∧ ∃ us rs', rs'.length = m + 1 ∧ WinV wr g 0 (m + 1) c2 us ∧ PV wr n us rs' ∧ headN n qs = (0 + (headN n rs').1, (headN n rs').2)) := Lib.hid (by
        obtain ⟨hbr, us, rs, hrl, hw, hpv, hof, hpn⟩ := HR.out
        obtain rfl : rs = qs := by simpa [passN] using hpn
        exact ⟨hbr, us, rs, hrl, hw, hpv, by simp⟩)
      have HHT := Lib.hid (fun wx => halfTwist_any n wx (by omega) (by omega))
      unfold GivesP at HHT
      rw [(halfN_in n).1] at HHT
      clear HR
      rw [show ((0 : Nat) : Int) = 0 from rfl]
      go_upto_block 2 with fail
      go_cut [5, 8] from 46 to 60 (fun fs pv wx => ∃ o cap k t : Nat, fs = .slice (some ⟨g, o, none⟩) t cap ∧ pv = .int .i64 (pw + (k : Int)) ∧ k + t = m + 1 ∧ Hid (Below w0.heap.size w0 wx ∧ ∃ us rs', rs'.length = t ∧ WinV wx g o t cap us ∧ PV wx n us rs' ∧ headN n qs = (k, rs')))
      case first =>
        go_wp2_with (fail)
        go_loopw [5, 8] (fun fs pv w4 => ∃ o cap k t : Nat, fs = .slice (some ⟨g, o, none⟩) t cap ∧ pv = .int .i64 (pw + (k : Int)) ∧ k + t = m + 1 ∧ Hid (Below w0.heap.size w0 w4 ∧ ∃ us rs', rs'.length = t ∧ WinV w4 g o t cap us ∧ PV w4 n us rs' ∧ headN n qs = (k + (headN n rs').1, (headN n rs').2))) (fun fs _ _ => lenV fs)
        case atStart => exact ⟨0, c2, 0, m + 1, rfl, by simp, by omega, HI2⟩
        case round =>
          clear HI2 cpw
          obtain ⟨o, cap, k, t, rfl, rfl, hkt, HR2⟩ := hrel
          by_cases htp : 0 < t
          · obtain ⟨t, rfl⟩ : ∃ t', t = t' + 1 := ⟨t - 1, by omega⟩
            clear htp
            obtain ⟨hb4, us, rs', hl', hw4, hp4, hh4⟩ := HR2.out
            obtain ⟨p, rest, rfl⟩ : ∃ p rest, rs' = p :: rest := List.exists_cons_of_length_pos (by omega)
            have c0 := hw4.cell 0 (by omega)
            rw [Nat.add_zero] at c0
            obtain ⟨hi, a, c, e, hz⟩ := hp4.at 0 (by simp)
            rw [e] at c0
            have hi' : InN n p := hi
            have hz' : Nats wr a p := hz
            have HZ := Lib.hid hz'
            have hcl := hw4.cap_le
            have HEQ : Hid (∀ q, decide (p = halfN n) = q → ∀ g5 wx, Nats wx a p → Nats wx (some ⟨g5, 0, none⟩) (halfN n) → Calls Try.prog 89 #[.slice a n c, .slice (some ⟨g5, 0, none⟩) n n] wx (fun e w' => e = .returned (.bool q) ∧ Below wx.heap.size wx w')) := Lib.hid (fun q hq g5 wx hx hy => by
              subst hq
              exact equalP_any a _ n n c n p (halfN n) wx hi'.1 (halfN_in n).1 (by omega) hx hy)
            have HW4 := Lib.hid (And.intro hb4 (And.intro hw4 (And.intro hp4 (And.intro hl' hh4))))
            clear hb4 hw4 hp4 hl' hh4 e hi hi' hz hz' HR2
            by_cases hpe : p = halfN n
            · have HE := Lib.hid (HEQ.out true (decide_eq_true hpe))
              have HPE := Lib.hid hpe
              clear HEQ hpe
              go_wp2_with (fail)
              go_region_held3 (fun w' => w'.cell? ⟨g, o, none⟩ = some (.slice a n c) ∧ Hid (Below wr.heap.size wr w'))
                (first | assumption | exact ⟨c0, Lib.hid (Below.drew (Below.refl _ _))⟩ | exact keepS (by assumption) hb6 | exact keepS (by assumption) hb5)
                (first
                  | (go_at_call 90; refine (HHT.out _).mono ?_; rintro e w5 ⟨g5, rfl, _, hr5, hb5⟩)
                  | (go_at_call 89; refine (HE.out _ _ (HZ.out.below (show _ ∧ Hid (Below wr.heap.size wr _) by assumption).2.out) hr5.nats).mono ?_; rintro e w6 ⟨rfl, hb6⟩))
              all_goals
                have H6 : Hid (Below wr.heap.size wr w6) := (show w6.cell? ⟨g, o, none⟩ = _ ∧ Hid (Below wr.heap.size wr w6) by assumption).2
                go_simp
                go_wp2_with (fail)
                all_goals
                  have HF := Lib.hid (show headN n qs = ((k + 1) + (headN n rest).1, (headN n rest).2) by
                    rw [HW4.out.2.2.2.2, headN, if_pos HPE.out]; simp; omega)
                  have hrl : rest.length = t := by have := HW4.out.2.2.2.1; simpa using this
                  go_roundw
                  case rel =>
                    by_cases hc1 : cap = 1
                    · subst hc1
                      obtain rfl : t = 0 := by omega
                      exact ⟨o, 0, k + 1, 0, by simp, by congr 1; omega, by omega, Lib.hid ⟨HW4.out.1.trans (H6.out.mono HW4.out.1.size), [], rest, hrl, (HW4.out.2.1.below H6.out).spent, by rw [List.eq_nil_of_length_eq_zero hrl]; trivial, HF.out⟩⟩
                    · exact ⟨o + 1, cap - 1, k + 1, t, by rw [if_neg hc1], by congr 1; omega, by omega, Lib.hid ⟨HW4.out.1.trans (H6.out.mono HW4.out.1.size), us.drop 1, rest, hrl, (HW4.out.2.1.below H6.out).first, (HW4.out.2.2.1.below H6.out).drop 1, HF.out⟩⟩
                  case measure => simp [lenV]
            · have HE := Lib.hid (HEQ.out false (decide_eq_false hpe))
              have HPE := Lib.hid hpe
              clear HEQ hpe
              go_wp2_with (fail)
              go_region_held3 (fun w' => w'.cell? ⟨g, o, none⟩ = some (.slice a n c) ∧ Hid (Below wr.heap.size wr w'))
                (first | assumption | exact ⟨c0, Lib.hid (Below.drew (Below.refl _ _))⟩ | exact keepS (by assumption) hb6 | exact keepS (by assumption) hb5)
                (first
                  | (go_at_call 90; refine (HHT.out _).mono ?_; rintro e w5 ⟨g5, rfl, _, hr5, hb5⟩)
                  | (go_at_call 89; refine (HE.out _ _ (HZ.out.below (show _ ∧ Hid (Below wr.heap.size wr _) by assumption).2.out) hr5.nats).mono ?_; rintro e w6 ⟨rfl, hb6⟩))
              all_goals
                have H6 : Hid (Below wr.heap.size wr w6) := (show w6.cell? ⟨g, o, none⟩ = _ ∧ Hid (Below wr.heap.size wr w6) by assumption).2
                go_simp
                go_wp2_with (fail)
                go_meet
                exact ⟨o, cap, k, t + 1, rfl, rfl, hkt, Lib.hid ⟨HW4.out.1.trans (H6.out.mono HW4.out.1.size), us, p :: rest, HW4.out.2.2.2.1, HW4.out.2.1.below H6.out, HW4.out.2.2.1.below H6.out, by rw [HW4.out.2.2.2.2, headN, if_neg HPE.out]; simp⟩⟩
          · have hgd : decide (0 < t) = false := decide_eq_false htp
            have HT0 := Lib.hid htp
            clear htp
            go_wp2_with (fail)
            go_quiet (fail)
            go_wp2_with (fail)
            go_meet
            obtain ⟨hb4, us, rs', hl', hw4, hp4, hh4⟩ := HR2.out
            have hbd := below_drewN (Below.refl wr.heap.size wr) nq
            have ht0 : t = 0 := by have := HT0.out; omega
            refine ⟨o, cap, k, t, rfl, rfl, hkt, Lib.hid ⟨below_drewN hb4 _, us, rs', hl', hw4.below hbd, hp4.below hbd, ?_⟩⟩
            rw [List.eq_nil_of_length_eq_zero (hl'.trans ht0)] at hh4 ⊢
            rw [hh4, headN]; simp
      case rest =>
        clear HI2 cpw HHT
        obtain ⟨o, cap, k, t, rfl, rfl, hkt, HR3⟩ := hcut
        have HHI := Lib.hid (fun wx => identity_any n wx (by omega))
        unfold GivesP at HHI
        rw [show (idN n).length = n by simp [idN]] at HHI
        have HI3 : Hid (Below w0.heap.size w0 wc ∧ ∃ us rs', rs'.length = t ∧ WinV wc g o t cap us ∧ PV wc n us rs' ∧ zs = tailN n t rs') := Lib.hid (by
          obtain ⟨hb4, us, rs', hl', hw4, hp4, hh4⟩ := HR3.out
          rw [HHD.out.1] at hh4
          cases hh4
          exact ⟨hb4, us, _, hl', hw4, hp4, by rw [← HHD.out.2, hl']⟩)
        obtain rfl : kk = k := by obtain ⟨hb4, us, rs', hl', hw4, hp4, hh4⟩ := HR3.out; rw [HHD.out.1] at hh4; cases hh4; rfl
        have htm : t ≤ m + 1 := by omega
        clear HR3 hkt
        go_upto_block 4 with fail
        go_cut [5] from 61 to 79 (fun fs wx => ∃ cap t : Nat, fs = .slice (some ⟨g, o, none⟩) t cap ∧ Hid (Below w0.heap.size w0 wx ∧ ∃ us, zs.length = t ∧ WinV wx g o t cap us ∧ PV wx n us zs))
        case first =>
          go_wp2_with (fail)
          go_loopw [5] (fun fs w4 => ∃ cap t : Nat, fs = .slice (some ⟨g, o, none⟩) t cap ∧ t ≤ m + 1 ∧ Hid (Below w0.heap.size w0 w4 ∧ ∃ us rs', rs'.length = t ∧ WinV w4 g o t cap us ∧ PV w4 n us rs' ∧ zs = tailN n t rs')) (fun fs _ => lenV fs)
          case atStart => exact ⟨cap, t, rfl, htm, HI3⟩
          case round =>
            clear HI3 htm
            obtain ⟨cap, t, rfl, htm, HR4⟩ := hrel
            by_cases htp : 0 < t
            · obtain ⟨t, rfl⟩ : ∃ t', t = t' + 1 := ⟨t - 1, by omega⟩
              clear htp
              obtain ⟨hb4, us, rs', hl', hw4, hp4, hh4⟩ := HR4.out
              have c0 := hw4.cell t (by omega)
              obtain ⟨p, hpp⟩ : ∃ p, rs'[t]?.getD [] = p := ⟨_, rfl⟩
              obtain ⟨hi, a, c, e, hz⟩ := hp4.at t (by omega)
              rw [e] at c0
              rw [hpp] at hi hz
              have HZ := Lib.hid hz
              have hcl := hw4.cap_le
              have HEQ : Hid (∀ q, decide (p = idN n) = q → ∀ g5 wx, Nats wx a p → Nats wx (some ⟨g5, 0, none⟩) (idN n) → Calls Try.prog 89 #[.slice a n c, .slice (some ⟨g5, 0, none⟩) n n] wx (fun e w' => e = .returned (.bool q) ∧ Below wx.heap.size wx w')) := Lib.hid (fun q hq g5 wx hx hy => by
                subst hq
                exact equalP_any a _ n n c n p (idN n) wx hi.1 (by simp [idN]) (by omega) hx hy)
              have HW4 := Lib.hid (And.intro hb4 (And.intro hw4 (And.intro hp4 (And.intro hl' (And.intro hh4 hpp)))))
              have hwr : IntKind.i64.wrap (t : Int) = (t : Int) := by rw [IntKind.wrap_i64]; omega
              have htI : (t : Int) < (t : Int) + 1 := by omega
              clear hb4 hw4 hp4 hl' hh4 hpp e hi hz HR4
              by_cases hpe : p = idN n
              · have HE := Lib.hid (HEQ.out true (decide_eq_true hpe))
                have HPE := Lib.hid hpe
                clear HEQ hpe
                go_wp2_with (fail)
                go_region_held3 (fun w' => w'.cell? ⟨g, o + t, none⟩ = some (.slice a n c) ∧ Hid (Below wr.heap.size wr w'))
                  (first | assumption | exact ⟨c0, Lib.hid (Below.drew (Below.refl _ _))⟩ | exact keepS (by assumption) hb6 | exact keepS (by assumption) hb5)
                  (first
                    | (go_at_call 81; refine (HHI.out _).mono ?_; rintro e w5 ⟨g5, rfl, _, hr5, hb5⟩)
                    | (go_at_call 89; refine (HE.out _ _ (HZ.out.below (show _ ∧ Hid (Below wr.heap.size wr _) by assumption).2.out) hr5.nats).mono ?_; rintro e w6 ⟨rfl, hb6⟩))
                all_goals
                  have H6 : Hid (Below wr.heap.size wr w6) := (show w6.cell? ⟨g, o + t, none⟩ = _ ∧ Hid (Below wr.heap.size wr w6) by assumption).2
                  go_simp
                  go_wp2_with (fail)
                  go_roundw
                  case rel =>
                    obtain ⟨hb4, hw4, hp4, hl', hh4, hpp⟩ := HW4.out
                    exact ⟨cap, t, rfl, by omega, Lib.hid ⟨hb4.trans (H6.out.mono hb4.size), us.take t, rs'.take t, by simp; omega, (hw4.below H6.out).last, (hp4.below H6.out).take t, by rw [hh4, tailN, if_pos (by rw [hpp]; exact HPE.out)]⟩⟩
                  case measure => simp [lenV]
              · have HE := Lib.hid (HEQ.out false (decide_eq_false hpe))
                have HPE := Lib.hid hpe
                clear HEQ hpe
                go_wp2_with (fail)
                go_region_held3 (fun w' => w'.cell? ⟨g, o + t, none⟩ = some (.slice a n c) ∧ Hid (Below wr.heap.size wr w'))
                  (first | assumption | exact ⟨c0, Lib.hid (Below.drew (Below.refl _ _))⟩ | exact keepS (by assumption) hb6 | exact keepS (by assumption) hb5)
                  (first
                    | (go_at_call 81; refine (HHI.out _).mono ?_; rintro e w5 ⟨g5, rfl, _, hr5, hb5⟩)
                    | (go_at_call 89; refine (HE.out _ _ (HZ.out.below (show _ ∧ Hid (Below wr.heap.size wr _) by assumption).2.out) hr5.nats).mono ?_; rintro e w6 ⟨rfl, hb6⟩))
                all_goals
                  have H6 : Hid (Below wr.heap.size wr w6) := (show w6.cell? ⟨g, o + t, none⟩ = _ ∧ Hid (Below wr.heap.size wr w6) by assumption).2
                  go_simp
                  go_wp2_with (fail)
                  go_meet
                  obtain ⟨hb4, hw4, hp4, hl', hh4, hpp⟩ := HW4.out
                  have hzr : zs = rs' := by rw [hh4, tailN, if_neg (by rw [hpp]; exact HPE.out)]
                  exact ⟨cap, t + 1, rfl, Lib.hid ⟨hb4.trans (H6.out.mono hb4.size), us, by rw [hzr]; exact hl', hw4.below H6.out, by rw [hzr]; exact hp4.below H6.out⟩⟩
            · have hgd : decide (0 < t) = false := decide_eq_false htp
              have HT0 := Lib.hid htp
              clear htp
              go_wp2_with (fail)
              go_quiet (fail)
              go_wp2_with (fail)
              go_meet
              obtain ⟨hb4, us, rs', hl', hw4, hp4, hh4⟩ := HR4.out
              have hbd := below_drewN (Below.refl wr.heap.size wr) nq
              have ht0 : t = 0 := by have := HT0.out; omega
              have hzr : zs = rs' := by rw [hh4, ht0, tailN]
              exact ⟨cap, t, rfl, Lib.hid ⟨below_drewN hb4 _, us, by rw [hzr]; exact hl', hw4.below hbd, by rw [hzr]; exact hp4.below hbd⟩⟩
        case rest =>
          clear HI3
          obtain ⟨cap, t, rfl, HR5⟩ := hcut
          have hbl := (HR5.out.1.block (w.heap.size + 1) (by omega)).trans H0.out.2.2.2.2.2
          have k0 : wc.cell? ⟨w.heap.size + 1, 0, none⟩ = some (.int .i64 0) := by simp [World.cell?, hbl]
          have k1 : wc.cell? ⟨w.heap.size + 1, 1, none⟩ = some (.slice none 0 0) := by simp [World.cell?, hbl]
          have f0 := row_free hbl 0
          have f1 := row_free hbl 1
          have HBL := Lib.hid hbl
          clear hbl
          go_wp2_with (fail)
          obtain ⟨hb, us, hl, hw, hp⟩ := HR5.out
          have hbw := H0.out.2.2.2.1.trans (hb.mono H0.out.2.2.2.1.size)
          have hbl := (heap_setCell_self (i := 1) (heap_setCell_self (i := 0) HBL.out (.int .i64 (pw + (kk : Int)))) (.slice (some ⟨g, o, none⟩) t cap))
          refine bodyPost_ret_by (results_cell_row (P := Try.prog) rfl _ _ (w.heap.size + 1) 37 #[.int .i64 (pw + (kk : Int)), .slice (some ⟨g, o, none⟩) t cap] (0, 0) _ rfl hbl Try.underlying37 rfl (by kernel_rfl)) rfl ?_
          subst hl
          have hge := HGE.out
          have ho : OffL (w.heap.size + 1) us := PV.offBox h1 HBL.out hp
          refine ⟨_, rfl, ⟨_, rfl, WinV.fac ((hw.other (by omega)).other (by omega)) ((hp.setCell ho).setCell ho)⟩, (hbw.setCell (p := ⟨w.heap.size + 1, 0, none⟩) (by simp) _).setCell (p := ⟨w.heap.size + 1, 1, none⟩) (by simp) _⟩
    | succ j =>
      obtain ⟨hbr, us, rs, hrl, hw, hpv, hof, hpn⟩ := HR.out
      have c0 := hw.cell j (by omega)
      have c1 := hw.cell (j + 1) (by omega)
      have f0 := hw.free j
      have f1 := hw.free (j + 1)
      rw [Nat.zero_add] at c0 c1
      obtain ⟨hi0, a0, cp0, e0, hz0⟩ := hpv.at j (by omega)
      obtain ⟨hi1, a1, cp1, e1, hz1⟩ := hpv.at (j + 1) (by omega)
      rw [e0] at c0
      rw [e1] at c1
      unfold passN at hpn
      cases hst : setN n f (rs[j]?.getD []) (rs[j + 1]?.getD []) with
      | none => rw [hst] at hpn; cases hpn
      | some r =>
        rw [hst] at hpn
        have hin := set_in hi0 hi1 hst
        have hgl := hw.lt
        have ho0 : Off g a0 := hof _ (by rw [List.getElem?_eq_getElem (by rw [hw.len]; omega)] at e0; simp at e0; rw [← e0]; exact List.getElem_mem _) _ _ _ rfl
        have ho1 : Off g a1 := hof _ (by rw [List.getElem?_eq_getElem (by rw [hw.len]; omega)] at e1; simp at e1; rw [← e1]; exact List.getElem_mem _) _ _ _ rfl
        have HST : Hid (∀ wx, Below wr.heap.size wr wx → Calls Try.prog 121 #[.slice a0 n cp0, .slice a1 n cp1] wx (fun e w' => ∃ (a b : Option Addr) (c d : Nat), e = .returned (.tuple #[.slice a n c, .slice b n d]) ∧ Nats w' a r.1 ∧ Nats w' b r.2 ∧ Off g a ∧ Off g b ∧ Below wr.heap.size wr w')) := Lib.hid (fun wx hb => by
          refine (settled_any g a0 a1 n cp0 cp1 f _ _ r.1 r.2 wx hi0 hi1 (by omega) hn (hz0.below hb) (hz1.below hb) hst (by have := hb.size; omega) ho0 ho1).mono ?_
          rintro e w' ⟨a, b, c, d, rfl, x1, x2, x3, x4, x5⟩
          exact ⟨a, b, c, d, rfl, x1, x2, x4, x5, hb.trans (x3.mono hb.size)⟩)
        have hjI : (j : Int) < (m : Int) + 1 := by omega
        have hj1I : (j : Int) + 1 < (m : Int) + 1 := by omega
        have hwr : IntKind.i64.wrap (j : Int) = (j : Int) := by rw [IntKind.wrap_i64]; omega
        have hjm : (j : Int) < (m : Int) := by omega
        have hjm' : j < m := by omega
        have hj0 : (0 : Int) ≤ (j : Int) + 1 := by omega
        have hjt : ((j : Int) + 1).toNat = j + 1 := by omega
        have HPN := Lib.hid hpn
        have HWV := Lib.hid hw
        have HPV := Lib.hid hpv
        have HOF := Lib.hid hof
        have HIN := Lib.hid hin
        have HBR := Lib.hid hbr
        have HRL := Lib.hid hrl
        clear hbr hw hpv hpn hst e0 e1 hz0 hz1 hi0 hi1 hof hin ho0 ho1 hrl
        go_wp2_with (fail)
        go_region_law (go_simp; go_at_call 121; refine (HST.out _ (by first | exact Below.refl _ _ | exact Below.drew (Below.refl _ _))).mono ?_; rintro e w3 ⟨a3, b3, c3, d3, rfl, hx1, hx2, hx3, hx4, hb3⟩; have hw3 := HWV.out.below hb3; have k0 := hw3.cell j (by omega); have k1 := hw3.cell (j + 1) (by omega); have q0 := hw3.free j; have q1 := hw3.free (j + 1); rw [Nat.zero_add] at k0 k1; have H3 := Lib.hid (And.intro hx1 (And.intro hx2 (And.intro hx3 (And.intro hx4 (And.intro hb3 hw3))))); clear hx1 hx2 hx3 hx4 hb3 hw3)
        all_goals
          go_simp
          go_wp2_with (fail)
          refine ⟨⟨j, by omega, rfl, Lib.hid ⟨((HBR.out.trans (H3.out.2.2.2.2.1.mono HBR.out.size)).setCell (p := ⟨g, j, none⟩) HGE.out _).setCell (p := ⟨g, j + 1, none⟩) HGE.out _, (us.set j (.slice a3 n c3)).set (j + 1) (.slice b3 n d3), (rs.set j r.1).set (j + 1) r.2, by simp [HRL.out], ?_, ?_, ?_, HPN.out⟩⟩, by simp [intOf]⟩
          · have hx := (H3.out.2.2.2.2.2.put j (by omega) (.slice a3 n c3)).put (j + 1) (by omega) (.slice b3 n d3)
            simp only [Nat.zero_add] at hx
            exact hx
          · exact PV.set ⟨HIN.out.2, b3, d3, rfl, (H3.out.2.1.setCell H3.out.2.2.2.1).setCell H3.out.2.2.2.1⟩ (j + 1) (PV.set ⟨HIN.out.1, a3, c3, rfl, (H3.out.1.setCell H3.out.2.2.1).setCell H3.out.2.2.1⟩ j (((HPV.out.below H3.out.2.2.2.2.1).setCell HOF.out).setCell HOF.out))
          · exact (HOF.out.set (fun a m' c' e => by cases e; exact H3.out.2.2.1) j).set (fun a m' c' e => by cases e; exact H3.out.2.2.2.1) (j + 1)

end Go.Proofs.Ytbcggbmjbljnfaa
