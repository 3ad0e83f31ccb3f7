/-
  The walk of 'FoldReduced'.
-/
import Derived.Test.YtfgenpailmgkiaaMh
import Derived.Test.YtfgenpailmgkiaaHc
namespace Go.Proofs.Ytfgenpailmgkiaa
open Go.RowKit Go.Sort Go.Shelf

theorem redAll_len {m : Int} : ∀ (k : Nat) (zs : List Int) (cs : List UInt8), Good m zs cs → (redAll k zs cs).1.length ≤ zs.length
  | 0, _, _, _ => Nat.le_refl _
  | k + 1, zs, cs, h => by
    rw [redAll]
    cases e : redZ zs cs with
    | none => exact Nat.le_refl _
    | some p =>
      obtain ⟨g1, g2⟩ := redZ_good h e
      have := redAll_len k p.1 p.2 g1
      exact Nat.le_trans this (by omega)
theorem bytes_same {a b : ByteArray} (h : a.data.toList = b.data.toList) : a = b := by
  cases a; cases b; simp at h; simp [h]
theorem folds_of {zs : List Int} {O : List Nat} (hs : stripB zs = true) (hO : O ∈ ordersOf (layCl zs) zs.length) : foldsZ zs (O.map fun (x : Nat) => (x : Int)) = (true, 0) := by
  obtain ⟨h1, h2, h3, h4⟩ := mem_orders.1 hO
  rw [foldsZ, if_pos hs, if_pos (orderB_of h1 h2 h3), toNat_back, h4]

/-- What 'Reduce' and 'Layers' answer, together. -/
theorem both {l : List Int} {q : ByteArray} (hg : stripB l = true) (hp : patB q (l.length - 1) = true) :
    (∃ O, (ordersOf (layCl l) l.length).find? (fun o => (crsOf l o).toList == q.toList) = some O ∧ O ∈ ordersOf (layCl l) l.length ∧ crsOf l O = q ∧ (redAll l.length l q.data.toList).1.length = 1) ∨
    ((ordersOf (layCl l) l.length).find? (fun o => (crsOf l o).toList == q.toList) = none ∧ (redAll l.length l q.data.toList).1.length ≠ 1) := by
  have hF := reduced_iff (good_of hg hp)
  cases e : (ordersOf (layCl l) l.length).find? (fun o => (crsOf l o).toList == q.toList) with
  | some O =>
    have h1 := List.mem_of_find?_eq_some e
    have h2 := List.find?_some e
    simp only [beq_iff_eq] at h2
    rw [Lib.toList_data, Lib.toList_data] at h2
    exact .inl ⟨O, rfl, h1, bytes_same h2, hF.1 ⟨O, h1, h2⟩⟩
  | none =>
    refine .inr ⟨rfl, fun h => ?_⟩
    obtain ⟨O, h1, h2⟩ := hF.2 h
    have := List.find?_eq_none.1 e O h1
    simp only [beq_iff_eq] at this
    rw [Lib.toList_data, Lib.toList_data] at this
    exact this h2

set_option maxRecDepth 200000 in
set_option maxHeartbeats 4000000 in
theorem FoldReduced_any (n cap : Nat) (a : Option Addr) (zs : List Int) (bits sz : Int) (w : World) (hn : zs.length = n) (hm : n ≤ 9223372036854775807) (hz : Ints w a zs) (hi : ∀ z ∈ zs, -9223372036854775808 ≤ z ∧ z ≤ 9223372036854775807)
    (hb0 : 0 ≤ bits) (hb1 : bits ≤ 65535) (hs0 : 0 ≤ sz) (hs1 : sz ≤ 255) :
    Calls Try.prog 8 #[.slice a n cap, .int .u16 bits, .int .u8 sz] w fun e w' => e = .returned (.bool true) ∧ Below w.heap.size w w' := by
  have hst := Lib.hid (strip_any' a n cap 9 (sz % 6 + 1) zs w hn hm hz hi (by omega) (by omega) (by omega) (by omega))
  have hg := stripOf_good zs 9 (sz % 6 + 1) (by omega) (by omega) (by omega) (by omega)
  obtain ⟨l, hl⟩ : ∃ l, stripOf zs 9 (sz % 6 + 1) = l := ⟨_, rfl⟩
  rw [hl] at hst hg
  obtain ⟨hgood, hl9⟩ := hg
  have HG := Lib.hid hgood
  obtain ⟨p1, p9, _⟩ := strip_parts hgood
  clear hl hz hi hn hm hgood
  have HV := Lib.hid lives_any
  go_enter Try.func8, Try.ntmps8
  go_wp2_with fail
  refine hst.out.mono ?_
  rintro e w1 ⟨v, rfl, hv, hb1⟩
  obtain ⟨g1, c1, rfl, hI1⟩ := hv.ints
  have H1 := Lib.hid (And.intro hI1 hb1)
  clear hv hI1 hb1 hst
  go_wp2_with fail
  have hcast : (l.length : Int) - 1 = ((l.length - 1 : Nat) : Int) := by omega
  rw [hcast]
  refine (lettersLaw_any bits (l.length - 1) w1 hb0 hb1 (by omega)).mono ?_
  rintro e w2 ⟨q, rfl, hq, rfl⟩
  have HQ := Lib.hid hq
  have hqs : q.size ≤ 1000000 := by
    simp only [patB, Bool.and_eq_true, beq_iff_eq] at hq
    omega
  clear hq hcast
  have hrg := (redAll_fd l.length l q.data.toList (good_of HG.out HQ.out) (by omega)).2
  have hrl := redAll_len l.length l q.data.toList (good_of HG.out HQ.out)
  obtain ⟨R, hR⟩ : ∃ R, redAll l.length l q.data.toList = R := ⟨_, rfl⟩
  have hboth := both HG.out HQ.out
  rw [hR] at hrg hrl hboth
  have HR := Lib.hid (And.intro hR hrg)
  have hred : Hid (∀ (wx : World), Below w1.heap.size w1 wx → Calls Try.prog 27 #[.slice (some ⟨g1, 0, none⟩) l.length c1, .string q] wx (fun e w' => ∃ (g o cp : Nat) (s' : ByteArray), e = .returned (.tuple #[.slice (some ⟨g, o, none⟩) R.1.length cp, .string s', .int .i64 0]) ∧ s'.size + 1 = R.1.length ∧ Below wx.heap.size wx w')) := Lib.hid fun wx hbx => by
    refine (Reduce_good g1 0 l.length c1 l q wx rfl (H1.out.1.below hbx) HG.out HQ.out).mono ?_
    rintro e w' ⟨g, o, cp, s', rfl, h1, h2, h3⟩
    refine ⟨g, o, cp, s', by rw [HR.out.1], ?_, h3⟩
    have := HR.out.2.len
    rw [← HR.out.1, ← h1, size_list] at this
    rw [HR.out.1] at this
    exact this
  have hlay : Hid (∀ (wx : World), Below w1.heap.size w1 wx → Calls Try.prog 26 #[.slice (some ⟨g1, 0, none⟩) l.length c1, .string q] wx (LayersPost l q wx)) := Lib.hid fun wx hbx => (callsIn_wide (n := 0)).1 (Layers_good _ l.length c1 0 l q wx rfl (H1.out.1.below hbx) HG.out HQ.out)
  obtain ⟨rl, hrlv⟩ : ∃ rl, R.1.length = rl := ⟨_, rfl⟩
  rw [hrlv] at hred hrl hboth
  clear hR hrg hrlv
  go_wp2_with fail
  refine (hred.out w1 (Below.refl _ _)).mono ?_
  rintro e w2 ⟨g2, o2, c2, s2, rfl, hs2, hb2⟩
  have H2 := Lib.hid hb2
  obtain ⟨t, ht⟩ : ∃ t, s2.size = t := ⟨_, rfl⟩
  rw [ht] at hs2
  subst hs2
  clear hb2 hred
  go_wp2_with fail
  refine (hlay.out w2 H2.out).mono ?_
  rintro e w3 ⟨v, err, rfl, hb3, hf⟩
  have hb13 := H2.out.trans (hb3.mono H2.out.size)
  have H3 := Lib.hid (And.intro (H1.out.1.below hb13) (H1.out.2.trans (hb13.mono H1.out.2.size)))
  clear hb3 hb13 hlay
  rcases hboth with ⟨O, e1, e2, e3, e4⟩ | ⟨e1, e2⟩
  · rw [e1] at hf
    obtain ⟨rfl, g3, c3, rfl, _, hrow⟩ := hf
    have hI3 : Ints w3 (some ⟨g3, 0, none⟩) (O.map fun (x : Nat) => (x : Int)) := Ints.of_nats hrow
    have H4 := Lib.hid (And.intro H3.out.1 (And.intro hI3 H3.out.2))
    have HO := Lib.hid (And.intro (folds_of HG.out e2) (creasesZ_of HG.out e2))
    have hol : (O.map fun (x : Nat) => (x : Int)).length = l.length := by rw [List.length_map]; exact (mem_orders.1 e2).2.2.1
    have ht0 : t = 0 := by omega
    subst ht0
    rw [e3] at HO
    generalize (O.map fun (x : Nat) => (x : Int)) = ol at *
    clear e1 e2 e3 e4 hrow hI3 H3 H2
    go_wp2_with fail
    refine ((callsIn_wide (n := 0)).1 (HV.out _ _)).mono ?_
    rintro e w5 ⟨rfl, hb5⟩
    have H5 := Lib.hid (And.intro (H4.out.1.below hb5) (And.intro (H4.out.2.1.below hb5) (H4.out.2.2.trans (hb5.mono H4.out.2.2.size))))
    clear hb5 H4
    go_wp2_with fail
    refine (Folds_any _ _ l.length c1 l.length c3 l ol w5 true 0 rfl (by omega) H5.out.1 hol (by omega) H5.out.2.1 HO.out.1).mono ?_
    rintro e w6 ⟨rfl, hb6⟩
    have H6 := Lib.hid (And.intro (H5.out.1.below hb6) (And.intro (H5.out.2.1.below hb6) (H5.out.2.2.trans (hb6.mono H5.out.2.2.size))))
    clear hb6 H5
    go_wp2_with fail
    refine (Creases_any _ _ l.length c1 l.length c3 l ol w6 q 0 rfl (by omega) H6.out.1 hol (by omega) H6.out.2.1 HO.out.2).mono ?_
    rintro e w7 ⟨rfl, hb7⟩
    have H7 := Lib.hid (H6.out.2.2.trans (hb7.mono H6.out.2.2.size))
    clear hb7
    go_wp2
    go_ret
    exact ⟨rfl, H7.out⟩
  · rw [e1] at hf
    obtain ⟨rfl, rfl⟩ := hf
    have ht1 : 1 ≤ t := by omega
    have hd1 : decide ((t : Int) + 1 < 1) = false := decide_eq_false (by omega)
    have hd2 : (((t : Int) + 1) == 1) = false := by rw [beq_eq_false_iff_ne]; omega
    clear e1 e2 H2
    go_wp2_with fail
    refine ((callsIn_wide (n := 0)).1 (HV.out _ _)).mono ?_
    rintro e w5 ⟨rfl, hb5⟩
    have H5 := Lib.hid (H3.out.2.trans (hb5.mono H3.out.2.size))
    clear hb5 H3
    go_wp2
    go_ret
    exact ⟨rfl, H5.out⟩

end Go.Proofs.Ytfgenpailmgkiaa
