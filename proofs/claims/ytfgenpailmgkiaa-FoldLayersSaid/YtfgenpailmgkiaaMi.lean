/-
  F1 for the orders of the program: some order that folds a strip has the letters exactly if the simple folds leave one segment.
  The walk of the law's 'letters': some pattern.
  The walk of 'FoldReduced'.
-/
import Derived.Test.YtfgenpailmgkiaaMf
import Derived.Test.YtfgenpailmgkiaaHc
import Derived.Test.YtfgenpailmgkiaaLe
namespace Go.Proofs.Ytfgenpailmgkiaa

theorem btwB_Btw (x a b : Int) : btwB x a b = true ↔ Btw x a b := btwB_iff x a b

theorem crs_mem (zs : List Int) (k : Nat) (h : k + 1 < zs.length) : (⟨k, k + 1, posAt zs (k + 1)⟩ : Cr) ∈ (layCl zs).crs := by
  simp only [layCl, crsTo, List.mem_map, List.mem_range]
  exact ⟨k, by omega, rfl⟩
theorem crs_at (zs : List Int) (k : Nat) (h : k + 1 < zs.length) : (layCl zs).crs[k]? = some ⟨k, k + 1, posAt zs (k + 1)⟩ := by
  simp only [layCl, crsTo]
  rw [List.getElem?_map, List.getElem?_range (by omega)]; rfl

theorem noCross_nc {zs : List Int} {A : Nat → Int} : NoCross zs.length (posAt zs) (layCl zs).crs rightS A ↔ NC zs.length (posAt zs) A := by
  constructor
  · intro h
    refine ⟨fun k i hk hi hb hc => h.seg _ (crs_mem zs k hk) i hi ⟨(btwB_Btw _ _ _).2 hb, (btwB_Btw _ _ _).2 hc⟩, fun j k hj hk hp hm => ?_⟩
    have := h.cr _ (crs_mem zs k hk) _ (crs_mem zs j hj) hp (by unfold rightS; rw [decide_eq_decide]; show (j + 1) % 2 = 0 ↔ (k + 1) % 2 = 0; omega)
    rw [← btwB_Btw, ← btwB_Btw]
    exact Eq.to_iff (congrArg (· = true) this)
  · intro h
    refine ⟨fun f hf i hi hb => ?_, fun f hf g hg hp hr => ?_⟩
    · obtain ⟨k, hk, rfl⟩ := mem_crs hf
      exact h.seg k i hk hi ((btwB_Btw _ _ _).1 hb.1) ((btwB_Btw _ _ _).1 hb.2)
    · obtain ⟨k, hk, rfl⟩ := mem_crs hf
      obtain ⟨j, hj, rfl⟩ := mem_crs hg
      unfold rightS at hr
      rw [decide_eq_decide] at hr
      have hr' : (j + 1) % 2 = 0 ↔ (k + 1) % 2 = 0 := hr
      have := h.cr j k hj hk hp (by omega)
      rw [Bool.eq_iff_iff, btwB_Btw, btwB_Btw]
      exact this

theorem layersOf_get {n : Nat} {P : List Nat} (hn : P.Nodup) (hv : ∀ x ∈ P, x < n) (hl : P.length = n) {s : Nat} (hs : s < n) : (layersOf P n)[s]?.getD 0 = (layerN P s : Int) := by
  rw [layersOf, hl, layersTo_layer hn hv hl hs n (Nat.le_refl _), if_pos (layerN_lt hn hv hl hs)]

theorem crsOf_at {zs : List Int} {P : List Nat} (hn : P.Nodup) (hv : ∀ x ∈ P, x < zs.length) (hl : P.length = zs.length) (k : Nat) (hk : k + 1 < zs.length) :
    (crsOf zs P).data.toList[k]? = some (if ((k % 2 == 0) == decide ((layerN P k : Int) < layerN P (k + 1))) = true then 86 else 77) := by
  rw [crsOf, strOf_list, lettersZ, List.map_map, List.getElem?_map, crs_at zs k hk]
  simp only [Option.map_some, Function.comp, letterZ]
  rw [layersOf_get hn hv hl (by omega : k < zs.length), layersOf_get hn hv hl hk]
  split <;> rfl
theorem crsOf_length (zs : List Int) (P : List Nat) : (crsOf zs P).data.toList.length = zs.length - 1 := by
  rw [crsOf, strOf_list, List.length_map, lettersZ, List.length_map, layCl_crs]

theorem exists_order {zs : List Int} {cs : List UInt8} (hcl : cs.length + 1 = zs.length) (hlet : ∀ b ∈ cs, letB b = true) : (∃ O, O ∈ ordersOf (layCl zs) zs.length ∧ (crsOf zs O).data.toList = cs) ↔ FdL zs cs := by
  constructor
  · rintro ⟨O, hO, hc⟩
    obtain ⟨e1, e2, e3, e4⟩ := mem_orders.1 hO
    have hN := noCross_nc.1 ((okFrom_iff (strip_fair zs) e1 e2 e3).1 e4)
    refine ⟨fun s => (layerN O s : Int), fun i j hi hj (e : (layerN O i : Int) = layerN O j) => layerN_inj e1 e2 e3 hi hj (by omega), hN, fun k hk => ?_⟩
    have := crsOf_at e1 e2 e3 k hk
    rw [hc] at this
    show (cs[k]?.getD 0 == 86) = true ↔ (k % 2 = 0 ↔ (layerN O k : Int) < layerN O (k + 1))
    rw [this, Option.getD_some]
    by_cases h1 : k % 2 = 0 <;> by_cases h2 : (layerN O k : Int) < layerN O (k + 1) <;> simp [h1, h2]
  · rintro ⟨A, hi, hN, hp⟩
    have hperm := List.mergeSort_perm (List.range zs.length) (fun a b => decide (A a ≤ A b))
    have hsort := List.pairwise_mergeSort (le := fun a b => decide (A a ≤ A b)) (fun a b c h1 h2 => by simp only [decide_eq_true_eq] at *; omega) (fun a b => by simp only [Bool.or_eq_true, decide_eq_true_eq]; omega) (List.range zs.length)
    obtain ⟨O, hO⟩ : ∃ O, (List.range zs.length).mergeSort (fun a b => decide (A a ≤ A b)) = O := ⟨_, rfl⟩
    rw [hO] at hperm hsort
    have e1 : O.Nodup := hperm.nodup_iff.2 List.nodup_range
    have e2 : ∀ x ∈ O, x < zs.length := fun x hx => List.mem_range.1 (hperm.mem_iff.1 hx)
    have e3 : O.length = zs.length := by rw [hperm.length_eq, List.length_range]
    rw [List.pairwise_iff_getElem] at hsort
    have ord : ∀ s t, s < zs.length → t < zs.length → (((layerN O s : Nat) : Int) < (layerN O t : Nat) ↔ A s < A t) := by
      have one : ∀ s t, s < zs.length → t < zs.length → layerN O s < layerN O t → A s < A t := by
        intro s t hs ht h
        have l1 := layerN_lt e1 e2 e3 hs
        have l2 := layerN_lt e1 e2 e3 ht
        have a1 := layerN_at e1 e2 e3 hs
        have a2 := layerN_at e1 e2 e3 ht
        have := hsort (layerN O s) (layerN O t) (by omega) (by omega) h
        rw [List.getElem?_eq_getElem (by omega)] at a1 a2
        simp only [Option.getD_some] at a1 a2
        rw [a1, a2] at this
        have hle : A s ≤ A t := by simpa using this
        have hne : A s ≠ A t := fun e => by
          have := hi s t hs ht e
          subst this
          omega
        omega
      intro s t hs ht
      constructor
      · intro h; exact one s t hs ht (by omega)
      · intro h
        have : ¬ layerN O t ≤ layerN O s := by
          intro hc
          rcases Nat.lt_or_eq_of_le hc with hc | hc
          · have := one t s ht hs hc; omega
          · have := layerN_inj e1 e2 e3 ht hs hc
            subst this
            omega
        omega
    have hbt : ∀ i s t, i < zs.length → s < zs.length → t < zs.length → (Btw (layerN O i : Int) (layerN O s : Int) (layerN O t : Int) ↔ Btw (A i) (A s) (A t)) := fun i s t h1 h2 h3 => btw_of (ord i s h1 h2) (ord s i h2 h1) (ord i t h1 h3) (ord t i h3 h1)
    have hN' : NC zs.length (posAt zs) (fun s => (layerN O s : Int)) :=
      ⟨fun k i hk hi' hb hc => hN.seg k i hk hi' hb ((hbt i k (k + 1) hi' (by omega) hk).1 hc), fun j k hj hk e hm => by
        rw [hbt j k (k + 1) (by omega) (by omega) hk, hbt (j + 1) k (k + 1) hj (by omega) hk]; exact hN.cr j k hj hk e hm⟩
    refine ⟨O, mem_orders.2 ⟨e1, e2, e3, (okFrom_iff (strip_fair zs) e1 e2 e3).2 (noCross_nc.2 hN')⟩, ?_⟩
    refine List.ext_getElem? fun k => ?_
    by_cases hk : k + 1 < zs.length
    · rw [crsOf_at e1 e2 e3 k hk]
      have hkc : k < cs.length := by omega
      have q : (cs[k]?.getD 0 == 86) = true ↔ (k % 2 = 0 ↔ A k < A (k + 1)) := hp k hk
      have o := ord k (k + 1) (by omega) hk
      rw [List.getElem?_eq_getElem hkc] at q ⊢
      have l := let_or (hlet _ (List.getElem_mem hkc))
      simp only [Option.getD_some] at q
      congr 1
      rw [← o] at q
      generalize cs[k] = b at *
      rcases l with rfl | rfl
      · have q' : ¬ (k % 2 = 0 ↔ (layerN O k : Int) < layerN O (k + 1)) := fun h => by have := q.2 h; cases this
        by_cases h1 : k % 2 = 0 <;> by_cases h2 : (layerN O k : Int) < layerN O (k + 1) <;> simp [h1, h2] at q' ⊢
      · have q' : (k % 2 = 0 ↔ (layerN O k : Int) < layerN O (k + 1)) := q.1 rfl
        by_cases h1 : k % 2 = 0 <;> by_cases h2 : (layerN O k : Int) < layerN O (k + 1) <;> simp [h1, h2] at q' ⊢
    · rw [List.getElem?_eq_none (by rw [crsOf_length]; omega), List.getElem?_eq_none (by omega)]

/-- F1. -/
theorem reduced_iff {zs : List Int} {cs : List UInt8} (h : Good 1000000 zs cs) : (∃ O, O ∈ ordersOf (layCl zs) zs.length ∧ (crsOf zs O).data.toList = cs) ↔ (redAll zs.length zs cs).1.length = 1 := by
  rw [exists_order h.len h.let_]
  exact (redAll_fd zs.length zs cs h (by omega)).1

end Go.Proofs.Ytfgenpailmgkiaa

namespace Go.Proofs.Ytfgenpailmgkiaa
open Go.RowKit Go.Sort Go.Shelf

theorem pat_push {q : ByteArray} {k : Nat} {c : UInt8} (hc : letB c = true) (h1 : q.size = k) (h2 : q.data.toList.all letB = true) : (q ++ (⟨#[c]⟩ : ByteArray)).size = k + 1 ∧ (q ++ (⟨#[c]⟩ : ByteArray)).data.toList.all letB = true := by
  obtain ⟨p1, p2⟩ := bytes_push q c _ _ h1 rfl
  refine ⟨p1, ?_⟩
  rw [p2, List.all_append, h2]
  simp [hc]

set_option maxHeartbeats 1000000 in
theorem lettersLaw_any (bits : Int) (m : Nat) (w : World) (h0 : 0 ≤ bits) (h1 : bits ≤ 65535) (hm : m ≤ 9) :
    Calls Try.prog 41 #[.int .u16 bits, .int .i64 m] w fun e w' => ∃ q, e = .returned (.string q) ∧ patB q m = true ∧ w = w' := by
  go_enter Try.func41, Try.ntmps41
  go_wp2
  go_loop [5, 6] (fun t i => ∃ k : Nat, k ≤ m ∧ i = .int .i64 k ∧ ∃ q : ByteArray, t = .string q ∧ Hid (q.size = k) ∧ Hid (q.data.toList.all letB = true)) (fun _ i => m - (intOf i).toNat)
  case atStart => exact ⟨0, Nat.zero_le _, rfl, _, rfl, Lib.hid rfl, Lib.hid rfl⟩
  case round =>
    obtain ⟨k, hk, rfl, q, rfl, hq1, hq2⟩ := hrel
    have hq3 : q.size ≤ 1000 := by rw [hq1.out]; omega
    by_cases hlt : k < m
    · go_wp2
      all_goals
        go_round
        case rel =>
          first
            | (obtain ⟨p1, p2⟩ := pat_push (c := 86) rfl hq1.out hq2.out
               exact ⟨k + 1, by omega, by go_num, _, rfl, Lib.hid p1, Lib.hid p2⟩)
            | (obtain ⟨p1, p2⟩ := pat_push (c := 77) rfl hq1.out hq2.out
               exact ⟨k + 1, by omega, by go_num, _, rfl, Lib.hid p1, Lib.hid p2⟩)
        case measure => simp [intOf]; omega
    · go_wp2
      go_ret
      obtain rfl : k = m := by omega
      exact ⟨q, rfl, by rw [patB, hq1.out, hq2.out]; simp, rfl⟩

end Go.Proofs.Ytfgenpailmgkiaa

namespace Go.Proofs.Ytfgenpailmgkiaa
open Go.RowKit Go.Sort Go.Shelf

theorem redAll_len {m : Int} : ∀ (k : Nat) (zs : List Int) (cs : List UInt8), Good m zs cs → (redAll k zs cs).1.length ≤ zs.length
  | 0, _, _, _ => Nat.le_refl _
  | k + 1, zs, cs, h => by
    rw [redAll]
    cases e : redZ zs cs with
    | none => exact Nat.le_refl _
    | some p =>
      obtain ⟨g1, g2⟩ := redZ_good h e
      have := redAll_len k p.1 p.2 g1
      exact Nat.le_trans this (by omega)
theorem bytes_same {a b : ByteArray} (h : a.data.toList = b.data.toList) : a = b := by
  cases a; cases b; simp at h; simp [h]
theorem folds_of {zs : List Int} {O : List Nat} (hs : stripB zs = true) (hO : O ∈ ordersOf (layCl zs) zs.length) : foldsZ zs (O.map fun (x : Nat) => (x : Int)) = (true, 0) := by
  obtain ⟨h1, h2, h3, h4⟩ := mem_orders.1 hO
  rw [foldsZ, if_pos hs, if_pos (orderB_of h1 h2 h3), toNat_back, h4]

/-- What 'Reduce' and 'Layers' answer, together. -/
theorem both {l : List Int} {q : ByteArray} (hg : stripB l = true) (hp : patB q (l.length - 1) = true) :
    (∃ O, (ordersOf (layCl l) l.length).find? (fun o => (crsOf l o).toList == q.toList) = some O ∧ O ∈ ordersOf (layCl l) l.length ∧ crsOf l O = q ∧ (redAll l.length l q.data.toList).1.length = 1) ∨
    ((ordersOf (layCl l) l.length).find? (fun o => (crsOf l o).toList == q.toList) = none ∧ (redAll l.length l q.data.toList).1.length ≠ 1) := by
  have hF := reduced_iff (good_of hg hp)
  cases e : (ordersOf (layCl l) l.length).find? (fun o => (crsOf l o).toList == q.toList) with
  | some O =>
    have h1 := List.mem_of_find?_eq_some e
    have h2 := List.find?_some e
    simp only [beq_iff_eq] at h2
    rw [Lib.toList_data, Lib.toList_data] at h2
    exact .inl ⟨O, rfl, h1, bytes_same h2, hF.1 ⟨O, h1, h2⟩⟩
  | none =>
    refine .inr ⟨rfl, fun h => ?_⟩
    obtain ⟨O, h1, h2⟩ := hF.2 h
    have := List.find?_eq_none.1 e O h1
    simp only [beq_iff_eq] at this
    rw [Lib.toList_data, Lib.toList_data] at this
    exact this h2

set_option maxRecDepth 200000 in
set_option maxHeartbeats 4000000 in
theorem FoldReduced_any (n cap : Nat) (a : Option Addr) (zs : List Int) (bits sz : Int) (w : World) (hn : zs.length = n) (hm : n ≤ 9223372036854775807) (hz : Ints w a zs) (hi : ∀ z ∈ zs, -9223372036854775808 ≤ z ∧ z ≤ 9223372036854775807)
    (hb0 : 0 ≤ bits) (hb1 : bits ≤ 65535) (hs0 : 0 ≤ sz) (hs1 : sz ≤ 255) :
    Calls Try.prog 8 #[.slice a n cap, .int .u16 bits, .int .u8 sz] w fun e w' => e = .returned (.bool true) ∧ Below w.heap.size w w' := by
  have hst := Lib.hid (strip_any' a n cap 9 (sz % 6 + 1) zs w hn hm hz hi (by omega) (by omega) (by omega) (by omega))
  have hg := stripOf_good zs 9 (sz % 6 + 1) (by omega) (by omega) (by omega) (by omega)
  obtain ⟨l, hl⟩ : ∃ l, stripOf zs 9 (sz % 6 + 1) = l := ⟨_, rfl⟩
  rw [hl] at hst hg
  obtain ⟨hgood, hl9⟩ := hg
  have HG := Lib.hid hgood
  obtain ⟨p1, p9, _⟩ := strip_parts hgood
  clear hl hz hi hn hm hgood
  have HV := Lib.hid lives_any
  go_enter Try.func8, Try.ntmps8
  go_wp2_with fail
  refine hst.out.mono ?_
  rintro e w1 ⟨v, rfl, hv, hb1⟩
  obtain ⟨g1, c1, rfl, hI1⟩ := hv.ints
  have H1 := Lib.hid (And.intro hI1 hb1)
  clear hv hI1 hb1 hst
  go_wp2_with fail
  have hcast : (l.length : Int) - 1 = ((l.length - 1 : Nat) : Int) := by omega
  rw [hcast]
  refine (lettersLaw_any bits (l.length - 1) w1 hb0 hb1 (by omega)).mono ?_
  rintro e w2 ⟨q, rfl, hq, rfl⟩
  have HQ := Lib.hid hq
  have hqs : q.size ≤ 1000000 := by
    simp only [patB, Bool.and_eq_true, beq_iff_eq] at hq
    omega
  clear hq hcast
  have hrg := (redAll_fd l.length l q.data.toList (good_of HG.out HQ.out) (by omega)).2
  have hrl := redAll_len l.length l q.data.toList (good_of HG.out HQ.out)
  obtain ⟨R, hR⟩ : ∃ R, redAll l.length l q.data.toList = R := ⟨_, rfl⟩
  have hboth := both HG.out HQ.out
  rw [hR] at hrg hrl hboth
  have HR := Lib.hid (And.intro hR hrg)
  have hred : Hid (∀ (wx : World), Below w1.heap.size w1 wx → Calls Try.prog 27 #[.slice (some ⟨g1, 0, none⟩) l.length c1, .string q] wx (fun e w' => ∃ (g o cp : Nat) (s' : ByteArray), e = .returned (.tuple #[.slice (some ⟨g, o, none⟩) R.1.length cp, .string s', .int .i64 0]) ∧ s'.size + 1 = R.1.length ∧ Below wx.heap.size wx w')) := Lib.hid fun wx hbx => by
    refine (Reduce_good g1 0 l.length c1 l q wx rfl (H1.out.1.below hbx) HG.out HQ.out).mono ?_
    rintro e w' ⟨g, o, cp, s', rfl, h1, h2, h3⟩
    refine ⟨g, o, cp, s', by rw [HR.out.1], ?_, h3⟩
    have := HR.out.2.len
    rw [← HR.out.1, ← h1, size_list] at this
    rw [HR.out.1] at this
    exact this
  have hlay : Hid (∀ (wx : World), Below w1.heap.size w1 wx → Calls Try.prog 26 #[.slice (some ⟨g1, 0, none⟩) l.length c1, .string q] wx (LayersPost l q wx)) := Lib.hid fun wx hbx => (callsIn_wide (n := 0)).1 (Layers_good _ l.length c1 0 l q wx rfl (H1.out.1.below hbx) HG.out HQ.out)
  obtain ⟨rl, hrlv⟩ : ∃ rl, R.1.length = rl := ⟨_, rfl⟩
  rw [hrlv] at hred hrl hboth
  clear hR hrg hrlv
  go_wp2_with fail
  refine (hred.out w1 (Below.refl _ _)).mono ?_
  rintro e w2 ⟨g2, o2, c2, s2, rfl, hs2, hb2⟩
  have H2 := Lib.hid hb2
  obtain ⟨t, ht⟩ : ∃ t, s2.size = t := ⟨_, rfl⟩
  rw [ht] at hs2
  subst hs2
  clear hb2 hred
  go_wp2_with fail
  refine (hlay.out w2 H2.out).mono ?_
  rintro e w3 ⟨v, err, rfl, hb3, hf⟩
  have hb13 := H2.out.trans (hb3.mono H2.out.size)
  have H3 := Lib.hid (And.intro (H1.out.1.below hb13) (H1.out.2.trans (hb13.mono H1.out.2.size)))
  clear hb3 hb13 hlay
  rcases hboth with ⟨O, e1, e2, e3, e4⟩ | ⟨e1, e2⟩
  · rw [e1] at hf
    obtain ⟨rfl, g3, c3, rfl, _, hrow⟩ := hf
    have hI3 : Ints w3 (some ⟨g3, 0, none⟩) (O.map fun (x : Nat) => (x : Int)) := Ints.of_nats hrow
    have H4 := Lib.hid (And.intro H3.out.1 (And.intro hI3 H3.out.2))
    have HO := Lib.hid (And.intro (folds_of HG.out e2) (creasesZ_of HG.out e2))
    have hol : (O.map fun (x : Nat) => (x : Int)).length = l.length := by rw [List.length_map]; exact (mem_orders.1 e2).2.2.1
    have ht0 : t = 0 := by omega
    subst ht0
    rw [e3] at HO
    generalize (O.map fun (x : Nat) => (x : Int)) = ol at *
    clear e1 e2 e3 e4 hrow hI3 H3 H2
    go_wp2_with fail
    refine ((callsIn_wide (n := 0)).1 (HV.out _ _)).mono ?_
    rintro e w5 ⟨rfl, hb5⟩
    have H5 := Lib.hid (And.intro (H4.out.1.below hb5) (And.intro (H4.out.2.1.below hb5) (H4.out.2.2.trans (hb5.mono H4.out.2.2.size))))
    clear hb5 H4
    go_wp2_with fail
    refine (Folds_any _ _ l.length c1 l.length c3 l ol w5 true 0 rfl (by omega) H5.out.1 hol (by omega) H5.out.2.1 HO.out.1).mono ?_
    rintro e w6 ⟨rfl, hb6⟩
    have H6 := Lib.hid (And.intro (H5.out.1.below hb6) (And.intro (H5.out.2.1.below hb6) (H5.out.2.2.trans (hb6.mono H5.out.2.2.size))))
    clear hb6 H5
    go_wp2_with fail
    refine (Creases_any _ _ l.length c1 l.length c3 l ol w6 q 0 rfl (by omega) H6.out.1 hol (by omega) H6.out.2.1 HO.out.2).mono ?_
    rintro e w7 ⟨rfl, hb7⟩
    have H7 := Lib.hid (H6.out.2.2.trans (hb7.mono H6.out.2.2.size))
    clear hb7
    go_wp2
    go_ret
    exact ⟨rfl, H7.out⟩
  · rw [e1] at hf
    obtain ⟨rfl, rfl⟩ := hf
    have ht1 : 1 ≤ t := by omega
    have hd1 : decide ((t : Int) + 1 < 1) = false := decide_eq_false (by omega)
    have hd2 : (((t : Int) + 1) == 1) = false := by rw [beq_eq_false_iff_ne]; omega
    clear e1 e2 H2
    go_wp2_with fail
    refine ((callsIn_wide (n := 0)).1 (HV.out _ _)).mono ?_
    rintro e w5 ⟨rfl, hb5⟩
    have H5 := Lib.hid (H3.out.2.trans (hb5.mono H3.out.2.size))
    clear hb5 H3
    go_wp2
    go_ret
    exact ⟨rfl, H5.out⟩

end Go.Proofs.Ytfgenpailmgkiaa

