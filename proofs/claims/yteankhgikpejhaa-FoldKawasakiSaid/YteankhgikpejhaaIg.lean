/-
  The walk of 'FoldBijection'.
-/
import Derived.Test.YteankhgikpejhaaId
import Derived.Test.YteankhgikpejhaaIe
import Derived.Test.YteankhgikpejhaaIf
import Derived.Test.YteankhgikpejhaaHf
namespace Go.Proofs.Yteankhgikpejhaa
open Go.RowKit Go.Sort Go.Shelf

/-- 'At' within the count: the order with that number. -/
def AtNum (zs : List Int) (r : Nat) (w : World) (e : Ending) (w' : World) : Prop := ∃ O g cap, (ordersOf (layCl zs) zs.length)[r]? = some O ∧ e = .returned (.tuple #[.slice (some ⟨g, 0, none⟩) zs.length cap, .int .i64 0]) ∧ Ints w' (some ⟨g, 0, none⟩) (O.map fun (x : Nat) => (x : Int)) ∧ Below w.heap.size w w'
theorem At_num (a : Option Addr) (n cap m : Nat) (zs : List Int) (r : Int) (w : World) (hn : zs.length = n) (hz : Ints w a zs) (hs : stripB zs = true) (h0 : 0 ≤ r) (h1 : r < countOf zs) :
    CallsIn Fence.wide m Try.prog 32 #[.slice a n cap, .int .i64 r] w (AtNum zs r.toNat w) := by
  refine (At_good a n cap m zs r w hn hz hs).mono ?_
  rintro e w' ⟨v, err, rfl, hb, hm⟩
  have hr : r.toNat < (ordersOf (layCl zs) zs.length).length := by unfold countOf at h1; omega
  rw [atZ, if_pos h0, List.getElem?_eq_getElem hr] at hm
  obtain ⟨rfl, g, cp, rfl, _, hr2⟩ := hm
  exact ⟨_, g, cp, List.getElem?_eq_getElem hr, rfl, Ints.of_nats hr2, hb⟩
theorem At_out (a : Option Addr) (n cap m : Nat) (zs : List Int) (r : Int) (w : World) (hn : zs.length = n) (hz : Ints w a zs) (hs : stripB zs = true) (h1 : (countOf zs : Int) ≤ r) :
    CallsIn Fence.wide m Try.prog 32 #[.slice a n cap, .int .i64 r] w (Gives2 (.slice none 0 0) (.int .i64 5) w) := by
  refine (At_good a n cap m zs r w hn hz hs).mono ?_
  rintro e w' ⟨v, err, rfl, hb, hm⟩
  have hr : (ordersOf (layCl zs) zs.length).length ≤ r.toNat := by unfold countOf at h1; omega
  rw [atZ, if_pos (by omega), List.getElem?_eq_none hr] at hm
  obtain ⟨rfl, rfl⟩ := hm
  exact ⟨rfl, hb⟩

theorem idx_at {l : List (List Nat)} (hn : l.Nodup) {r : Nat} {O : List Nat} (h : l[r]? = some O) : l.idxOf O = r := by
  obtain ⟨hr, rfl⟩ := List.getElem?_eq_some_iff.1 h
  exact hn.idxOf_getElem r hr
theorem lex_next {c : Cl} {n r : Nat} {O O2 : List Nat} (h : (ordersOf c n)[r]? = some O) (h2 : (ordersOf c n)[r + 1]? = some O2) : LexLt O O2 := by
  obtain ⟨hr, rfl⟩ := List.getElem?_eq_some_iff.1 h
  obtain ⟨hr2, rfl⟩ := List.getElem?_eq_some_iff.1 h2
  exact (List.pairwise_iff_getElem.1 (orders_sorted c n)) r (r + 1) hr hr2 (by omega)

theorem refFolds_n (a aO : Option Addr) (n cap cO : Nat) (zs : List Int) (O : List Nat) (w : World) (hn : zs.length = n) (h1 : 1 ≤ n) (hg : stripB zs = true) (hz : Ints w a zs) (hl : O.length = n) (hv : ∀ x ∈ O, x < n) (hO : Ints w aO (O.map fun (x : Nat) => (x : Int))) (h : refB zs O = true) :
    Calls Try.prog 22 #[.slice a n cap, .slice aO n cO, .bool false] w fun e w' => e = .returned (.bool true) ∧ Below w.heap.size w w' := by
  obtain ⟨m, rfl⟩ : ∃ m, n = m + 1 := ⟨n - 1, by omega⟩
  rw [← h]
  exact refFolds_any a aO m cap cO zs O w hn hg hz hl hv hO
theorem perm_yes (a : Option Addr) (n cap : Nat) (zs : List Int) (N : Int) (w : World) (hn : zs.length = n) (hm : n ≤ 1000) (hN : 0 ≤ N) (hN2 : N ≤ 1000) (hz : Ints w a zs) (h : permR zs N = true) :
    Calls Try.prog 20 #[.slice a n cap, .int .i64 N] w fun e w' => e = .returned (.bool true) ∧ Below w.heap.size w w' := by
  rw [← h]
  exact Permutation_any a n cap zs N w hn hm hN hN2 hz

attribute [local go_sem] Oper.semAt_some
set_option maxRecDepth 200000 in
set_option maxHeartbeats 8000000 in
theorem FoldBijection_any (m n cap : Nat) (a : Option Addr) (zs : List Int) (at_ : Int) (w : World) (hn : zs.length = n) (hm : n ≤ 9223372036854775807) (hz : Ints w a zs) (hi : ∀ z ∈ zs, -9223372036854775808 ≤ z ∧ z ≤ 9223372036854775807)
    (ha0 : 0 ≤ at_) (ha1 : at_ ≤ 65535) :
    CallsIn Fence.wide m Try.prog 9 #[.slice a n cap, .int .u16 at_] w fun e w' => e = .returned (.bool true) ∧ Below w.heap.size w w' := by
  have hst := Lib.hid (strip_any' a n cap 7 5 zs w hn hm hz hi (by omega) (by omega) (by omega) (by omega))
  obtain ⟨l, hl⟩ : ∃ l, stripOf zs 7 5 = l := ⟨_, rfl⟩
  have hg := stripOf_good zs 7 5 (by omega) (by omega) (by omega) (by omega)
  rw [hl] at hst hg
  obtain ⟨hgood, hl7⟩ := hg
  have HG := Lib.hid hgood
  clear hl hz hi hn hm hgood
  have HV := Lib.hid lives_any
  refine callsIn_wide.2 ?_
  go_enter Try.func9, Try.ntmps9
  go_wp2_with fail
  refine (hst.out).mono ?_
  rintro e w1 ⟨v, rfl, hv, hb1⟩
  obtain ⟨g1, c1, rfl, hI1⟩ := hv.ints
  have H1 := Lib.hid (And.intro hI1 hb1)
  clear hv hI1 hb1 hst
  go_wp2_with fail
  refine ((callsIn_wide (n := 0)).1 (Count_good _ l.length c1 _ l w1 rfl H1.out.1 HG.out)).mono ?_
  obtain ⟨cnt, hcnt⟩ : ∃ cnt : Nat, countOf l = cnt := ⟨_, rfl⟩
  have hc1 : 1 ≤ (cnt : Int) := by have := count_pos l; omega
  have hc2 : (cnt : Int) ≤ 387420489 := by
    have := ordersOf_le (layCl l) l.length (by omega)
    unfold countOf at hcnt
    omega
  have HCN := Lib.hid hcnt
  rw [hcnt]
  clear hcnt
  rintro e w2 ⟨rfl, hb2⟩
  have H2 := Lib.hid (And.intro (H1.out.1.below hb2) (H1.out.2.trans (hb2.mono H1.out.2.size)))
  clear hb2 H1
  go_wp2_with fail
  refine ((callsIn_wide (n := 0)).1 (HV.out _ _)).mono ?_
  rintro e w3 ⟨rfl, hb3⟩
  have H3 := Lib.hid (And.intro (H2.out.1.below hb3) (H2.out.2.trans (hb3.mono H2.out.2.size)))
  clear hb3 H2
  go_wp2_with fail
  have hr0 := Int.emod_nonneg at_ (show (cnt : Int) ≠ 0 by omega)
  have hr1 := Int.emod_lt_of_pos at_ (show (0 : Int) < cnt by omega)
  obtain ⟨r, hr⟩ : ∃ r : Nat, at_ % (cnt : Int) = r := ⟨(at_ % (cnt : Int)).toNat, by omega⟩
  rw [hr] at hr0 hr1 ⊢
  clear hr hr0
  refine ((callsIn_wide (n := 0)).1 (At_num _ l.length c1 _ l _ w3 rfl H3.out.1 HG.out (by omega) (by rw [HCN.out]; exact hr1))).mono ?_
  rintro e w4 ⟨O, g4, c4, hO, rfl, hI4, hb4⟩
  rw [Int.toNat_natCast] at hO
  have hOm : O ∈ ordersOf (layCl l) l.length := List.mem_of_getElem? hO
  have HO := Lib.hid (And.intro hO hOm)
  have HOK := Lib.hid (mem_orders.1 hOm)
  have H4 := Lib.hid (And.intro (H3.out.1.below hb4) (And.intro hI4 (H3.out.2.trans (hb4.mono H3.out.2.size))))
  clear hb4 hI4 H3 hO hOm
  go_wp2_with fail
  refine ((callsIn_wide (n := 0)).1 (Rank_good _ _ l.length c1 l.length c4 _ l O w4 rfl H4.out.1 HG.out HO.out.2 rfl H4.out.2.1)).mono ?_
  rw [idx_at (orders_nodup _ _) HO.out.1]
  rintro e w5 ⟨rfl, hb5⟩
  have H5 := Lib.hid (And.intro (H4.out.1.below hb5) (And.intro (H4.out.2.1.below hb5) (H4.out.2.2.trans (hb5.mono H4.out.2.2.size))))
  clear hb5 H4
  have hlO : Hid ((O.map fun (x : Nat) => (x : Int)).length = l.length) := Lib.hid (by rw [List.length_map]; exact HOK.out.2.2.1)
  have HP : Hid (permR (O.map fun (x : Nat) => (x : Int)) l.length = true) := Lib.hid (by rw [permR_iff]; exact orderB_of HOK.out.1 HOK.out.2.1 HOK.out.2.2.1)
  have hl1 : 1 ≤ l.length := (strip_parts HG.out).1
  obtain ⟨q, hq⟩ : ∃ q, l.length = q + 1 := ⟨l.length - 1, by omega⟩
  have HF : Hid (refB l O = true) := Lib.hid (by rw [refB_ok HG.out HOK.out.1 HOK.out.2.1 HOK.out.2.2.1]; exact HOK.out.2.2.2)
  have HQ := Lib.hid hq
  clear hq
  by_cases hlast : r + 1 = cnt
  · have hl2 : ((r : Int) + 1 == (cnt : Int)) = true := by rw [beq_iff_eq]; omega
    clear hlast
    go_wp2_with fail
    refine ((callsIn_wide (n := 0)).1 (At_out _ l.length c1 _ l _ w5 rfl H5.out.1 HG.out (by rw [HCN.out]; rw [beq_iff_eq] at hl2; omega))).mono ?_
    rintro e w6 ⟨rfl, hb6⟩
    have H6 := Lib.hid (And.intro (H5.out.1.below hb6) (And.intro (H5.out.2.1.below hb6) (H5.out.2.2.trans (hb6.mono H5.out.2.2.size))))
    clear hb6
    go_wp2_with fail
    refine (perm_yes _ l.length c4 (O.map fun (x : Nat) => (x : Int)) l.length w6 hlO.out (by omega) (by omega) (by omega) H6.out.2.1 HP.out).mono ?_
    rintro e w7 ⟨rfl, hb7⟩
    have H7 := Lib.hid (And.intro (H6.out.1.below hb7) (And.intro (H6.out.2.1.below hb7) (H6.out.2.2.trans (hb7.mono H6.out.2.2.size))))
    clear hb7
    go_wp2_with fail
    refine (refFolds_n _ _ l.length c1 c4 l O w7 rfl hl1 HG.out H7.out.1 HOK.out.2.2.1 HOK.out.2.1 H7.out.2.1 HF.out).mono ?_
    rintro e w8 ⟨rfl, hb8⟩
    have H8 := Lib.hid (H7.out.2.2.trans (hb8.mono H7.out.2.2.size))
    clear hb8
    go_wp2_with fail
    go_ret
    exact ⟨rfl, H8.out⟩
  · have hl2 : ((r : Int) + 1 == (cnt : Int)) = false := by rw [beq_eq_false_iff_ne]; omega
    have hlt2 : (r : Int) + 1 < (cnt : Int) := by omega
    clear hlast
    go_wp2_with fail
    refine ((callsIn_wide (n := 0)).1 (At_num _ l.length c1 _ l _ w5 rfl H5.out.1 HG.out (by omega) (by rw [HCN.out]; exact hlt2))).mono ?_
    rintro e w6 ⟨O2, g6, c6, hO2, rfl, hI6, hb6⟩
    rw [show ((r : Int) + 1).toNat = r + 1 by omega] at hO2
    have HLx := Lib.hid (lex_next HO.out.1 hO2)
    have hO2m := (mem_orders.1 (List.mem_of_getElem? hO2))
    have HO2 := Lib.hid hO2m
    have H6 := Lib.hid (And.intro (H5.out.1.below hb6) (And.intro (H5.out.2.1.below hb6) (And.intro hI6 (H5.out.2.2.trans (hb6.mono H5.out.2.2.size)))))
    clear hb6 hI6 hO2 hO2m
    go_wp2_with fail
    refine (perm_yes _ l.length c4 (O.map fun (x : Nat) => (x : Int)) l.length w6 hlO.out (by omega) (by omega) (by omega) H6.out.2.1 HP.out).mono ?_
    rintro e w7 ⟨rfl, hb7⟩
    have H7 := Lib.hid (And.intro (H6.out.1.below hb7) (And.intro (H6.out.2.1.below hb7) (And.intro (H6.out.2.2.1.below hb7) (H6.out.2.2.2.trans (hb7.mono H6.out.2.2.2.size)))))
    clear hb7
    go_wp2_with fail
    refine (refFolds_n _ _ l.length c1 c4 l O w7 rfl hl1 HG.out H7.out.1 HOK.out.2.2.1 HOK.out.2.1 H7.out.2.1 HF.out).mono ?_
    rintro e w8 ⟨rfl, hb8⟩
    have H8 := Lib.hid (And.intro (H7.out.2.1.below hb8) (And.intro (H7.out.2.2.1.below hb8) (H7.out.2.2.2.trans (hb8.mono H7.out.2.2.2.size))))
    clear hb8
    go_wp2_with fail
    obtain ⟨p, hp1, hp2, htk, hlt⟩ := HLx.out
    have hpl : p < l.length := by have := HOK.out.2.2.1; omega
    have HLL := Lib.hid (show ∃ h1 : p < O.length, ∃ h2 : p < O2.length, O.take p = O2.take p ∧ O[p] < O2[p] from ⟨hp1, hp2, htk, hlt⟩)
    clear hp1 hp2 htk hlt HP HF
    go_loopw [15] (fun i wr => ∃ k : Nat, k ≤ p ∧ i = .int .i64 k ∧ Below w8.heap.size w8 wr) (fun i _ => p - (intOf i).toNat)
    case atStart => exact ⟨0, Nat.zero_le _, rfl, Below.refl _ _⟩
    case round =>
      obtain ⟨k, hk, rfl, hb⟩ := hrel
      obtain ⟨hp1, hp2, htk, hlt⟩ := HLL.out
      have hk1 : k < O.length := by omega
      have hk2 : k < O2.length := by omega
      obtain ⟨b, off, e, hc1'⟩ := (H8.out.1.below hb) k (by simpa using hk1)
      cases e
      obtain ⟨b, off, e, hc2'⟩ := (H8.out.2.1.below hb) k (by simpa using hk2)
      cases e
      rw [Nat.zero_add, List.getElem?_map, List.getElem?_eq_getElem hk1] at hc1'
      rw [Nat.zero_add, List.getElem?_map, List.getElem?_eq_getElem hk2] at hc2'
      simp only [Option.map_some, Option.getD_some] at hc1' hc2'
      have HB := Lib.hid (H8.out.2.2.trans (hb.mono H8.out.2.2.size))
      have HB0 := Lib.hid hb
      by_cases hkp : k = p
      · subst hkp
        have hne : ((O[k] : Int) != (O2[k] : Int)) = true := by rw [bne_iff_ne]; omega
        have hlt' : decide ((O[k] : Int) < (O2[k] : Int)) = true := decide_eq_true (by omega)
        generalize (O[k] : Int) = x at *
        generalize (O2[k] : Int) = y at *
        clear hlt htk hp1 hp2 hb
        go_wp2
        go_quiet (fail)
        go_wp2
        go_quiet (fail)
        go_wp2
        go_ret
        exact ⟨rfl, below_drewN (below_drewN HB.out _) _⟩
      · have heq : O[k] = O2[k] := by
          have := congrArg (fun z : List Nat => z[k]?) htk
          simp only [List.getElem?_take, if_pos (show k < p by omega), List.getElem?_eq_getElem hk1, List.getElem?_eq_getElem hk2, Option.some.injEq] at this
          exact this
        have hne : ((O[k] : Int) != (O2[k] : Int)) = false := by rw [bne_eq_false_iff_eq, heq]
        generalize (O[k] : Int) = x at *
        generalize (O2[k] : Int) = y at *
        clear hlt htk hp1 hp2 hb heq
        go_wp2
        go_quiet (fail)
        go_wp2
        go_roundw
        case rel => exact ⟨k + 1, by omega, by go_num, below_drewN HB0.out _⟩
        case measure => simp [intOf]; omega

end Go.Proofs.Yteankhgikpejhaa
