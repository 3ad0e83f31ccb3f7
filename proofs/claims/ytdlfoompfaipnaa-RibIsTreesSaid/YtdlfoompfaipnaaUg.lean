/-
  Clique trees: the program's 'IsTree'.
-/
import Derived.Test.YtdlfoompfaipnaaUf
namespace Go.Proofs.Ytdlfoompfaipnaa
open Go.RowKit Go.Sort

theorem treeFrom_ok (c : Nat) : ∀ (t : List (Int × Int)) (ps : List Int), treeFrom c t ps = true → PairsOk c t
  | [], _, _ => fun p hp => by simp at hp
  | p :: t, ps, h => by
    rw [treeFrom] at h
    split at h
    · cases h
    · split at h
      · cases h
      · split at h
        · cases h
        · rw [Bool.and_eq_true] at h
          intro q hq
          rcases List.mem_cons.1 hq with rfl | hq
          · exact ⟨by omega, by omega, by omega⟩
          · exact treeFrom_ok c t _ h.2 q hq
theorem isTreeB_ok {c : Nat} {t : List (Int × Int)} (h : isTreeB c t = true) : PairsOk c t := by
  rw [isTreeB, Bool.and_eq_true] at h
  exact treeFrom_ok c t _ h.2

set_option maxRecDepth 100000 in
set_option maxHeartbeats 4000000 in
theorem IsTree_good (N : Int) (a aT : Option Addr) (m cap q cT : Nat) (es t : List (Int × Int)) (n : Nat) (gs : List Nat) (w : World) (hq : t.length = q) (hq2 : q ≤ 1000) (ht : Edges w aT t) (hN : N = n) (h2 : n ≤ 12) (hadj : Adj n gs es) (hne : cliquesN gs ≠ [])
    (hcall : Calls Try.prog 39 #[.int .i64 N, .slice a m cap] w (GoodG n gs w)) :
    Calls Try.prog 25 #[.int .i64 N, .slice a m cap, .slice aT q cT] w fun e w' => e = .returned (.tuple #[.bool (isTreeB (srtN (cliquesN gs)).length t && stayB (srtN (cliquesN gs)) t n), .int .i64 0]) ∧ Below w.heap.size w w' := by
  have HC := Lib.hid hcall
  have HT := Lib.hid ht
  have HTL := Lib.hid hq
  have HQ := Lib.hid (fun (wx : World) (g : Nat) (hr : RowG wx g gs) => cliques_any (some ⟨g, 0, none⟩) n n gs wx hadj.len h2 (fun i _ => hadj.lt16 h2 i) hr.sets hne)
  obtain ⟨L, hL⟩ : ∃ L, srtN (cliquesN gs) = L := ⟨_, rfl⟩
  have hLl : L.length ≤ 4096 := by
    rw [← hL, srt_len, cliquesN]
    refine Nat.le_trans (cls_len _ _) ?_
    rw [hadj.len]
    exact Nat.le_trans (Nat.pow_le_pow_right (by omega) h2) (by decide)
  have hL1 : 1 ≤ L.length := by
    rw [← hL, srt_len]
    cases hc : cliquesN gs with
    | nil => exact absurd hc hne
    | cons => simp
  have HLT : Hid (∀ i, i < L.length → L[i]?.getD 0 < 65536) := Lib.hid fun i hi => by
    rw [List.getElem?_eq_getElem hi, Option.getD_some]
    have h1 : L[i] ∈ cliquesN gs := by
      have : L[i] ∈ srtN (cliquesN gs) := by rw [hL]; exact List.getElem_mem hi
      exact (List.mem_mergeSort).1 this
    have := cls_lt _ _ _ h1
    rw [hadj.len] at this
    exact Nat.lt_of_lt_of_le this (Nat.le_trans (Nat.pow_le_pow_right (by omega) h2) (by decide))
  rw [hL] at HQ ⊢
  obtain ⟨ln, hln⟩ : ∃ ln, L.length = ln := ⟨_, rfl⟩
  have HLN := Lib.hid hln
  rw [hln] at hLl hL1 ⊢
  have HIT := Lib.hid (fun (wx : World) (aC : Option Addr) (cc : Nat) (hb : Below w.heap.size w wx) => isTree_any aC aT ln cc q cT t wx hL1 hLl HTL.out hq2 (HT.out.below hb))
  have HOK := Lib.hid (fun h => isTreeB_ok (c := ln) (t := t) h)
  have HSY := Lib.hid (fun (wx : World) (aG aC : Option Addr) (cG cc : Nat) (hS : Sets wx aC L) (hb : Below w.heap.size w wx) (hp : PairsOk ln t) => stays_any aG aC aT n cG ln cc q cT L t wx h2 HLN.out hLl HLT.out hS HTL.out hq2 (HT.out.below hb) hp)
  obtain ⟨r, hr⟩ : ∃ r, isTreeB ln t = r := ⟨_, rfl⟩
  rw [hr] at HIT HOK ⊢
  obtain ⟨s, hs⟩ : ∃ s, stayB L t n = s := ⟨_, rfl⟩
  rw [hs] at HSY ⊢
  clear hN hadj hne hcall hL hln ht hq hr hs
  go_enter Try.func25, Try.ntmps25
  go_wp2_with (go_at_call 39; refine HC.out.mono ?_; rintro e w1 ⟨g, rfl, hrr, hge, hb⟩; have HR := Lib.hid (And.intro hrr (And.intro hge hb)); clear hrr hge hb)
  go_wp2_with (go_at_call 47; refine (HQ.out _ g HR.out.1).mono ?_; rintro e w2 ⟨g2, cp2, rfl, hS, hge2, hb2⟩; rw [HLN.out]; have H2 := Lib.hid (And.intro hS (HR.out.2.2.trans (hb2.mono HR.out.2.2.size))); clear hS hge2 hb2)
  refine (HIT.out _ _ _ H2.out.2).mono ?_
  rintro e w3 ⟨rfl, hb3⟩
  have H3 : Hid (Sets w3 (some ⟨g2, 0, none⟩) L ∧ Below w.heap.size w w3) := Lib.hid ⟨H2.out.1.below hb3, H2.out.2.trans (hb3.mono H2.out.2.size)⟩
  clear hb3 H2
  cases r with
  | false =>
    go_wp2_with (fail)
    go_ret2
    exact ⟨rfl, H3.out.2⟩
  | true =>
    have HP := HOK.out rfl
    go_wp2_with (fail)
    refine (HSY.out _ _ _ _ _ H3.out.1 H3.out.2 HP).mono ?_
    rintro e w4 ⟨rfl, hb4⟩
    have HB4 := Lib.hid (H3.out.2.trans (hb4.mono H3.out.2.size))
    clear hb4
    go_wp2_with (fail)
    go_ret2
    exact ⟨rfl, HB4.out⟩

set_option maxRecDepth 100000 in
set_option maxHeartbeats 2000000 in
theorem IsTree_bad {N : Int} {es : List (Int × Int)} (h : graphR N es = false) (a : Option Addr) (v : Value) (m cap : Nat) (w : World) (hl : es.length = m) (hm : m ≤ 1000) (he : Edges w a es) :
    Calls Try.prog 25 #[.int .i64 N, .slice a m cap, v] w (Gives2 (.bool false) (.int .i64 1) w) := by
  have HC := Lib.hid (graphOf_wrong h a m cap w hl hm he)
  clear h hl he
  go_enter Try.func25, Try.ntmps25
  go_wp2_with (go_at_call 39; refine HC.out.mono ?_; rintro e w1 ⟨rfl, hb⟩; have HB := Lib.hid hb; clear hb)
  go_ret2
  exact ⟨rfl, HB.out⟩

end Go.Proofs.Ytdlfoompfaipnaa
