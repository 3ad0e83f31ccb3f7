/-
  Proved: FoldFlats returns true for every list and every string: Patterns returns the creases of all orders that fold a vertex, each once, in byte order, and Flat whether a pattern is one of them, as the reference says by trying all orders, or the errors of the document. No condition.
-/
import Derived.Test.YteankhgikpejhaaPe
import Derived.Test.YteankhgikpejhaaPf
import Derived.Test.YteankhgikpejhaaKb
import Derived.Test.YteankhgikpejhaaKa
import Derived.Test.YteankhgikpejhaaHd
import Derived.Test.YteankhgikpejhaaJe
import Derived.ChangeMaps5
namespace Go.Proofs.Yteankhgikpejhaa
open Go.RowKit Go.Sort Go.Shelf

theorem row_str {w : World} {base n cap : Nat} {a : Option Addr} {L : List (List UInt8)} (h : w.ownsRow base 9 1 (.slice a n cap) n (L.map Go.Proofs.encStr)) : L = [] ∨ ∃ g, a = some ⟨g, 0, none⟩ ∧ g < w.heap.size ∧ ∀ j (hj : j < L.length), w.cell? ⟨g, j, none⟩ = some (.string ⟨L[j].toArray⟩) := by
  have hl : L.length = n := by simpa using h.1
  rcases h.2 with ⟨_, h0⟩ | ⟨g, c, cur, e, _⟩
  · exact .inl (List.eq_nil_of_length_eq_zero (by omega))
  · cases e
    refine .inr ⟨g, rfl, (h.lt g rfl).2, fun j hj => ?_⟩
    rw [h.cellAt j (by omega)]
    simp [hj, Go.Proofs.encStr]

set_option maxRecDepth 100000 in
set_option maxHeartbeats 2000000 in
theorem Strings_same (b1 b2 c1 c2 n : Nat) (a1 a2 : Option Addr) (L : List (List UInt8)) (w : World) (hn : L.length = n) (hN : n ≤ 1000000000) (h1 : w.ownsRow b1 9 1 (.slice a1 n c1) n (L.map Go.Proofs.encStr)) (h2 : w.ownsRow b2 9 1 (.slice a2 n c2) n (L.map Go.Proofs.encStr)) :
    Calls Try.prog 39 #[.slice a1 n c1, .slice a2 n c2] w fun e w' => e = .returned (.bool true) ∧ Below w.heap.size w w' := by
  have HR1 := Lib.hid (row_str h1)
  have HR2 := Lib.hid (row_str h2)
  have HN := Lib.hid hn
  clear h1 h2 hn
  go_enter Try.func39, Try.ntmps39
  go_wp2
  go_loopw [5] (fun i wr => ∃ k : Nat, k ≤ n ∧ i = .int .i64 k ∧ Below w.heap.size w wr) (fun i _ => n - (intOf i).toNat)
  case atStart => exact ⟨0, Nat.zero_le _, rfl, Below.refl _ _⟩
  case round =>
    obtain ⟨k, hk, rfl, hb⟩ := hrel
    have HB := Lib.hid hb
    clear hb
    by_cases hlt : k < n
    · have hkL : k < L.length := by rw [HN.out]; exact hlt
      rcases HR1.out with h | ⟨g1, rfl, hg1, hc1⟩
      · subst h; simp at hkL
      rcases HR2.out with h | ⟨g2, rfl, hg2, hc2⟩
      · subst h; simp at hkL
      have c1' := (HB.out.cell (p := ⟨g1, k, none⟩) hg1).trans (hc1 k hkL)
      have c2' := (HB.out.cell (p := ⟨g2, k, none⟩) hg2).trans (hc2 k hkL)
      obtain ⟨s, hs⟩ : ∃ s : ByteArray, (⟨L[k].toArray⟩ : ByteArray) = s := ⟨_, rfl⟩
      rw [hs] at c1' c2'
      clear hc1 hc2 hs hkL
      go_wp2
      go_quiet (fail)
      go_wp2
      go_roundw
      case rel => exact ⟨k + 1, by omega, by go_num, below_drewN HB.out _⟩
      case measure => simp [intOf]; omega
    · go_wp2
      go_ret
      exact ⟨rfl, HB.out⟩

/-- What 'Patterns' and 'Flat' answer at a vertex. -/
theorem Patterns_vertex (a : Option Addr) (n cap : Nat) (zs : List Int) (w : World) (hn : zs.length = n) (hz : Ints w a zs) (hs : vertexB zs = true) :
    Calls Try.prog 36 #[.slice a n cap] w fun e w' => ∃ v, e = .returned (.tuple #[v, .int .i64 0]) ∧ w'.ownsRow w.heap.size 9 1 v (patsV zs).length ((patsV zs).map Go.Proofs.encStr) ∧ Below w.heap.size w w' := by
  obtain ⟨p1, p9, _⟩ := vertex_parts hs
  rcases Bool.eq_false_or_eq_true (closesB zs) with hc | hc
  · have e : patsV zs = patsOf zs := by rw [patsV, if_pos hc]
    rw [e]
    exact (callsIn_wide (n := 0)).1 (Patterns_good Nat a n cap 0 zs w hn hz hs hc)
  · have e : patsV zs = [] := by rw [patsV, if_neg (by rw [hc]; exact Bool.false_ne_true)]
    rw [e]
    exact (Patterns_open a n cap zs w hn (by omega) hz hs hc).mono fun _ _ ⟨he, hb⟩ => ⟨_, he, World.ownsRow_nil _ _ _ _, hb⟩
def flatV (zs : List Int) (pat : ByteArray) : Bool := closesB zs && flatB zs pat
theorem Flat_vertex (a : Option Addr) (n cap : Nat) (zs : List Int) (pat : ByteArray) (w : World) (hn : zs.length = n) (hz : Ints w a zs) (hs : vertexB zs = true) (hp : patB pat n = true) :
    Calls Try.prog 37 #[.slice a n cap, .string pat] w (Gives2 (.bool (flatV zs pat)) (.int .i64 0) w) := by
  rcases Bool.eq_false_or_eq_true (closesB zs) with hc | hc
  · rw [flatV, hc, Bool.true_and]
    exact (callsIn_wide (n := 0)).1 (Flat_good a n cap 0 zs pat w hn hz hs hc hp)
  · rw [flatV, hc, Bool.false_and]
    exact Flat_open a n cap zs pat w hn hz hs hc hp
theorem mem_patsOf (zs : List Int) (x : List UInt8) : x ∈ patsOf zs ↔ x ∈ (ordersOf (vtxCl zs) zs.length).map (patB' zs) := by
  rw [patsOf, (List.mergeSort_perm _ _).mem_iff, mem_dd]
theorem flatV_pats (zs : List Int) (pat : ByteArray) : (patsV zs).any (fun x => (⟨x.toArray⟩ : ByteArray).toList == pat.toList) = flatV zs pat := by
  unfold patsV flatV
  split
  · rename_i h
    rw [h, Bool.true_and, flatB, Bool.eq_iff_iff, List.any_eq_true, List.any_eq_true]
    constructor
    · rintro ⟨x, hx, he⟩
      rw [mem_patsOf] at hx
      obtain ⟨O, hO, rfl⟩ := List.mem_map.1 hx
      refine ⟨O, hO, ?_⟩
      rw [same_bytes] at he ⊢
      exact he
    · rintro ⟨O, hO, he⟩
      refine ⟨patB' zs O, (mem_patsOf _ _).2 (List.mem_map_of_mem hO), ?_⟩
      rw [same_bytes] at he ⊢
      exact he
  · rename_i h
    rw [Bool.not_eq_true] at h
    rw [h]; rfl
theorem patsV_le (zs : List Int) (hs : vertexB zs = true) : (patsV zs).length ≤ 1000 := by
  obtain ⟨p1, p9, _⟩ := vertex_parts hs
  unfold patsV
  split
  · rw [patsOf, List.length_mergeSort]
    have := few_strings zs.length (dd ((ordersOf (vtxCl zs) zs.length).map (patB' zs))) (dd_nodup _) (fun x hx => by
      rw [mem_dd] at hx
      obtain ⟨O, _, rfl⟩ := List.mem_map.1 hx
      exact ⟨by rw [patB_length]; omega, patB_letter zs O⟩)
    have h2 : 2 ^ zs.length ≤ 2 ^ 8 := Nat.pow_le_pow_right (n := 2) (by omega) p9
    omega
  · simp
theorem patR_nat (s : ByteArray) (n : Nat) : patR s (n : Int) = patB s n := by
  rw [patR, patB, Bool.and_comm]
  congr 1
  rw [Bool.eq_iff_iff, decide_eq_true_eq, beq_iff_eq]
  omega

theorem cutZ_le68 (zs : List Int) : (cutZ zs 6 8).length ≤ 9 := by
  rw [cutZ, List.length_take]
  split <;> omega

set_option maxRecDepth 200000 in
set_option maxHeartbeats 8000000 in
theorem FoldFlats_any (n1 cap1 : Nat) (a1 : Option Addr) (xs : List Int) (pat : ByteArray) (w : World) (hn1 : xs.length = n1) (hm1 : n1 ≤ 9223372036854775807) (hcap1 : n1 ≤ cap1) (hnone1 : a1 = none → cap1 = 0) (hx : Ints w a1 xs) (hps : pat.size ≤ 9223372036854775807) :
    Calls Try.prog 7 #[.slice a1 n1 cap1, .string pat] w fun e w' => e = .returned (.bool true) ∧ Below w.heap.size w w' := by
  have hct1 := Lib.hid (cut_any a1 n1 cap1 6 8 xs w hn1 hm1 hcap1 hnone1 (by omega) (by omega) (by omega) hx)
  obtain ⟨l, hl⟩ : ∃ l, cutZ xs 6 8 = l := ⟨_, rfl⟩
  have hl10 : l.length ≤ 9 := by rw [← hl]; exact cutZ_le68 xs
  rw [hl] at hct1
  clear hl hx hn1 hm1 hcap1 hnone1
  have HV := Lib.hid lives_any
  obtain ⟨r, hr, hr12, hrm⟩ : ∃ r : Nat, r ≤ pat.size ∧ r ≤ 12 ∧ min (pat.size : Int) 12 = (r : Int) := ⟨min pat.size 12, by omega, by omega, by omega⟩
  obtain ⟨q, hq⟩ : ∃ q, pat.extract 0 r = q := ⟨_, rfl⟩
  have hqs : q.size ≤ 1000 := by rw [← hq, ByteArray.size_extract]; omega
  have HQ := Lib.hid hq
  clear hq
  go_enter Try.func7, Try.ntmps7
  go_wp2_with fail
  refine hct1.out.mono ?_
  rintro e w1 ⟨v, rfl, ⟨al, cl, rfl, hI1⟩, hb1⟩
  have H1 := Lib.hid (And.intro hI1 hb1)
  clear hI1 hb1
  go_wp2_with fail
  rcases Bool.eq_false_or_eq_true (vertexB l) with hs | hs
  · obtain ⟨p1, p9, _⟩ := vertex_parts hs
    have hPle := patsV_le l hs
    have HG := Lib.hid hs
    clear hs
    refine (Patterns_vertex al l.length cl l w1 rfl H1.out.1 HG.out).mono ?_
    rintro e w2 ⟨v2, rfl, hr2, hb2⟩
    obtain ⟨a2, c2, rfl⟩ := ownsRow_slice hr2
    have H2 := Lib.hid (And.intro (H1.out.1.below hb2) (And.intro hr2 (H1.out.2.trans (hb2.mono H1.out.2.size))))
    clear hr2 hb2
    go_wp2_with fail
    rw [HQ.out]
    clear hr hr12 hrm HQ
    obtain ⟨np, hnp⟩ : ∃ np, (patsV l).length = np := ⟨_, rfl⟩
    have HNP := Lib.hid hnp
    rw [hnp] at hPle ⊢
    clear hnp
    rcases Bool.eq_false_or_eq_true (patB q l.length) with hp | hp
    · have HPR := Lib.hid (show patR q (l.length : Int) = true by rw [patR_nat, hp])
      have HP := Lib.hid hp
      obtain ⟨fl, hfl⟩ : ∃ fl, flatV l q = fl := ⟨_, rfl⟩
      have HFL := Lib.hid (show (patsV l).any (fun x => (⟨x.toArray⟩ : ByteArray).toList == q.toList) = fl by rw [flatV_pats, hfl])
      have HF2 := Lib.hid hfl
      clear hp hfl
      refine (Flat_vertex al l.length cl l q w2 rfl H2.out.1 HG.out HP.out).mono ?_
      rw [HF2.out]
      rintro e w3 ⟨rfl, hb3⟩
      have hr3 := ownsRow_kept H2.out.2.1 hb3
      rw [HNP.out] at hr3
      have H3 := Lib.hid (And.intro (H2.out.1.below hb3) (And.intro hr3 (H2.out.2.2.trans (hb3.mono H2.out.2.2.size))))
      clear hr3 hb3
      go_wp2_with fail
      refine (Vertex_any al l.length cl l w3 rfl (by omega) H3.out.1).mono ?_
      rw [HG.out]
      rintro e w6 ⟨rfl, rfl⟩
      obtain ⟨bL, oL, rfl⟩ : ∃ b o, al = some ⟨b, o, none⟩ := by
        rcases H3.out.1.at with h | ⟨b, o, h, _⟩
        · subst h; simp at p1
        · exact ⟨b, o, h⟩
      go_wp2_with fail
      refine (refPatterns_any bL oL l.length cl l w3 rfl HG.out H3.out.1).mono ?_
      rintro e w4 ⟨v4, rfl, hr4, hb4⟩
      rw [HNP.out] at hr4
      obtain ⟨a4, c4, rfl⟩ := ownsRow_slice hr4
      have H4 := Lib.hid (And.intro (H3.out.1.below hb4) (And.intro (ownsRow_kept H3.out.2.1 hb4) (And.intro hr4 (H3.out.2.2.trans (hb4.mono H3.out.2.2.size)))))
      clear hr4 hb4
      go_wp2_with fail
      refine (Strings_same _ _ c2 c4 np a2 a4 (patsV l) w4 HNP.out (by omega) H4.out.2.1 H4.out.2.2.1).mono ?_
      rintro e w5 ⟨rfl, hb5⟩
      have H5 := Lib.hid (And.intro (H4.out.1.below hb5) (And.intro (ownsRow_kept H4.out.2.2.1 hb5) (H4.out.2.2.2.trans (hb5.mono H4.out.2.2.2.size))))
      clear hb5
      go_wp2_with fail
      refine ((callsIn_wide (n := 0)).1 (HV.out _ _)).mono ?_
      rintro e w6 ⟨rfl, hb6⟩
      have H6 := Lib.hid (And.intro (row_str (ownsRow_kept H5.out.2.1 hb6)) (H5.out.2.2.trans (hb6.mono H5.out.2.2.size)))
      clear hb6
      go_wp2_with fail
      refine (Pattern_any q (l.length : Int) w6 (by omega)).mono ?_
      rw [HPR.out]
      rintro e w7 ⟨rfl, rfl⟩
      go_wp2
      go_loop [11, 12] (fun f i => ∃ k : Nat, k ≤ np ∧ i = .int .i64 k ∧ f = .bool (((patsV l).take k).any (fun x => (⟨x.toArray⟩ : ByteArray).toList == q.toList))) (fun _ i => np - (intOf i).toNat)
      case atStart => exact ⟨0, Nat.zero_le _, rfl, by simp⟩
      case round =>
        obtain ⟨k, hk, rfl, rfl⟩ := hrel
        obtain ⟨u0, hu0⟩ : ∃ u0, ((patsV l).take k).any (fun x => (⟨x.toArray⟩ : ByteArray).toList == q.toList) = u0 := ⟨_, rfl⟩
        have HU := Lib.hid hu0
        rw [hu0]
        clear hu0
        by_cases hlt : k < np
        · have hkL : k < (patsV l).length := by rw [HNP.out]; exact hlt
          rcases H6.out.1 with h | ⟨g4, rfl, hg4, hc4⟩
          · rw [h] at hkL; simp at hkL
          have cc := hc4 k hkL
          have HT : Hid (((patsV l).take (k + 1)).any (fun x => (⟨x.toArray⟩ : ByteArray).toList == q.toList) = (u0 || ((⟨(patsV l)[k].toArray⟩ : ByteArray).toList == q.toList))) := Lib.hid (by
            rw [List.take_succ_eq_append_getElem hkL, List.any_append, HU.out]; simp)
          obtain ⟨s, hs⟩ : ∃ s : ByteArray, (⟨(patsV l)[k].toArray⟩ : ByteArray) = s := ⟨_, rfl⟩
          rw [hs] at cc HT
          clear hc4 hs hkL
          obtain ⟨r1, hr1⟩ : ∃ r1, (s.toList == q.toList) = r1 := ⟨_, rfl⟩
          rw [hr1] at HT
          cases u0
          · cases r1
            all_goals
              go_wp2
              go_round
              case rel => exact ⟨k + 1, by omega, by go_num, by rw [HT.out]; rfl⟩
              case measure => simp [intOf]; omega
          · clear hr1
            go_wp2
            go_round
            case rel => exact ⟨k + 1, by omega, by go_num, by rw [HT.out]; rfl⟩
            case measure => simp [intOf]; omega
        · have hku : u0 = fl := by
            rw [← HU.out, List.take_of_length_le (by rw [HNP.out]; omega), HFL.out]
          subst hku
          clear HFL HF2
          cases u0
          all_goals
            go_wp2
            go_ret
            exact ⟨rfl, H6.out.2⟩
    · have HPR := Lib.hid (show patR q (l.length : Int) = false by rw [patR_nat, hp])
      have HP := Lib.hid hp
      clear hp
      refine (Flat_bad al l.length cl l q 2 w2 rfl (by omega) (by omega) H2.out.1 (.inr ⟨HG.out, HP.out, rfl⟩)).mono ?_
      rintro e w3 ⟨rfl, hb3⟩
      have hr3 := ownsRow_kept H2.out.2.1 hb3
      rw [HNP.out] at hr3
      have H3 := Lib.hid (And.intro (H2.out.1.below hb3) (And.intro hr3 (H2.out.2.2.trans (hb3.mono H2.out.2.2.size))))
      clear hr3 hb3
      go_wp2_with fail
      refine (Vertex_any al l.length cl l w3 rfl (by omega) H3.out.1).mono ?_
      rw [HG.out]
      rintro e w6 ⟨rfl, rfl⟩
      obtain ⟨bL, oL, rfl⟩ : ∃ b o, al = some ⟨b, o, none⟩ := by
        rcases H3.out.1.at with h | ⟨b, o, h, _⟩
        · subst h; simp at p1
        · exact ⟨b, o, h⟩
      go_wp2_with fail
      refine (refPatterns_any bL oL l.length cl l w3 rfl HG.out H3.out.1).mono ?_
      rintro e w4 ⟨v4, rfl, hr4, hb4⟩
      rw [HNP.out] at hr4
      obtain ⟨a4, c4, rfl⟩ := ownsRow_slice hr4
      have H4 := Lib.hid (And.intro (H3.out.1.below hb4) (And.intro (ownsRow_kept H3.out.2.1 hb4) (And.intro hr4 (H3.out.2.2.trans (hb4.mono H3.out.2.2.size)))))
      clear hr4 hb4
      go_wp2_with fail
      refine (Strings_same _ _ c2 c4 np a2 a4 (patsV l) w4 HNP.out (by omega) H4.out.2.1 H4.out.2.2.1).mono ?_
      rintro e w5 ⟨rfl, hb5⟩
      have H5 := Lib.hid (H4.out.2.2.2.trans (hb5.mono H4.out.2.2.2.size))
      clear hb5
      go_wp2_with fail
      refine ((callsIn_wide (n := 0)).1 (HV.out _ _)).mono ?_
      rintro e w6 ⟨rfl, hb6⟩
      have H6 := Lib.hid (H5.out.trans (hb6.mono H5.out.size))
      clear hb6
      go_wp2_with fail
      refine (Pattern_any q (l.length : Int) w6 (by omega)).mono ?_
      rw [HPR.out]
      rintro e w7 ⟨rfl, rfl⟩
      go_wp2
      go_ret
      exact ⟨rfl, H6.out⟩
  · have HG := Lib.hid hs
    clear hs
    refine (Patterns_bad al l.length cl l w1 rfl (by omega) H1.out.1 HG.out).mono ?_
    rintro e w2 ⟨rfl, hb2⟩
    have H2 := Lib.hid (And.intro (H1.out.1.below hb2) (H1.out.2.trans (hb2.mono H1.out.2.size)))
    clear hb2
    go_wp2_with fail
    rw [HQ.out]
    clear hr hr12 hrm HQ
    refine (Flat_bad al l.length cl l q 1 w2 rfl (by omega) (by omega) H2.out.1 (.inl ⟨HG.out, rfl⟩)).mono ?_
    rintro e w3 ⟨rfl, hb3⟩
    have H3 := Lib.hid (And.intro (H2.out.1.below hb3) (H2.out.2.trans (hb3.mono H2.out.2.size)))
    clear hb3
    go_wp2_with fail
    refine (Vertex_any al l.length cl l w3 rfl (by omega) H3.out.1).mono ?_
    rw [HG.out]
    rintro e w6 ⟨rfl, rfl⟩
    go_wp2_with fail
    refine ((callsIn_wide (n := 0)).1 (HV.out _ _)).mono ?_
    rintro e w6 ⟨rfl, hb6⟩
    have H6 := Lib.hid (H3.out.2.trans (hb6.mono H3.out.2.size))
    clear hb6
    go_wp2
    go_ret
    exact ⟨rfl, H6.out⟩

open Go.ChangeShapes Go.WideShapes Go.ChangeAt Go.RowKit Go.ChangeMaps

namespace foldFlats
set_option maxRecDepth 100000 in
theorem lifted (os : Os) (started : os.Started) (H : Type) (enc : TypeId × Value → H) :
    ReturnsInHanded {} Try.checked os 7 .any (Rows.foldFlatsSpec.pre6 enc Try.prog Try.f7 Rows.foldFlatsRow.domain false) (Rows.foldFlatsSpec.post enc Try.prog Try.f7 false true false false) := by
  refine returnsInHanded_of_change (C := Try.checked) own_knob started (by kernel_rfl) Try.func7
    (ChangeSpec.witness6 (enc := enc) (C := Try.checked) false ⟨#[], #[.slice none 0 0, .string ⟨#[]⟩], []⟩ 8 (by kernel_rfl) (by kernel_rfl) (by kernel_rfl) (by kernel_rfl)) ?_
  intro W base args ds gs before hval0 hW hcnd _
  have hval : ∀ (j : Nat) t v, Try.f7.params[j]? = some t → args[j]? = some v → Value.okWide Try.prog W .any base t v := hval0
  have hW' := hW
  obtain ⟨p, q, hA0, hV, rfl, hfz, hnd⟩ := hW
  have hA : DataW.TrodAll enc Try.prog W 0 (fun _ => true) true Try.f7.params.toList args.toList ds p := hA0
  rw [Try.params7] at hA hval
  obtain ⟨v0, vs0, d0, ds0, p0, q0, hargs, rfl, rfl, h0, r0⟩ := trodAll_cons hA
  obtain ⟨v1, vs1, d1, ds1, p1, q1, rfl, rfl, rfl, h1, r1⟩ := trodAll_cons r0
  obtain ⟨rfl, rfl, rfl⟩ := trodAll_nil r1
  obtain rfl : args = #[v0, v1] := by cases args; simp_all
  obtain ⟨rfl, rfl⟩ := trodVars_none hV
  obtain ⟨a, n, cap, zs, rfl, hn, hm, hz, hi, hkeep⟩ := arg_ints (hval 0 22 v0 rfl rfl) h0
  obtain ⟨s, rfl, rfl, rfl, hsm⟩ := open_string Try.underlying9 (hval 1 9 v1 rfl rfl) h1
  obtain ⟨k0, k1⟩ := arg_cap (hval 0 22 _ rfl rfl) h0
  clear hA0 hval0
  refine (FoldFlats_any n cap a zs s W hn hm k0 k1 hz (by unfold maxLen at hsm; omega)).mono fun e W' ⟨he, hg⟩ => ?_
  subst he
  exact ⟨_, rfl, law_post (pv := []) hW' (fun _ _ _ => trodAll_cons_mk (shut_bool Try.underlying4 _) trodAll_mk0) (trodAll_cons_mk (hkeep W' hg) (trodAll_cons_mk (shut_string Try.underlying9 hsm) trodAll_mk0)) rfl rfl hg⟩

theorem proved : Rows.FoldFlatsSaid :=
  OpenClaim.holds_of_wide 7 Try.f7 rfl rfl rfl rfl rfl rfl rfl ⟨rfl, rfl, rfl, rfl, rfl⟩ rfl rfl rfl rfl rfl (by kernel_rfl) Try.func7 (by kernel_rfl)
    (of_decide_eq_true (by kernel_rfl)) (by unfold Func.isWrapper; first | (rw [if_pos (by decide +kernel)]; kernel_rfl) | (rw [if_neg (by decide +kernel)]; exact ⟨rfl, rfl⟩))
    (fun os started H enc _ => lifted os started H enc)
#print axioms proved
end foldFlats
end Go.Proofs.Yteankhgikpejhaa

