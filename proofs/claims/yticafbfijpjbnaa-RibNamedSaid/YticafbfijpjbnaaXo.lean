/-
  The walk of 'RibParts'.
-/
import Derived.Test.YticafbfijpjbnaaXf
import Derived.Test.YticafbfijpjbnaaXn
import Derived.Test.YticafbfijpjbnaaRx
namespace Go.Proofs.Yticafbfijpjbnaa
open Go.RowKit Go.Sort

theorem OrderV.err {n : Nat} {gs : List Nat} {w w' : World} {e : Ending} (h : OrderV n gs w e w') : ∃ v, e = .returned (.tuple #[v, .int .i64 (errO n gs)]) ∧ Below w.heap.size w w' := by
  obtain ⟨hb, h⟩ := h
  unfold errO
  by_cases hlt : (ordI n gs).length < n
  · rw [if_pos hlt] at h ⊢
    exact ⟨_, h, hb⟩
  · rw [if_neg hlt] at h ⊢
    obtain ⟨a, c, he, _⟩ := h
    exact ⟨_, he, hb⟩
theorem SpansV.err {n : Nat} {gs : List Nat} {w w' : World} {e : Ending} (h : SpansV n gs w e w') : ∃ v, e = .returned (.tuple #[v, .int .i64 (errS n gs)]) ∧ Below w.heap.size w w' := by
  obtain ⟨hb, h⟩ := h
  unfold errS
  by_cases hlt : (ordI n gs).length < n
  · rw [if_pos hlt] at h ⊢
    exact ⟨_, h, hb⟩
  · rw [if_neg hlt] at h ⊢
    cases hso : searchN (srtN (cliquesN gs)) (srtN (cliquesN gs)).length 0 with
    | none =>
      rw [hso] at h
      rw [if_pos rfl]
      exact ⟨_, h, hb⟩
    | some r =>
      rw [hso] at h
      rw [if_neg (by simp)]
      obtain ⟨g, he, _⟩ := h
      exact ⟨_, he, hb⟩
/-- What stays as the law goes on. -/
def StP (w : World) (B C : Nat) (N : Int) (aE : Option Addr) (cE : Nat) (es : List (Int × Int)) (M : Int) (aH : Option Addr) (cH : Nat) (hs : List (Int × Int)) (wc : World) : Prop :=
  Below w.heap.size w wc ∧ Edges wc aE es ∧ Edges wc aH hs ∧ wc.cell? ⟨B, 0, none⟩ = some (.int .i64 N) ∧ wc.cell? ⟨B, 1, none⟩ = some (.slice aE es.length cE) ∧ wc.cell? ⟨C, 0, none⟩ = some (.int .i64 M) ∧ wc.cell? ⟨C, 1, none⟩ = some (.slice aH hs.length cH)
theorem StP.next {w : World} {B C : Nat} {N : Int} {aE : Option Addr} {cE : Nat} {es : List (Int × Int)} {M : Int} {aH : Option Addr} {cH : Nat} {hs : List (Int × Int)} {wc w' : World} (h : StP w B C N aE cE es M aH cH hs wc) (hb : Below wc.heap.size wc w') : StP w B C N aE cE es M aH cH hs w' := by
  obtain ⟨h1, h2, h3, h4, h5, h6, h7⟩ := h
  have k : ∀ {p : Addr} {v : Value}, wc.cell? p = some v → w'.cell? p = some v := fun {p v} h => (hb.cell (World.block_lt_of_cell? wc p h)).trans h
  exact ⟨h1.trans (hb.mono h1.size), h2.below hb, h3.below hb, k h4, k h5, k h6, k h7⟩

theorem stp_alloc {w w2 w4 : World} {B : Nat} {N : Int} {aE : Option Addr} {cE : Nat} {es : List (Int × Int)} {M : Int} {aH : Option Addr} {cH : Nat} {hs : List (Int × Int)} (h1 : Below w.heap.size w w2) (h2 : Edges w2 aE es) (h3 : w2.cell? ⟨B, 0, none⟩ = some (.int .i64 N) ∧ w2.cell? ⟨B, 1, none⟩ = some (.slice aE es.length cE))
    (h4 : Edges w4 aH hs) (h5 : Below w2.heap.size w2 w4) : StP w B w4.heap.size N aE cE es M aH cH hs (w4.alloc (.cells #[.int .i64 M, .slice aH hs.length cH] 24)) := by
  have hb := h5.alloc h5.size (.cells #[.int .i64 M, .slice aH hs.length cH] 24)
  have k : ∀ {p : Addr} {v : Value}, w2.cell? p = some v → (w4.alloc (.cells #[.int .i64 M, .slice aH hs.length cH] 24)).cell? p = some v := fun {p v} h => (hb.cell (World.block_lt_of_cell? w2 p h)).trans h
  exact ⟨h1.trans (hb.mono h1.size), h2.below hb, h4.below ((Below.refl _ w4).alloc (Nat.le_refl _) _), k h3.1, k h3.2, by simp, by simp⟩
theorem stp_set {w w2 w4 : World} {B : Nat} {N : Int} {aE : Option Addr} {cE : Nat} {es : List (Int × Int)} {M : Int} {aH : Option Addr} {cH : Nat} {hs : List (Int × Int)} (h1 : Below w.heap.size w w2) (h2 : Edges w2 aE es) (h3 : w2.cell? ⟨B, 0, none⟩ = some (.int .i64 N) ∧ w2.cell? ⟨B, 1, none⟩ = some (.slice aE es.length cE))
    (h4 : Edges w4 aH hs) (h5 : Below w2.heap.size w2 w4) (h6 : w4.heap[w2.heap.size]? = some (.cells #[.int .i64 0, .slice none 0 0] 24 (0, 0))) :
    StP w B w2.heap.size N aE cE es M aH cH hs ((w4.setCell ⟨w2.heap.size, 0, none⟩ (.int .i64 M)).setCell ⟨w2.heap.size, 1, none⟩ (.slice aH hs.length cH)) := by
  have hb := (h5.setCell (p := ⟨w2.heap.size, 0, none⟩) (Nat.le_refl _) (.int .i64 M)).setCell (p := ⟨w2.heap.size, 1, none⟩) (Nat.le_refl _) (.slice aH hs.length cH)
  have q1 := heap_setCell_self (i := 0) h6 (.int .i64 M)
  have q2 := heap_setCell_self (i := 1) q1 (.slice aH hs.length cH)
  have k : ∀ {p : Addr} {v : Value}, w2.cell? p = some v → ((w4.setCell ⟨w2.heap.size, 0, none⟩ (.int .i64 M)).setCell ⟨w2.heap.size, 1, none⟩ (.slice aH hs.length cH)).cell? p = some v := fun {p v} h => (hb.cell (World.block_lt_of_cell? w2 p h)).trans h
  exact ⟨h1.trans (hb.mono h1.size), h2.below hb, edges_set (edges_set h4 h6 _ _) q1 _ _, k h3.1, k h3.2, by simp [World.cell?, q2], by simp [World.cell?, q2]⟩

set_option maxRecDepth 100000 in
set_option maxHeartbeats 8000000 in
theorem RibParts_any (n0 v0 : Int) (a : Option Addr) (m cap : Nat) (xs : List (Int × Int)) (w : World) (h0 : 0 ≤ n0 ∧ n0 ≤ 255) (hv0 : 0 ≤ v0 ∧ v0 ≤ 255) (hl : xs.length = m) (hm : m ≤ 9223372036854775807) (he : Edges w a xs) :
    Calls Try.prog 9 #[.int .u8 n0, .slice a m cap, .int .u8 v0] w fun e w' => e = .returned (.bool true) ∧ Below w.heap.size w w' := by
  have HG := Lib.hid (graph_any n0 10 a m cap xs w h0 (by omega) hl hm he)
  have HLV := Lib.hid (fun wx => lives_any wx)
  clear hl hm he
  go_enter Try.func9, Try.ntmps9
  go_wp2_with (fail)
  refine HG.out.mono ?_
  rintro e w1 ⟨N, es, hN, hgr, hel, aE, cE, rfl, he1, hb1⟩
  have hb2 : Below w.heap.size w (w1.alloc (.cells #[.int .i64 N, .slice aE es.length cE] 24)) := hb1.alloc hb1.size _
  have he2 := he1.below ((Below.refl _ w1).alloc (Nat.le_refl _) (.cells #[.int .i64 N, .slice aE es.length cE] 24))
  have d0 : (w1.alloc (.cells #[.int .i64 N, .slice aE es.length cE] 24)).cell? ⟨w1.heap.size, 0, none⟩ = some (.int .i64 N) := by simp
  have d1 : (w1.alloc (.cells #[.int .i64 N, .slice aE es.length cE] 24)).cell? ⟨w1.heap.size, 1, none⟩ = some (.slice aE es.length cE) := by simp
  have H2 := Lib.hid (And.intro hb2 he2)
  have HGR := Lib.hid hgr
  clear he1 hb1 hb2 he2 HG hgr
  by_cases h1 : N = 1
  · subst h1
    go_wp2_with (fail)
    refine (HLV.out _).mono ?_
    rintro e w3 ⟨rfl, hb3⟩
    have H3 := Lib.hid (H2.out.1.trans (hb3.mono H2.out.1.size))
    clear hb3 d0 d1
    go_wp2_with (fail)
    go_ret
    exact ⟨rfl, H3.out⟩
  · have hb1 : (N == 1) = false := by simp [h1]
    have hgd := (graphR_iff.1 HGR.out)
    have hV1 : 0 ≤ v0 % N := Int.emod_nonneg _ (by omega)
    have hV2 : v0 % N < N := Int.emod_lt_of_pos _ (by omega)
    have hNne : N ≠ 0 := by omega
    obtain ⟨V, hV⟩ : ∃ V, v0 % N = V := ⟨_, rfl⟩
    have HWO := Lib.hid (fun (wx : World) (hx : Edges wx aE es) => without_any N V aE es.length cE es wx (by omega) hgd.2.1 rfl (by omega) hx)
    obtain ⟨n, gs, rfl, n1, n2, hadj, hgood⟩ := graphOf_good HGR.out
    rw [hV] at hV1 hV2
    obtain ⟨v, rfl⟩ := Int.eq_ofNat_of_zero_le hV1
    have hwo := woE_good HGR.out (by omega) ⟨hV1, hV2⟩
    obtain ⟨n', hs, hn', n1', n2', hadj', hgood'⟩ := graphOf_good hwo
    obtain rfl : n' = n - 1 := by omega
    obtain ⟨p1, p2⟩ := parts_true hadj (by omega) n2 (by omega) hadj'
    have hwl : (woE (v : Int) es).length ≤ es.length := by rw [woE, List.length_map]; exact List.length_filter_le _ _
    obtain ⟨eh, heh⟩ : ∃ eh, woE (v : Int) es = eh := ⟨_, rfl⟩
    rw [heh] at HWO hgood' hwl
    have hnI : ((n : Int) - 1) = ((n - 1 : Nat) : Int) := by omega
    have HOG := Lib.hid (fun (wx : World) (hx : Edges wx aE es) => (Order_any n aE es.length cE es n gs wx rfl n2 hadj (hgood _ _ _ _ rfl (by omega) hx)).mono fun e w' h => OrderV.err h)
    have HSG := Lib.hid (fun (wx : World) (hx : Edges wx aE es) => (Spans_any n aE es.length cE es n gs wx rfl n1 n2 hadj (hgood _ _ _ _ rfl (by omega) hx) (cliques_some hadj n2)).mono fun e w' h => SpansV.err h)
    have HOH := Lib.hid (fun (wx : World) (aH : Option Addr) (cH : Nat) (hx : Edges wx aH eh) => (Order_any (n - 1 : Nat) aH eh.length cH _ (n - 1) hs wx rfl n2' hadj' (by have := hgood' aH eh.length cH wx rfl (by omega) hx; rw [hnI] at this; exact this)).mono fun e w' h => OrderV.err h)
    have HSH := Lib.hid (fun (wx : World) (aH : Option Addr) (cH : Nat) (hx : Edges wx aH eh) => (Spans_any (n - 1 : Nat) aH eh.length cH _ (n - 1) hs wx rfl n1' n2' hadj' (by have := hgood' aH eh.length cH wx rfl (by omega) hx; rw [hnI] at this; exact this) (cliques_some hadj' n2')).mono fun e w' h => SpansV.err h)
    have q1 := errO_le n gs
    have q2 := errO_le (n - 1) hs
    have q3 := errS_le n gs
    have q4 := errS_le (n - 1) hs
    obtain ⟨e1, h1'⟩ : ∃ z, errO n gs = z := ⟨_, rfl⟩
    obtain ⟨e2, h2'⟩ : ∃ z, errO (n - 1) hs = z := ⟨_, rfl⟩
    obtain ⟨e3, h3'⟩ : ∃ z, errS n gs = z := ⟨_, rfl⟩
    obtain ⟨e4, h4'⟩ : ∃ z, errS (n - 1) hs = z := ⟨_, rfl⟩
    rw [h1'] at HOG q1 p1 p2
    rw [h2'] at HOH q2 p1
    rw [h3'] at HSG q3 p2
    rw [h4'] at HSH q4 p2
    rw [hnI] at HWO
    have hP : (e1 = 5 ∨ e2 = 0) ∧ (e3 = 5 ∨ (e4 = 0 ∧ e1 = 0)) := by
      refine ⟨?_, ?_⟩
      · rcases q1 with h | h
        · exact .inr (p1 h)
        · exact .inl h
      · rcases q3 with h | h
        · exact .inr (p2 h)
        · exact .inl h
    clear hgd hwo hgood hgood' hadj hadj' p1 p2 h1' h2' h3' h4' heh hn' HGR
    have hNI : ((n : Int) == 1) = false := hb1
    go_wp2
    have hc0 := heap_alloc_new (w1.alloc (.cells #[.int .i64 (n : Int), .slice aE es.length cE] 24)) (.cells #[.int .i64 0, .slice none 0 0] 24)
    have hlt1 : w1.heap.size < (w1.alloc (.cells #[.int .i64 (n : Int), .slice aE es.length cE] 24)).heap.size := by simp
    obtain ⟨w2, hw2⟩ : ∃ w2, w1.alloc (.cells #[.int .i64 (n : Int), .slice aE es.length cE] 24) = w2 := ⟨_, rfl⟩
    rw [hw2] at H2 d0 d1 hc0 hlt1 ⊢
    have HC0 := Lib.hid hc0
    have HD := Lib.hid (And.intro d0 d1)
    clear hc0 hw2
    go_cut [8] from 26 to 32 (fun v8 wx => ∃ (C cH : Nat) (aH : Option Addr), v8 = .pointer (some ⟨C, 0, none⟩) ∧ Hid (StP w w1.heap.size C n aE cE es (n - 1 : Nat) aH cH eh wx))
    case first =>
     go_region_with (first
      | (go_at_call 36; refine (HWO.out _ ?_).mono ?_; exact H2.out.2.below (Below.refl _ _).drew; rintro e w4 ⟨aH, cH, rfl, he4, hb4⟩; have H4 := Lib.hid (And.intro he4 (((Below.refl w2.heap.size w2).drew).trans hb4)); clear he4 hb4)
      | (go_at_call 36; refine (HWO.out _ ?_).mono ?_; exact H2.out.2.below (((Below.refl _ _).alloc (Nat.le_refl _) _).drew); rintro e w4 ⟨aH, cH, rfl, he4, hb4⟩
         have hbk : w4.heap[w2.heap.size]? = some (.cells #[.int .i64 0, .slice none 0 0] 24 (0, 0)) := (hb4.block _ (by simp)).trans HC0.out
         have f0 : w4.cell? ⟨w2.heap.size, 0, none⟩ = some (.int .i64 0) := by simp [World.cell?, hbk]
         have f1 : w4.cell? ⟨w2.heap.size, 1, none⟩ = some (.slice none 0 0) := by simp [World.cell?, hbk]
         have f2 : w4.frozen? ⟨w2.heap.size, 0, none⟩ = false := row_free hbk 0
         have f3 : w4.frozen? ⟨w2.heap.size, 1, none⟩ = false := row_free hbk 1
         have H4 := Lib.hid (And.intro he4 (And.intro (((Below.refl w2.heap.size w2).alloc (Nat.le_refl _) (.cells #[.int .i64 0, .slice none 0 0] 24)).drew.trans (hb4.mono (by simp))) hbk))
         clear he4 hb4 hbk))
     all_goals
       go_wp2_with (fail)
       go_meet
       first
         | exact ⟨_, _, _, rfl, Lib.hid (stp_alloc H2.out.1 H2.out.2 HD.out H4.out.1 H4.out.2)⟩
         | exact ⟨_, _, _, rfl, Lib.hid (stp_set H2.out.1 H2.out.2 HD.out H4.out.1 H4.out.2.1 H4.out.2.2)⟩
    case rest =>
      obtain ⟨C, cH, aH, rfl, HM⟩ := hcut
      clear d0 d1 HD H2 HC0
      obtain ⟨hM1, hM2, hM3, d0, d1, d2, d3⟩ := HM.out
      clear hM1 hM2 hM3
      go_wp2_with (fail)
      refine (HOG.out _ HM.out.2.1).mono ?_
      rintro e w5 ⟨v5, rfl, hb5⟩
      have HM5 := Lib.hid (HM.out.next hb5)
      clear hb5 HM d0 d1 d2 d3 HOG
      obtain ⟨hM1, hM2, hM3, d0, d1, d2, d3⟩ := HM5.out
      clear hM1 hM2 hM3
      go_wp2_with (fail)
      refine (HOH.out _ aH cH HM5.out.2.2.1).mono ?_
      rintro e w6 ⟨v6, rfl, hb6⟩
      have HM6 := Lib.hid (HM5.out.next hb6)
      clear hb6 HM5 d0 d1 d2 d3 HOH
      obtain ⟨hM1, hM2, hM3, d0, d1, d2, d3⟩ := HM6.out
      clear hM1 hM2 hM3
      go_wp2_with (fail)
      refine (HSG.out _ HM6.out.2.1).mono ?_
      rintro e w7 ⟨v7, rfl, hb7⟩
      have HM7 := Lib.hid (HM6.out.next hb7)
      clear hb7 HM6 d0 d1 d2 d3 HSG
      obtain ⟨hM1, hM2, hM3, d0, d1, d2, d3⟩ := HM7.out
      clear hM1 hM2 hM3
      go_wp2_with (fail)
      refine (HSH.out _ aH cH HM7.out.2.2.1).mono ?_
      rintro e w8 ⟨v8, rfl, hb8⟩
      have HB8 := Lib.hid (HM7.out.next hb8).1
      clear hb8 HM7 d0 d1 d2 d3 HSH
      go_wp2_with (fail)
      have hE : ∀ j : Nat, j < 4 → ∃ z, (w8.alloc (.cells #[.int .i64 e1, .int .i64 e2, .int .i64 e3, .int .i64 e4] 28)).cell? ⟨w8.heap.size, j, none⟩ = some (.int .i64 z) ∧ (z = 0 ∨ z = 5) := fun j hj => by
        match j, hj with
        | 0, _ => exact ⟨e1, World.cell?_alloc_at _ _ _ _ rfl, q1⟩
        | 1, _ => exact ⟨e2, World.cell?_alloc_at _ _ _ _ rfl, q2⟩
        | 2, _ => exact ⟨e3, World.cell?_alloc_at _ _ _ _ rfl, q3⟩
        | 3, _ => exact ⟨e4, World.cell?_alloc_at _ _ _ _ rfl, q4⟩
      have HEE := Lib.hid hE
      have HB9 := Lib.hid (HB8.out.alloc HB8.out.size (.cells #[.int .i64 e1, .int .i64 e2, .int .i64 e3, .int .i64 e4] 28))
      clear hE
      obtain ⟨b8, hb8⟩ : ∃ b8, w8.heap.size = b8 := ⟨_, rfl⟩
      rw [hb8] at HEE
      try rw [hb8]
      generalize w8.alloc (.cells #[.int .i64 e1, .int .i64 e2, .int .i64 e3, .int .i64 e4] 28) = w9 at HEE HB9 ⊢
      clear HB8 hb8
      go_loopw [71, 18] (fun i _ wr => ∃ j : Nat, j ≤ 4 ∧ i = .int .i64 j ∧ wr = w9) (fun i _ _ => 4 - (intOf i).toNat)
      case atStart => exact ⟨0, by omega, rfl, rfl⟩
      case round =>
        obtain ⟨j, hj, rfl, rfl⟩ := hrel
        by_cases hlt : j < 4
        · obtain ⟨z, c0, hz⟩ := HEE.out j hlt
          have hjI : (j : Int) < 4 := by omega
          rcases hz with rfl | rfl
          all_goals
            go_wp2
            go_roundw
            case rel => exact ⟨j + 1, by omega, by go_num, by trivial⟩
            case measure => simp [intOf]; omega
        · obtain rfl : j = 4 := by omega
          rcases q1 with rfl | rfl <;> rcases q2 with rfl | rfl <;> rcases q3 with rfl | rfl <;> rcases q4 with rfl | rfl <;> first | (exact absurd hP (by decide)) | skip
          all_goals
            go_wp2_with (fail)
            refine (HLV.out _).mono ?_
            rintro e w10 ⟨rfl, hb10⟩
            have HB10 := Lib.hid (HB9.out.trans (hb10.mono HB9.out.size))
            go_wp2_with (fail)
            go_ret
            exact ⟨rfl, HB10.out⟩

end Go.Proofs.Yticafbfijpjbnaa
