/-
  strap: polynomials: 'negative', 'normalized'.
-/
import Derived.Test.YtbcggbmjbljnfaaCc
namespace Go.Proofs.Ytbcggbmjbljnfaa
open Go.RowKit Go.Sort

theorem entN_one (low c : Int) (hc : c ≠ 0) : entN low [c] = (low, [c]) := by
  simp [entN, entL, hc, trimR]
/-- The negative. -/
def negN (e : Int × List Int) : Int × List Int := timesN e (0, [-1])
set_option maxRecDepth 100000 in
set_option maxHeartbeats 1000000 in
theorem negative_any (e1 : Int) (m ca : Nat) (a : Option Addr) (es : List Int) (w : World) (hml : es.length = m) (hm : m ≤ 1000) (he : -1000 ≤ e1 ∧ e1 ≤ 1000) (hze : IntsT w a es) :
    Calls Try.prog 102 #[.agg #[.int .i64 e1, .slice a m ca]] w (GivesE (negN (e1, es)) w) := by
  obtain ⟨p, hp⟩ : ∃ p, negN (e1, es) = p := ⟨_, rfl⟩
  rw [hp]
  have HP := Lib.hid hp
  obtain ⟨w0, hw0⟩ : ∃ w0, w0 = (w.alloc (.cells #[.int .i64 e1, .slice a m ca] 130)).alloc (.cells #[.int .i64 0, .slice none 0 0] 130) := ⟨_, rfl⟩
  have hb0 : Below w.heap.size w w0 := by rw [hw0]; exact ((Below.refl _ w).alloc (Nat.le_refl _) _).alloc (by simp) _
  have hs0 : w0.heap.size = w.heap.size + 1 + 1 := by rw [hw0]; simp
  have hr0 : w0.heap[w.heap.size]? = some (.cells #[.int .i64 e1, .slice a m ca] 130 (0, 0)) := by
    rw [hw0, Below.heap_alloc _ _ _ (by simp)]; exact heap_alloc_new _ _
  have hr1 : w0.heap[w.heap.size + 1]? = some (.cells #[.int .i64 0, .slice none 0 0] 130 (0, 0)) := by
    rw [hw0, show ∀ o, w.heap.size + 1 = (w.alloc o).heap.size by simp]; exact heap_alloc_new _ _
  have H0 : Hid (Below w.heap.size w w0 ∧ w0.heap[w.heap.size]? = some (.cells #[.int .i64 e1, .slice a m ca] 130 (0, 0)) ∧ w0.heap[w.heap.size + 1]? = some (.cells #[.int .i64 0, .slice none 0 0] 130 (0, 0))) := Lib.hid ⟨hb0, hr0, hr1⟩
  have k0 := box_cell0 hr0
  have k1 := box_cell1 hr0
  have HW0 := Lib.hid hw0
  have HZ := Lib.hid (hze.below hb0)
  have HML := Lib.hid hml
  have hlt0 : w.heap.size < w0.heap.size := by omega
  have hlt1 : w.heap.size + 1 < w0.heap.size := by omega
  have HEN : Hid (∀ (g : Nat) (wx : World), Below w0.heap.size w0 wx → RowZ wx g [-1] → Calls Try.prog 116 #[.int .i64 0, .slice (some ⟨g, 0, none⟩) 1 1] wx (fun e w' => ∃ a c, e = .returned (.agg #[.int .i64 0, .slice a 1 c]) ∧ IntsT w' a [-1] ∧ Below w0.heap.size w0 w')) := Lib.hid (fun g wx hb hr => by
    refine (entryOf_any 0 1 1 (some ⟨g, 0, none⟩) [-1] _ rfl (Nat.le_refl _) (by omega) (by omega) (RowZ.ints hr)).mono ?_
    rintro e w' ⟨a, c, rfl, hz, hb', hl⟩
    rw [entN_one 0 (-1) (by decide)] at hz ⊢
    exact ⟨a, c, rfl, hz, hb.trans (hb'.mono hb.size)⟩)
  have HRZ : Hid (RowZ (w0.alloc (.cells #[.int .i64 (-1)] 3)).drew (w.heap.size + 1 + 1) [-1] ∧ Below w0.heap.size w0 (w0.alloc (.cells #[.int .i64 (-1)] 3)).drew) := Lib.hid ⟨by rw [← hs0]; exact heap_alloc_new w0 _, ((Below.refl _ w0).alloc (Nat.le_refl _) _).drew⟩
  have HTI : Hid (∀ (a' : Option Addr) (c' : Nat) (wx : World), Below w0.heap.size w0 wx → IntsT wx a' [-1] → Calls Try.prog 117 #[.agg #[.int .i64 e1, .slice a m ca], .agg #[.int .i64 0, .slice a' 1 c']] wx (fun e w' => ∃ a c, e = .returned (.agg #[.int .i64 p.1, .slice a p.2.length c]) ∧ IntsT w' a p.2 ∧ Below w0.heap.size w0 w' ∧ p.2.length ≤ c)) := Lib.hid (fun a' c' wx hb h2 => by
    refine (times_any e1 0 m 1 ca c' a a' es [-1] wx hml rfl hm (by omega) he (by omega) (HZ.out.below hb) h2).mono ?_
    rw [show timesN (e1, es) (0, [-1]) = p from hp]
    rintro e w' ⟨a, c, rfl, hz, hb', hl⟩
    exact ⟨a, c, rfl, hz, hb.trans (hb'.mono hb.size), hl⟩)
  clear hw0 hb0 hr0 hr1 hze hml hp
  go_enter Try.func102, Try.ntmps102
  go_wp2_with (fail)
  try rw [← HW0.out]
  go_region_law (first
    | (go_simp; go_at_call 116; refine (HEN.out _ _ HRZ.out.2 HRZ.out.1).mono ?_; rintro e w5 ⟨a5, c5, rfl, hz5, hb5⟩; have H5 := Lib.hid (And.intro hz5 hb5); have j0 := box_cell0 ((H5.out.2.block _ hlt0).trans H0.out.2.1); have j1 := box_cell1 ((H5.out.2.block _ hlt0).trans H0.out.2.1); clear hz5 hb5)
    | (go_simp; go_at_call 117; refine (HTI.out _ _ _ H5.out.2 H5.out.1).mono ?_; rintro e w7 ⟨a7, c7, rfl, hz7, hb7, hl7⟩; have hrw7 := (hb7.block _ hlt1).trans H0.out.2.2; have H7 := Lib.hid (And.intro hz7 (And.intro hb7 (And.intro hrw7 hl7))); have k2 := box_cell0 hrw7; have k3 := box_cell1 hrw7; have k4 := row_free hrw7 0; have k5 := row_free hrw7 1; clear hz7 hb7 hrw7 hl7))
  all_goals
    go_simp
    go_wp2_with (fail)
    have hr1 := heap_setCell_self (i := 0) H7.out.2.2.1 (.int .i64 p.1)
    have hr2 := heap_setCell_self (i := 1) hr1 (.slice a7 p.2.length c7)
    refine bodyPost_ret_by (results_cell_row (P := Try.prog) rfl _ _ (w.heap.size + 1) 130 #[.int .i64 p.1, .slice a7 p.2.length c7] (0, 0) _ rfl hr2 Try.underlying130 rfl (by kernel_rfl)) rfl ?_
    exact ⟨a7, c7, rfl, (H7.out.1.setCell H7.out.2.2.1 (by decide)).setCell hr1 (by decide), ((H0.out.1.trans (H7.out.2.1.mono (by omega))).setCell (p := ⟨w.heap.size + 1, 0, none⟩) (by simp) _).setCell (p := ⟨w.heap.size + 1, 1, none⟩) (by simp) _, H7.out.2.2.2⟩

theorem norm_end {w u : World} {cs : Array Value} {a : Option Addr} {zs : List Int} {v : Value} (h0 : u.heap[w.heap.size]? = some (.cells cs 130 (0, 0))) (h1 : u.heap[w.heap.size + 1]? = some (.cells #[.int .i64 0, .slice none 0 0] 130 (0, 0))) (hz : IntsT u a zs) (hb : Below w.heap.size w u) :
    (((u.setCell ⟨w.heap.size, 0, none⟩ (.int .i64 0)).setCell ⟨w.heap.size + 1, 0, none⟩ (.int .i64 0)).setCell ⟨w.heap.size + 1, 1, none⟩ v).heap[w.heap.size + 1]? = some (.cells #[.int .i64 0, v] 130 (0, 0)) ∧ IntsT (((u.setCell ⟨w.heap.size, 0, none⟩ (.int .i64 0)).setCell ⟨w.heap.size + 1, 0, none⟩ (.int .i64 0)).setCell ⟨w.heap.size + 1, 1, none⟩ v) a zs ∧
    Below w.heap.size w (((u.setCell ⟨w.heap.size, 0, none⟩ (.int .i64 0)).setCell ⟨w.heap.size + 1, 0, none⟩ (.int .i64 0)).setCell ⟨w.heap.size + 1, 1, none⟩ v) := by
  have y1 : (u.setCell ⟨w.heap.size, 0, none⟩ (.int .i64 0)).heap[w.heap.size + 1]? = some (.cells #[.int .i64 0, .slice none 0 0] 130 (0, 0)) := (RowKit.Below.heap_setCell _ _ _ _ (by simp)).trans h1
  have y2 := heap_setCell_self (i := 0) y1 (.int .i64 0)
  have y3 := heap_setCell_self (i := 1) y2 v
  exact ⟨y3, ((hz.setCell h0 (by decide)).setCell y1 (by decide)).setCell y2 (by decide), ((hb.setCell (p := ⟨w.heap.size, 0, none⟩) (Nat.le_refl _) _).setCell (p := ⟨w.heap.size + 1, 0, none⟩) (by simp) _).setCell (p := ⟨w.heap.size + 1, 1, none⟩) (by simp) _⟩
/-- With Low 0, and with a first coefficient above 0. -/
def normP (e : Int × List Int) : Int × List Int := (0, if e.2 ≠ [] ∧ e.2[0]?.getD 0 < 0 then (negN e).2 else e.2)
set_option maxRecDepth 100000 in
set_option maxHeartbeats 1000000 in
theorem normalized_any (e1 : Int) (m ca : Nat) (a : Option Addr) (es : List Int) (w : World) (hml : es.length = m) (hm : m ≤ 1000) (he : -1000 ≤ e1 ∧ e1 ≤ 1000) (hze : IntsT w a es) (hca : m ≤ ca) :
    Calls Try.prog 104 #[.agg #[.int .i64 e1, .slice a m ca]] w (GivesE (normP (e1, es)) w) := by
  obtain ⟨p, hp⟩ : ∃ p, normP (e1, es) = p := ⟨_, rfl⟩
  rw [hp]
  obtain ⟨w0, hw0⟩ : ∃ w0, w0 = (w.alloc (.cells #[.int .i64 e1, .slice a m ca] 130)).alloc (.cells #[.int .i64 0, .slice none 0 0] 130) := ⟨_, rfl⟩
  have hb0 : Below w.heap.size w w0 := by rw [hw0]; exact ((Below.refl _ w).alloc (Nat.le_refl _) _).alloc (by simp) _
  have hs0 : w0.heap.size = w.heap.size + 1 + 1 := by rw [hw0]; simp
  have hr0 : w0.heap[w.heap.size]? = some (.cells #[.int .i64 e1, .slice a m ca] 130 (0, 0)) := by
    rw [hw0, Below.heap_alloc _ _ _ (by simp)]; exact heap_alloc_new _ _
  have hr1 : w0.heap[w.heap.size + 1]? = some (.cells #[.int .i64 0, .slice none 0 0] 130 (0, 0)) := by
    rw [hw0, show ∀ o, w.heap.size + 1 = (w.alloc o).heap.size by simp]; exact heap_alloc_new _ _
  have H0 : Hid (Below w.heap.size w w0 ∧ w0.heap[w.heap.size]? = some (.cells #[.int .i64 e1, .slice a m ca] 130 (0, 0)) ∧ w0.heap[w.heap.size + 1]? = some (.cells #[.int .i64 0, .slice none 0 0] 130 (0, 0))) := Lib.hid ⟨hb0, hr0, hr1⟩
  have k0 := box_cell0 hr0
  have k1 := box_cell1 hr0
  have HW0 := Lib.hid hw0
  have HZ := Lib.hid (hze.below hb0)
  have HML := Lib.hid hml
  have HP := Lib.hid hp
  have hlt0 : w.heap.size < w0.heap.size := by omega
  have hlt1 : w.heap.size + 1 < w0.heap.size := by omega
  have HZ1 := Lib.hid (fun wx => isZero_any e1 m ca a wx)
  clear hw0 hb0 hr0 hr1 hze hp
  by_cases hm0 : m = 0
  · subst hm0
    have hpz : p = (0, []) := by
      have := HP.out
      rw [List.eq_nil_of_length_eq_zero hml] at this
      rw [← this, normP]; simp
    have HPZ := Lib.hid hpz
    simp only [decide_true] at HZ1
    clear hpz hml
    go_enter Try.func104, Try.ntmps104
    go_wp2_with (fail)
    try rw [← HW0.out]
    refine (HZ1.out _).mono ?_
    rintro e w3 ⟨rfl, hb3⟩
    have hr0 := (hb3.block _ hlt0).trans H0.out.2.1
    have hr1 := (hb3.block _ hlt1).trans H0.out.2.2
    have H3 := Lib.hid (And.intro hb3 (And.intro hr0 hr1))
    have c0 := box_cell0 hr0
    have c1 := box_cell1 hr0
    have c2 := row_free hr0 0
    have d0 := box_cell0 hr1
    have d1 := box_cell1 hr1
    have d2 := row_free hr1 0
    have d3 := row_free hr1 1
    clear hb3 hr0 hr1
    go_wp2_with (fail)
    obtain ⟨y1, y2, y3⟩ := norm_end (v := .slice a 0 ca) H3.out.2.1 H3.out.2.2 (.inl rfl : IntsT w3 a []) (H0.out.1.trans (H3.out.1.mono (by omega)))
    refine bodyPost_ret_by (results_cell_row (P := Try.prog) rfl _ _ (w.heap.size + 1) 130 #[.int .i64 0, .slice a 0 ca] (0, 0) _ rfl y1 Try.underlying130 rfl (by kernel_rfl)) rfl ?_
    rw [HPZ.out]
    exact ⟨a, ca, rfl, y2, y3, Nat.zero_le _⟩
  · rw [show decide (m = 0) = false from decide_eq_false hm0] at HZ1
    obtain ⟨m, rfl⟩ : ∃ x, m = x + 1 := ⟨m - 1, by omega⟩
    obtain ⟨c, es', rfl⟩ : ∃ c es', es = c :: es' := List.exists_cons_of_length_pos (by omega)
    obtain ⟨b, off, rfl, hbl, hc⟩ := HZ.out.at (by simp)
    have g0 := hc 0 (by simp)
    simp only [Nat.add_zero, List.getElem?_cons_zero, Option.getD_some] at g0
    have HBL := Lib.hid hbl
    have hmI : 0 < (m : Int) + 1 := by omega
    have HNG := Lib.hid (fun (wx : World) (hb : Below w0.heap.size w0 wx) => negative_any e1 (m + 1) ca (some ⟨b, off, none⟩) (c :: es') wx hml hm he (HZ.out.below hb))
    obtain ⟨he1, he2⟩ := he
    clear hc hbl hm0 hml he1 he2
    by_cases hneg : c < 0
    · have HPZ : Hid (p = (0, (negN (e1, c :: es')).2)) := Lib.hid (by have := HP.out; rw [← this, normP, if_pos ⟨by simp, by simpa using hneg⟩])
      obtain ⟨q, hq⟩ : ∃ q, negN (e1, c :: es') = q := ⟨_, rfl⟩
      rw [hq] at HPZ HNG
      clear hq
      unfold GivesE at HNG
      go_enter Try.func104, Try.ntmps104
      go_wp2_with (fail)
      try rw [← HW0.out]
      refine (HZ1.out _).mono ?_
      rintro e w3 ⟨rfl, hb3⟩
      have hr0 := (hb3.block _ hlt0).trans H0.out.2.1
      have c0 := box_cell0 hr0
      have c1 := box_cell1 hr0
      have g1 := (hb3.cell (p := ⟨b, off, none⟩) HBL.out).trans g0
      have H3 := Lib.hid hb3
      clear hb3 hr0 g0
      go_wp2_with (fail)
      refine (HNG.out w3 H3.out).mono ?_
      rintro e w4 ⟨a4, c4, rfl, hz4, hb4, hl4⟩
      have hb04 := H3.out.trans (hb4.mono H3.out.size)
      have hr0 := (hb04.block _ hlt0).trans H0.out.2.1
      have hr1 := (hb04.block _ hlt1).trans H0.out.2.2
      have d0 := box_cell0 hr0
      have d1 := box_cell1 hr0
      have d2 := row_free hr0 0
      have d3 := row_free hr0 1
      have d4 := box_cell0 hr1
      have d5 := box_cell1 hr1
      have d6 := row_free hr1 0
      have d7 := row_free hr1 1
      have H4 := Lib.hid (And.intro hb04 (And.intro hr0 (And.intro hr1 (And.intro hz4 hl4))))
      clear hb04 hr0 hr1 hz4 hl4 hb4
      go_wp2_with (fail)
      have z1 := heap_setCell_self (i := 0) H4.out.2.1 (.int .i64 q.1)
      have z2 := heap_setCell_self (i := 1) z1 (.slice a4 q.2.length c4)
      have z3 : ((w4.setCell ⟨w.heap.size, 0, none⟩ (.int .i64 q.1)).setCell ⟨w.heap.size, 1, none⟩ (.slice a4 q.2.length c4)).heap[w.heap.size + 1]? = some (.cells #[.int .i64 0, .slice none 0 0] 130 (0, 0)) := ((RowKit.Below.heap_setCell _ _ _ _ (by simp)).trans (RowKit.Below.heap_setCell _ _ _ _ (by simp))).trans H4.out.2.2.1
      obtain ⟨y1, y2, y3⟩ := norm_end (v := .slice a4 q.2.length c4) z2 z3 ((H4.out.2.2.2.1.setCell H4.out.2.1 (by decide)).setCell z1 (by decide)) (((H0.out.1.trans (H4.out.1.mono (by omega))).setCell (p := ⟨w.heap.size, 0, none⟩) (Nat.le_refl _) _).setCell (p := ⟨w.heap.size, 1, none⟩) (Nat.le_refl _) _)
      refine bodyPost_ret_by (results_cell_row (P := Try.prog) rfl _ _ (w.heap.size + 1) 130 #[.int .i64 0, .slice a4 q.2.length c4] (0, 0) _ rfl y1 Try.underlying130 rfl (by kernel_rfl)) rfl ?_
      rw [HPZ.out]
      exact ⟨a4, c4, rfl, y2, y3, H4.out.2.2.2.2⟩
    · have HPZ : Hid (p = (0, c :: es')) := Lib.hid (by have := HP.out; rw [← this, normP, if_neg (by simp; omega)])
      clear HNG
      go_enter Try.func104, Try.ntmps104
      go_wp2_with (fail)
      try rw [← HW0.out]
      refine (HZ1.out _).mono ?_
      rintro e w3 ⟨rfl, hb3⟩
      have hr0 := (hb3.block _ hlt0).trans H0.out.2.1
      have hr1 := (hb3.block _ hlt1).trans H0.out.2.2
      have H3 := Lib.hid (And.intro hb3 (And.intro hr0 hr1))
      have c0 := box_cell0 hr0
      have c1 := box_cell1 hr0
      have c2 := row_free hr0 0
      have d0 := box_cell0 hr1
      have d1 := box_cell1 hr1
      have d2 := row_free hr1 0
      have d3 := row_free hr1 1
      have g1 := (hb3.cell (p := ⟨b, off, none⟩) HBL.out).trans g0
      clear hb3 hr0 hr1 g0
      go_wp2_with (fail)
      obtain ⟨y1, y2, y3⟩ := norm_end (v := .slice (some ⟨b, off, none⟩) (m + 1) ca) H3.out.2.1 H3.out.2.2 (HZ.out.below H3.out.1) (H0.out.1.trans (H3.out.1.mono (by omega)))
      refine bodyPost_ret_by (results_cell_row (P := Try.prog) rfl _ _ (w.heap.size + 1) 130 #[.int .i64 0, .slice (some ⟨b, off, none⟩) (m + 1) ca] (0, 0) _ rfl y1 Try.underlying130 rfl (by kernel_rfl)) rfl ?_
      rw [HPZ.out]
      have hml := HML.out
      exact ⟨_, ca, by rw [hml], y2, y3, by simp only [hml]; exact hca⟩

end Go.Proofs.Ytbcggbmjbljnfaa
