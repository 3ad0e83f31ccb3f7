/-
  strap: polynomials: 'isZero', 'plus'.
-/
import Derived.Test.YtbcggbmjbljnfaaCa
namespace Go.Proofs.Ytbcggbmjbljnfaa
open Go.RowKit Go.Sort

set_option maxRecDepth 100000 in
theorem isZero_any (low : Int) (n cap : Nat) (a : Option Addr) (w : World) :
    Calls Try.prog 119 #[.agg #[.int .i64 low, .slice a n cap]] w fun e w' => e = .returned (.bool (decide (n = 0))) ∧ Below w.heap.size w w' := by
  have hb : Below w.heap.size w (w.alloc (.cells #[.int .i64 low, .slice a n cap] 130)) := (Below.refl _ w).alloc (Nat.le_refl _) _
  cases n with
  | zero =>
    go_enter Try.func119, Try.ntmps119
    go_wp2
    go_ret
    exact ⟨by simp, hb⟩
  | succ n =>
    have hne : ¬ ((n : Int) + 1 = 0) := by omega
    go_enter Try.func119, Try.ntmps119
    go_wp2
    go_ret
    exact ⟨by simp [hne], hb⟩

/-- Coefficients that are added, from a place on. -/
def addTo (off : Nat) (zs : List Int) (r : List Int) (k : Nat) : List Int := (List.range k).foldl (fun r j => r.set (off + j) (wrap64 (r[off + j]?.getD 0 + zs[j]?.getD 0))) r
theorem addTo_succ (off : Nat) (zs r : List Int) (k : Nat) : addTo off zs r (k + 1) = (addTo off zs r k).set (off + k) (wrap64 ((addTo off zs r k)[off + k]?.getD 0 + zs[k]?.getD 0)) := by simp [addTo, List.range_succ, List.foldl_append]
theorem addTo_len (off : Nat) (zs r : List Int) : ∀ k, (addTo off zs r k).length = r.length
  | 0 => rfl
  | k + 1 => by rw [addTo_succ, List.length_set, addTo_len off zs r k]
/-- The sum. -/
def plusN (e f : Int × List Int) : Int × List Int :=
  let lo := min e.1 f.1
  entN lo (addTo (f.1 - lo).toNat f.2 (addTo (e.1 - lo).toNat e.2 (List.replicate (max (e.1 + e.2.length) (f.1 + f.2.length) - lo).toNat 0) e.2.length) f.2.length)

set_option maxRecDepth 100000 in
set_option maxHeartbeats 4000000 in
theorem plus_any (e1 f1 : Int) (m l ca cb : Nat) (a b : Option Addr) (es fs : List Int) (w : World) (hml : es.length = m) (hll : fs.length = l) (hm : m ≤ 1000) (hl : l ≤ 1000) (he : -1000 ≤ e1 ∧ e1 ≤ 1000) (hf : -1000 ≤ f1 ∧ f1 ≤ 1000) (hze : IntsT w a es) (hzf : IntsT w b fs) :
    Calls Try.prog 101 #[.agg #[.int .i64 e1, .slice a m ca], .agg #[.int .i64 f1, .slice b l cb]] w (GivesE (plusN (e1, es) (f1, fs)) w) := by
  obtain ⟨lo, hlo⟩ : ∃ lo, min e1 f1 = lo := ⟨_, rfl⟩
  obtain ⟨hi, hhi⟩ : ∃ hi, max (e1 + (m : Int)) (f1 + (l : Int)) = hi := ⟨_, rfl⟩
  obtain ⟨k, hk⟩ : ∃ k : Nat, hi - lo = (k : Int) := ⟨(hi - lo).toNat, by omega⟩
  obtain ⟨d, hd⟩ : ∃ d : Nat, e1 - lo = (d : Int) := ⟨(e1 - lo).toNat, by omega⟩
  obtain ⟨d', hd'⟩ : ∃ d' : Nat, f1 - lo = (d' : Int) := ⟨(f1 - lo).toNat, by omega⟩
  have hk1 : k ≤ 4000 := by omega
  have hdm : d + m ≤ k := by omega
  have hdl : d' + l ≤ k := by omega
  have hlo1 : -1000 ≤ lo ∧ lo ≤ 1000 := by omega
  have hpl : plusN (e1, es) (f1, fs) = entN lo (addTo d' fs (addTo d es (List.replicate k 0) m) l) := by
    simp only [plusN, hml, hll, hlo, hhi, hk, hd, hd', Int.toNat_natCast]
  obtain ⟨p, hp⟩ : ∃ p, plusN (e1, es) (f1, fs) = p := ⟨_, rfl⟩
  have HPP := Lib.hid (hpl.symm.trans hp)
  rw [hp]
  clear hp
  have hw1 : IntKind.i64.wrap (e1 + (m : Int)) = e1 + (m : Int) := by rw [IntKind.wrap_i64]; omega
  have hw2 : IntKind.i64.wrap (f1 + (l : Int)) = f1 + (l : Int) := by rw [IntKind.wrap_i64]; omega
  have hw3 : IntKind.i64.wrap (hi - lo) = (k : Int) := by rw [IntKind.wrap_i64]; omega
  have hw3b : wrap64 (hi - lo) = (k : Int) := by unfold wrap64; omega
  have HQ1 : Hid (f1 + (l : Int) ≤ e1 + (m : Int) → wrap64 (e1 + (m : Int) - lo) = (k : Int)) := Lib.hid (fun h => by unfold wrap64; omega)
  have HQ2 : Hid (e1 + (m : Int) ≤ f1 + (l : Int) → wrap64 (f1 + (l : Int) - lo) = (k : Int)) := Lib.hid (fun h => by unfold wrap64; omega)
  have HQ3 : Hid (e1 + (m : Int) = f1 + (l : Int) → IntKind.i64.wrap (e1 + (m : Int)) = f1 + (l : Int)) := Lib.hid (fun h => by rw [IntKind.wrap_i64]; omega)
  have hw4 : IntKind.i64.wrap (e1 - lo) = (d : Int) := by rw [IntKind.wrap_i64]; omega
  have hw5 : IntKind.i64.wrap (f1 - lo) = (d' : Int) := by rw [IntKind.wrap_i64]; omega
  obtain ⟨w0, hw0⟩ : ∃ w0, w0 = ((w.alloc (.cells #[.int .i64 e1, .slice a m ca] 130)).alloc (.cells #[.int .i64 f1, .slice b l cb] 130)).alloc (.cells #[.int .i64 0, .slice none 0 0] 130) := ⟨_, rfl⟩
  have hmk := make_intsZ k (by omega) w0
  obtain ⟨g, hg⟩ : ∃ g, w0.heap.size = g := ⟨_, rfl⟩
  have hs0 : w.heap.size + 1 + 1 < g := by rw [← hg, hw0]; simp
  have hb0 : Below w.heap.size w w0 := by rw [hw0]; exact (((Below.refl _ w).alloc (Nat.le_refl _) _).alloc (by simp) _).alloc (by simp; omega) _
  have hr0 : w0.heap[w.heap.size]? = some (.cells #[.int .i64 e1, .slice a m ca] 130 (0, 0)) := by
    rw [hw0, Below.heap_alloc _ _ _ (by simp; omega), Below.heap_alloc _ _ _ (by simp)]; exact heap_alloc_new _ _
  have hr1 : w0.heap[w.heap.size + 1]? = some (.cells #[.int .i64 f1, .slice b l cb] 130 (0, 0)) := by
    rw [hw0, Below.heap_alloc _ _ _ (by simp), show ∀ o, w.heap.size + 1 = (w.alloc o).heap.size by simp]; exact heap_alloc_new _ _
  have hr2 : w0.heap[w.heap.size + 1 + 1]? = some (.cells #[.int .i64 0, .slice none 0 0] 130 (0, 0)) := by
    rw [hw0, show ∀ o o', w.heap.size + 1 + 1 = ((w.alloc o).alloc o').heap.size by simp]; exact heap_alloc_new _ _
  rw [hg] at hmk
  obtain ⟨w1, hw1'⟩ : ∃ w1, w0.alloc (.cells (intC (List.replicate k 0)) 3) = w1 := ⟨_, rfl⟩
  have hb1 : Below g w0 w1 := by rw [← hw1', ← hg]; exact (Below.refl _ w0).alloc (Nat.le_refl _) _
  have hrow1 : RowZ w1 g (List.replicate k 0) := by rw [← hw1', ← hg]; exact heap_alloc_new _ _
  rw [hw1'] at hmk
  have H1 : Hid (Below g w0 w1 ∧ RowZ w1 g (List.replicate k 0) ∧ Below w.heap.size w w0 ∧ w0.heap.size = g ∧ w0.heap[w.heap.size + 1 + 1]? = some (.cells #[.int .i64 0, .slice none 0 0] 130 (0, 0))) := Lib.hid ⟨hb1, hrow1, hb0, hg, hr2⟩
  have HR : Hid (∀ wr, Below g w0 wr → wr.cell? ⟨w.heap.size, 0, none⟩ = some (.int .i64 e1) ∧ wr.cell? ⟨w.heap.size, 1, none⟩ = some (.slice a m ca) ∧ wr.cell? ⟨w.heap.size + 1, 0, none⟩ = some (.int .i64 f1) ∧ wr.cell? ⟨w.heap.size + 1, 1, none⟩ = some (.slice b l cb)) := Lib.hid (fun wr hb =>
    ⟨box_cell0 ((hb.block _ (by omega)).trans hr0), box_cell1 ((hb.block _ (by omega)).trans hr0), box_cell0 ((hb.block _ (by omega)).trans hr1), box_cell1 ((hb.block _ (by omega)).trans hr1)⟩)
  obtain ⟨q0, q1, q2, q3⟩ := HR.out w0 (Below.refl _ _)
  obtain ⟨p0, p1, p2, p3⟩ := HR.out w1 hb1
  have HZE := Lib.hid (hze.below hb0)
  have HZF := Lib.hid (hzf.below hb0)
  have HML := Lib.hid hml
  have HLL := Lib.hid hll
  have HW0 := Lib.hid hw0
  clear hw0 hb1 hrow1 hb0 hg hr0 hr1 hr2 hze hzf hml hll hpl hw1' hd hd' hk
  go_enter Try.func101, Try.ntmps101
  go_upto_region 1 with fail
  rw [← HW0.out]
  go_cut [5] from 11 to 17 (fun v5 wx => v5 = .int .i64 lo ∧ w0 = wx)
  case first =>
    rcases (show (e1 ≤ f1 ∧ e1 = lo) ∨ (f1 < e1 ∧ f1 = lo) by omega) with ⟨hc, rfl⟩ | ⟨hc, rfl⟩
    all_goals
      clear hlo hhi hm hl he hf hdm hdl hlo1 hk1 p0 p1 p2 p3
      go_wp2_with (fail)
      all_goals first
        | (exfalso; omega)
        | (go_meet; exact ⟨rfl, rfl⟩)
        | (go_meet; exact ⟨by congr 1; omega, rfl⟩)
  case rest =>
    obtain ⟨rfl, rfl⟩ := hcut
    go_upto_region 2 with fail
    go_cut [6] from 18 to 37 (fun v6 wx => v6 = .slice (some ⟨g, 0, none⟩) k k ∧ w1 = wx)
    case first =>
      clear hw3 hw3b
      rcases (show e1 + (m : Int) < f1 + (l : Int) ∨ e1 + (m : Int) = f1 + (l : Int) ∨ f1 + (l : Int) < e1 + (m : Int) by omega) with hc | hc | hc
      · have h3 := HQ2.out (by omega)
        clear hlo hhi hm hl he hf hdm hdl hlo1 hk1 p0 p1 p2 p3
        go_wp2_with (fail)
        all_goals first
          | (exfalso; omega)
          | (go_meet; exact ⟨rfl, rfl⟩)
      · have h3 := HQ2.out (by omega)
        have hw1' := HQ3.out hc
        clear hlo hhi hm hl he hf hdm hdl hlo1 hk1 p0 p1 p2 p3 hc hw1
        go_wp2_with (fail)
        all_goals first
          | (exfalso; omega)
          | (go_meet; exact ⟨rfl, rfl⟩)
      · have h3 := HQ1.out (by omega)
        clear hlo hhi hm hl he hf hdm hdl hlo1 hk1 p0 p1 p2 p3
        go_wp2_with (fail)
        all_goals first
          | (exfalso; omega)
          | (go_meet; exact ⟨rfl, rfl⟩)
    case rest =>
      obtain ⟨rfl, rfl⟩ := hcut
      clear hw1 hw2 hw3 hmk hlo hhi q0 q1 q2 q3
      have HI1 : Hid (RowZ w1 g (addTo d es (List.replicate k 0) 0) ∧ Below g w0 w1) := Lib.hid ⟨H1.out.2.1, H1.out.1⟩
      have HL1 : Hid (∀ i, (addTo d es (List.replicate k 0) i).length = k) := Lib.hid (fun i => by rw [addTo_len]; simp)
      have HS1 := Lib.hid (addTo_succ d es (List.replicate k 0))
      go_wp2_with (fail)
      go_loopw [42, 7, 8] (fun i _ _ wr => ∃ j : Nat, j ≤ m ∧ i = .int .i64 j ∧ Hid (RowZ wr g (addTo d es (List.replicate k 0) j) ∧ Below g w0 wr)) (fun i _ _ _ => m - (intOf i).toNat)
      case atStart => exact ⟨0, Nat.zero_le _, rfl, HI1⟩
      case round =>
        clear HI1 p0 p1 p2 p3
        obtain ⟨j, hj, rfl, HI⟩ := hrel
        obtain ⟨q0, q1, q2, q3⟩ := HR.out wr HI.out.2
        by_cases hlt : j < m
        · have hjI : (j : Int) < (m : Int) := by omega
          obtain ⟨ba, oa, rfl, hba, hca⟩ := HZE.out.at (by rw [HML.out]; omega)
          have c0 := (HI.out.2.cell (p := ⟨ba, oa + j, none⟩) (by rw [← H1.out.2.2.2.1]; exact hba)).trans (hca j (by rw [HML.out]; exact hlt))
          have c1 := HI.out.1.at (i := d + j) (by rw [HL1.out]; omega)
          have f1' := HI.out.1.free (d + j)
          have hw6 : IntKind.i64.wrap ((d : Int) + (j : Int)) = (d : Int) + (j : Int) := by rw [IntKind.wrap_i64]; omega
          have hx1 : (d : Int) + (j : Int) < (k : Int) := by omega
          have hx2 : (0 : Int) ≤ (d : Int) + (j : Int) := by omega
          have hx3 : ((d : Int) + (j : Int)).toNat = d + j := by omega
          have HP := HI.out.1.put (d + j) (wrap64 ((addTo d es (List.replicate k 0) j)[d + j]?.getD 0 + es[j]?.getD 0))
          rw [← HS1.out j] at HP
          have HPH := Lib.hid HP
          obtain ⟨x, hx⟩ : ∃ x, (addTo d es (List.replicate k 0) j)[d + j]?.getD 0 = x := ⟨_, rfl⟩
          obtain ⟨z, hz⟩ : ∃ z, es[j]?.getD 0 = z := ⟨_, rfl⟩
          rw [hx] at c1 HPH
          rw [hz] at c0 HPH
          clear hca HP hx hz
          go_wp2_with (fail)
          exact ⟨⟨j + 1, by omega, by go_num, Lib.hid ⟨HPH.out, HI.out.2.setCell (p := ⟨g, d + j, none⟩) (Nat.le_refl _) _⟩⟩, by simp [intOf]; omega⟩
        · obtain rfl : j = m := by omega
          obtain ⟨rm, hrm⟩ : ∃ rm, addTo d es (List.replicate k 0) j = rm := ⟨_, rfl⟩
          rw [hrm] at HI
          have HRM : Hid (rm.length = k ∧ entN lo (addTo d' fs rm l) = p) := Lib.hid ⟨by rw [← hrm]; exact HL1.out j, by rw [← hrm]; exact HPP.out⟩
          have HI2 : Hid (RowZ wr g (addTo d' fs rm 0) ∧ Below g w0 wr) := Lib.hid ⟨HI.out.1, HI.out.2⟩
          have HL2 : Hid (∀ i, (addTo d' fs rm i).length = k) := Lib.hid (fun i => by rw [addTo_len]; exact HRM.out.1)
          have HS2 := Lib.hid (addTo_succ d' fs rm)
          clear hrm HL1 HS1 HI HPP
          go_wp2_with (fail)
          go_loopw [65, 9, 10] (fun i _ _ wx => ∃ j : Nat, j ≤ l ∧ i = .int .i64 j ∧ Hid (RowZ wx g (addTo d' fs rm j) ∧ Below g w0 wx)) (fun i _ _ _ => l - (intOf i).toNat)
          case atStart => exact ⟨0, Nat.zero_le _, rfl, HI2⟩
          case round =>
            clear HI2 q0 q1 q2 q3
            rename World => w6
            obtain ⟨i, hil, rfl, HI⟩ := hrel
            obtain ⟨q0, q1, q2, q3⟩ := HR.out w6 HI.out.2
            by_cases hlt : i < l
            · have hjI : (i : Int) < (l : Int) := by omega
              obtain ⟨ba, oa, rfl, hba, hca⟩ := HZF.out.at (by rw [HLL.out]; omega)
              have c0 := (HI.out.2.cell (p := ⟨ba, oa + i, none⟩) (by rw [← H1.out.2.2.2.1]; exact hba)).trans (hca i (by rw [HLL.out]; exact hlt))
              have c1 := HI.out.1.at (i := d' + i) (by rw [HL2.out]; omega)
              have f1' := HI.out.1.free (d' + i)
              have hw6 : IntKind.i64.wrap ((d' : Int) + (i : Int)) = (d' : Int) + (i : Int) := by rw [IntKind.wrap_i64]; omega
              have hx1 : (d' : Int) + (i : Int) < (k : Int) := by omega
              have hx2 : (0 : Int) ≤ (d' : Int) + (i : Int) := by omega
              have hx3 : ((d' : Int) + (i : Int)).toNat = d' + i := by omega
              have HP := HI.out.1.put (d' + i) (wrap64 ((addTo d' fs rm i)[d' + i]?.getD 0 + fs[i]?.getD 0))
              rw [← HS2.out i] at HP
              have HPH := Lib.hid HP
              obtain ⟨x, hx⟩ : ∃ x, (addTo d' fs rm i)[d' + i]?.getD 0 = x := ⟨_, rfl⟩
              obtain ⟨z, hz⟩ : ∃ z, fs[i]?.getD 0 = z := ⟨_, rfl⟩
              rw [hx] at c1 HPH
              rw [hz] at c0 HPH
              clear hca HP hx hz
              go_wp2_with (fail)
              exact ⟨⟨i + 1, by omega, by go_num, Lib.hid ⟨HPH.out, HI.out.2.setCell (p := ⟨g, d' + i, none⟩) (Nat.le_refl _) _⟩⟩, by simp [intOf]; omega⟩
            · obtain rfl : i = l := by omega
              have HEN := Lib.hid (entryOf_any lo k k (some ⟨g, 0, none⟩) (addTo d' fs rm i) w6 (HL2.out i) (Nat.le_refl _) (by omega) (by omega) HI.out.1.ints)
              rw [HRM.out.2] at HEN
              have hs6 := HI.out.2.size
              have hgs := H1.out.2.2.2.1
              have HBW : Hid (Below w.heap.size w w6) := Lib.hid (H1.out.2.2.1.trans (HI.out.2.mono (by omega)))
              have HRW : Hid (w6.heap[w.heap.size + 1 + 1]? = some (.cells #[.int .i64 0, .slice none 0 0] 130 (0, 0))) := Lib.hid ((HI.out.2.block _ (by omega)).trans H1.out.2.2.2.2)
              go_wp2_with (fail)
              refine HEN.out.mono ?_
              rintro e w7 ⟨a7, c7, rfl, hz7, hb7, hl7⟩
              have hrw7 := (hb7.block _ (Array.getElem?_eq_some_iff.1 HRW.out).1).trans HRW.out
              have H7 := Lib.hid (And.intro hz7 (And.intro (HBW.out.trans (hb7.mono HBW.out.size)) (And.intro hrw7 hl7)))
              have k0 := box_cell0 hrw7
              have k1 := box_cell1 hrw7
              have k2 := row_free hrw7 0
              have k3 := row_free hrw7 1
              clear hz7 hb7 hrw7 hl7
              go_wp2_with (fail)
              have hr1 := heap_setCell_self (i := 0) H7.out.2.2.1 (.int .i64 p.1)
              have hr2 := heap_setCell_self (i := 1) hr1 (.slice a7 p.2.length c7)
              refine bodyPost_ret_by (results_cell_row (P := Try.prog) rfl _ _ (w.heap.size + 1 + 1) 130 #[.int .i64 p.1, .slice a7 p.2.length c7] (0, 0) _ rfl hr2 Try.underlying130 rfl (by kernel_rfl)) rfl ?_
              exact ⟨a7, c7, rfl, (H7.out.1.setCell H7.out.2.2.1 (by decide)).setCell hr1 (by decide), (H7.out.2.1.setCell (p := ⟨w.heap.size + 1 + 1, 0, none⟩) (by simp; omega) _).setCell (p := ⟨w.heap.size + 1 + 1, 1, none⟩) (by simp; omega) _, H7.out.2.2.2⟩

end Go.Proofs.Ytbcggbmjbljnfaa
