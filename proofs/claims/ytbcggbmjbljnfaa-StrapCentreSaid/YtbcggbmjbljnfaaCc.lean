/-
  strap: polynomials: 'times'.
-/
import Derived.Test.YtbcggbmjbljnfaaCb
namespace Go.Proofs.Ytbcggbmjbljnfaa
open Go.RowKit Go.Sort

def mulIn (i : Nat) (c : Int) (fs r : List Int) (k : Nat) : List Int := (List.range k).foldl (fun r j => r.set (i + j) (wrap64 (r[i + j]?.getD 0 + wrap64 (c * fs[j]?.getD 0)))) r
theorem mulIn_succ (i : Nat) (c : Int) (fs r : List Int) (k : Nat) : mulIn i c fs r (k + 1) = (mulIn i c fs r k).set (i + k) (wrap64 ((mulIn i c fs r k)[i + k]?.getD 0 + wrap64 (c * fs[k]?.getD 0))) := by simp [mulIn, List.range_succ, List.foldl_append]
theorem mulIn_len (i : Nat) (c : Int) (fs r : List Int) : ∀ k, (mulIn i c fs r k).length = r.length
  | 0 => rfl
  | k + 1 => by rw [mulIn_succ, List.length_set, mulIn_len i c fs r k]
def mulTo (es fs r : List Int) (k : Nat) : List Int := (List.range k).foldl (fun r i => mulIn i (es[i]?.getD 0) fs r fs.length) r
theorem mulTo_succ (es fs r : List Int) (k : Nat) : mulTo es fs r (k + 1) = mulIn k (es[k]?.getD 0) fs (mulTo es fs r k) fs.length := by simp [mulTo, List.range_succ, List.foldl_append]
theorem mulTo_len (es fs r : List Int) : ∀ k, (mulTo es fs r k).length = r.length
  | 0 => rfl
  | k + 1 => by rw [mulTo_succ, mulIn_len, mulTo_len es fs r k]
/-- The product. -/
def timesN (e f : Int × List Int) : Int × List Int := if e.2.length = 0 ∨ f.2.length = 0 then (0, []) else entN (e.1 + f.1) (mulTo e.2 f.2 (List.replicate (e.2.length + f.2.length - 1) 0) e.2.length)

/-- What is laid at the beginning: two boxes and the result's. -/
theorem two_boxes (w : World) (e1 f1 : Int) (u v : Value) : ∃ w0, w0 = ((w.alloc (.cells #[.int .i64 e1, u] 130)).alloc (.cells #[.int .i64 f1, v] 130)).alloc (.cells #[.int .i64 0, .slice none 0 0] 130) ∧ Below w.heap.size w w0 ∧ w0.heap.size = w.heap.size + 1 + 1 + 1 ∧
    w0.heap[w.heap.size]? = some (.cells #[.int .i64 e1, u] 130 (0, 0)) ∧ w0.heap[w.heap.size + 1]? = some (.cells #[.int .i64 f1, v] 130 (0, 0)) ∧ w0.heap[w.heap.size + 1 + 1]? = some (.cells #[.int .i64 0, .slice none 0 0] 130 (0, 0)) := by
  refine ⟨_, rfl, (((Below.refl _ w).alloc (Nat.le_refl _) _).alloc (by simp) _).alloc (by simp; omega) _, by simp, ?_, ?_, ?_⟩
  · rw [Below.heap_alloc _ _ _ (by simp; omega), Below.heap_alloc _ _ _ (by simp)]; exact heap_alloc_new _ _
  · rw [Below.heap_alloc _ _ _ (by simp), show ∀ o, w.heap.size + 1 = (w.alloc o).heap.size by simp]; exact heap_alloc_new _ _
  · rw [show ∀ o o', w.heap.size + 1 + 1 = ((w.alloc o).alloc o').heap.size by simp]; exact heap_alloc_new _ _

set_option maxRecDepth 100000 in
set_option maxHeartbeats 4000000 in
theorem times_any (e1 f1 : Int) (m l ca cb : Nat) (a b : Option Addr) (es fs : List Int) (w : World) (hml : es.length = m) (hll : fs.length = l) (hm : m ≤ 1000) (hl : l ≤ 1000) (he : -1000 ≤ e1 ∧ e1 ≤ 1000) (hf : -1000 ≤ f1 ∧ f1 ≤ 1000) (hze : IntsT w a es) (hzf : IntsT w b fs) :
    Calls Try.prog 117 #[.agg #[.int .i64 e1, .slice a m ca], .agg #[.int .i64 f1, .slice b l cb]] w (GivesE (timesN (e1, es) (f1, fs)) w) := by
  obtain ⟨p, hp⟩ : ∃ p, timesN (e1, es) (f1, fs) = p := ⟨_, rfl⟩
  rw [hp]
  unfold timesN at hp
  simp only [hml, hll] at hp
  obtain ⟨w0, hw0, hb0, hs0, hr0, hr1, hr2⟩ := two_boxes w e1 f1 (.slice a m ca) (.slice b l cb)
  have k0 := box_cell0 hr0
  have k1 := box_cell1 hr0
  have HZ1 := Lib.hid (fun wx => isZero_any e1 m ca a wx)
  have HZ2 := Lib.hid (fun wx => isZero_any f1 l cb b wx)
  have H0 : Hid (Below w.heap.size w w0 ∧ w0.heap[w.heap.size]? = some (.cells #[.int .i64 e1, .slice a m ca] 130 (0, 0)) ∧ w0.heap[w.heap.size + 1]? = some (.cells #[.int .i64 f1, .slice b l cb] 130 (0, 0)) ∧ w0.heap[w.heap.size + 1 + 1]? = some (.cells #[.int .i64 0, .slice none 0 0] 130 (0, 0))) := Lib.hid ⟨hb0, hr0, hr1, hr2⟩
  have HW0 := Lib.hid hw0
  have hZ0 : Hid (∀ (w3 : World), Below w0.heap.size w0 w3 → p = (0, []) → w3.heap[w.heap.size + 1 + 1]? = some (.cells #[.int .i64 0, .slice none 0 0] 130 (0, 0)) ∧ GivesE p w (.returned (.agg #[.int .i64 0, .slice none 0 0])) ((w3.setCell ⟨w.heap.size + 1 + 1, 0, none⟩ (.int .i64 0)).setCell ⟨w.heap.size + 1 + 1, 1, none⟩ (.slice none 0 0))) := Lib.hid (fun w3 hb hpz => by
    refine ⟨(hb.block _ (by omega)).trans hr2, ?_⟩
    rw [hpz]
    exact ⟨none, 0, rfl, .inl rfl, (((hb0.trans (hb.mono (by omega))).setCell (p := ⟨w.heap.size + 1 + 1, 0, none⟩) (by simp; omega) _).setCell (p := ⟨w.heap.size + 1 + 1, 1, none⟩) (by simp; omega) _), Nat.le_refl _⟩)
  clear hw0 hr0 hr1 hr2
  by_cases hm0 : m = 0
  · rw [if_pos (.inl hm0)] at hp
    have HP := Lib.hid hp
    subst hm0
    simp only [decide_true] at HZ1
    clear hp hml hll hze hzf
    go_enter Try.func117, Try.ntmps117
    go_wp2_with (fail)
    try rw [← HW0.out]
    refine (HZ1.out _).mono ?_
    rintro e w3 ⟨rfl, hb3⟩
    obtain ⟨q2, q3⟩ := hZ0.out w3 hb3 HP.out.symm
    have r0 := box_cell0 q2
    have r1 := box_cell1 q2
    have r2 := row_free q2 0
    have r3 := row_free q2 1
    have Q2 := Lib.hid q2
    have Q3 := Lib.hid q3
    clear q2 q3 hb3
    go_wp2_with (fail)
    have x1 := heap_setCell_self (i := 0) Q2.out (.int .i64 0)
    have x2 := heap_setCell_self (i := 1) x1 (.slice none 0 0)
    refine bodyPost_ret_by (results_cell_row (P := Try.prog) rfl _ _ (w.heap.size + 1 + 1) 130 #[.int .i64 0, .slice none 0 0] (0, 0) _ rfl x2 Try.underlying130 rfl (by kernel_rfl)) rfl ?_
    exact Q3.out
  · rw [show decide (m = 0) = false from decide_eq_false hm0] at HZ1
    by_cases hl0 : l = 0
    · rw [if_pos (.inr hl0)] at hp
      have HP := Lib.hid hp
      subst hl0
      simp only [decide_true] at HZ2
      have hlt1 : w.heap.size + 1 < w0.heap.size := by omega
      clear hp hml hll hze hzf hm0
      go_enter Try.func117, Try.ntmps117
      go_wp2_with (fail)
      try rw [← HW0.out]
      refine (HZ1.out _).mono ?_
      rintro e w2 ⟨rfl, hb2⟩
      have B2 := Lib.hid hb2
      have hs2 := hb2.size
      have s0 := box_cell0 ((hb2.block _ hlt1).trans H0.out.2.2.1)
      have s1 := box_cell1 ((hb2.block _ hlt1).trans H0.out.2.2.1)
      clear hb2
      go_wp2_with (fail)
      refine (HZ2.out _).mono ?_
      rintro e w3 ⟨rfl, hb3⟩
      obtain ⟨q2, q3⟩ := hZ0.out w3 (B2.out.trans (hb3.mono hs2)) HP.out.symm
      have r0 := box_cell0 q2
      have r1 := box_cell1 q2
      have r2 := row_free q2 0
      have r3 := row_free q2 1
      have Q2 := Lib.hid q2
      have Q3 := Lib.hid q3
      clear q2 q3 hb3
      go_wp2_with (fail)
      have x1 := heap_setCell_self (i := 0) Q2.out (.int .i64 0)
      have x2 := heap_setCell_self (i := 1) x1 (.slice none 0 0)
      refine bodyPost_ret_by (results_cell_row (P := Try.prog) rfl _ _ (w.heap.size + 1 + 1) 130 #[.int .i64 0, .slice none 0 0] (0, 0) _ rfl x2 Try.underlying130 rfl (by kernel_rfl)) rfl ?_
      exact Q3.out
    · rw [if_neg (by omega)] at hp
      rw [show decide (l = 0) = false from decide_eq_false hl0] at HZ2
      obtain ⟨k, hk⟩ : ∃ k, m + l - 1 = k := ⟨_, rfl⟩
      rw [hk] at hp
      have HP := Lib.hid hp
      have HML := Lib.hid hml
      have HLL := Lib.hid hll
      have hk1 : k ≤ 2000 := by omega
      have hkI : (m : Int) + (l : Int) - 1 = (k : Int) := by omega
      have hw1 : IntKind.i64.wrap ((m : Int) + (l : Int)) = (m : Int) + (l : Int) := by rw [IntKind.wrap_i64]; omega
      have hw2 : IntKind.i64.wrap ((m : Int) + (l : Int) - 1) = (k : Int) := by rw [IntKind.wrap_i64]; omega
      have hw2b : wrap64 ((m : Int) + (l : Int) - 1) = (k : Int) := by unfold wrap64; omega
      have hw3 : IntKind.i64.wrap (e1 + f1) = e1 + f1 := by rw [IntKind.wrap_i64]; omega
      have hlt1 : w.heap.size + 1 < w0.heap.size := by omega
      have hlt0 : w.heap.size < w0.heap.size := by omega
      have hlt2 : w.heap.size + 1 + 1 < w0.heap.size := by omega
      have HZE := Lib.hid (hze.below hb0)
      have HZF := Lib.hid (hzf.below hb0)
      obtain ⟨he1, he2⟩ := he
      obtain ⟨hf1, hf2⟩ := hf
      have HBD : Hid (-1000000 ≤ e1 + f1 ∧ e1 + f1 ≤ 1000000) := Lib.hid (by omega)
      have hmk := make_intsZ k (by omega)
      clear hp hml hll hze hzf he1 he2 hf1 hf2
      go_enter Try.func117, Try.ntmps117
      go_wp2_with (fail)
      try rw [← HW0.out]
      refine (HZ1.out _).mono ?_
      rintro e w2 ⟨rfl, hb2⟩
      have B2 := Lib.hid hb2
      have hs2 := hb2.size
      have s0 := box_cell0 ((hb2.block _ hlt1).trans H0.out.2.2.1)
      have s1 := box_cell1 ((hb2.block _ hlt1).trans H0.out.2.2.1)
      clear hb2
      go_wp2_with (fail)
      refine (HZ2.out _).mono ?_
      rintro e w3 ⟨rfl, hb3'⟩
      have hb3 := B2.out.trans (hb3'.mono hs2)
      have hs3 := hb3.size
      obtain ⟨g, hg⟩ : ∃ g, w3.heap.size = g := ⟨_, rfl⟩
      have hmk3 := hmk w3
      rw [hg] at hmk3 hs3
      obtain ⟨w4, hw4⟩ : ∃ w4, w3.alloc (.cells (intC (List.replicate k 0)) 3) = w4 := ⟨_, rfl⟩
      rw [hw4] at hmk3
      have H4 : Hid (Below g w3 w4 ∧ RowZ w4 g (List.replicate k 0) ∧ Below w0.heap.size w0 w3) := Lib.hid ⟨by rw [← hw4, ← hg]; exact (Below.refl _ w3).alloc (Nat.le_refl _) _, by rw [← hw4, ← hg]; exact heap_alloc_new _ _, hb3⟩
      have HR : Hid (∀ wr, Below g w3 wr → Below w0.heap.size w0 wr ∧ wr.cell? ⟨w.heap.size, 0, none⟩ = some (.int .i64 e1) ∧ wr.cell? ⟨w.heap.size, 1, none⟩ = some (.slice a m ca) ∧ wr.cell? ⟨w.heap.size + 1, 0, none⟩ = some (.int .i64 f1) ∧ wr.cell? ⟨w.heap.size + 1, 1, none⟩ = some (.slice b l cb)) := Lib.hid (fun wr hb => by
        have hbb := hb3.trans (hb.mono (B' := w0.heap.size) (by omega))
        exact ⟨hbb, box_cell0 ((hbb.block _ hlt0).trans H0.out.2.1), box_cell1 ((hbb.block _ hlt0).trans H0.out.2.1), box_cell0 ((hbb.block _ hlt1).trans H0.out.2.2.1), box_cell1 ((hbb.block _ hlt1).trans H0.out.2.2.1)⟩)
      have HG := Lib.hid hg
      obtain ⟨_, t0, t1, t2, t3⟩ := HR.out w3 (Below.refl _ _)
      obtain ⟨_, u0, u1, u2, u3⟩ := HR.out w4 H4.out.1
      clear hb3 hb3' hmk hw4 hg
      go_wp2_with (fail)
      have HI1 : Hid (RowZ w4 g (mulTo es fs (List.replicate k 0) 0) ∧ Below g w3 w4) := Lib.hid ⟨H4.out.2.1, H4.out.1⟩
      have HL1 : Hid (∀ i, (mulTo es fs (List.replicate k 0) i).length = k) := Lib.hid (fun i => by rw [mulTo_len]; simp)
      have HS1 : Hid (∀ i, mulTo es fs (List.replicate k 0) (i + 1) = mulIn i (es[i]?.getD 0) fs (mulTo es fs (List.replicate k 0) i) l) := Lib.hid (fun i => by rw [mulTo_succ, HLL.out])
      go_loopw [32] (fun i wr => ∃ j : Nat, j ≤ m ∧ i = .int .i64 j ∧ Hid (RowZ wr g (mulTo es fs (List.replicate k 0) j) ∧ Below g w3 wr)) (fun i _ => m - (intOf i).toNat)
      case atStart => exact ⟨0, Nat.zero_le _, rfl, HI1⟩
      case round =>
        clear HI1 u0 u1 u2 u3 t0 t1 t2 t3 s0 s1 k0 k1 hmk3
        obtain ⟨j, hj, rfl, HI⟩ := hrel
        obtain ⟨hbr, q0, q1, q2, q3⟩ := HR.out wr HI.out.2
        have HBR := Lib.hid hbr
        clear hbr
        by_cases hlt : j < m
        · have hjI : (j : Int) < (m : Int) := by omega
          obtain ⟨ba, oa, rfl, hba, hca⟩ := HZE.out.at (by rw [HML.out]; omega)
          have c0 := (HBR.out.cell (p := ⟨ba, oa + j, none⟩) hba).trans (hca j (by rw [HML.out]; exact hlt))
          obtain ⟨c, hc⟩ : ∃ c, es[j]?.getD 0 = c := ⟨_, rfl⟩
          obtain ⟨r0, hr0⟩ : ∃ r0, mulTo es fs (List.replicate k 0) j = r0 := ⟨_, rfl⟩
          have HSJ := Lib.hid (HS1.out j)
          have HLJ := Lib.hid (HL1.out j)
          have HIJ := Lib.hid HI.out
          rw [hc] at c0 HSJ
          rw [hr0] at HSJ HLJ HIJ
          have HI2 : Hid (RowZ wr g (mulIn j c fs r0 0) ∧ Below g w3 wr) := HIJ
          have HL2 : Hid (∀ i, (mulIn j c fs r0 i).length = k) := Lib.hid (fun i => by rw [mulIn_len]; exact HLJ.out)
          have HS2 := Lib.hid (mulIn_succ j c fs r0)
          clear hca hc hr0 HI HIJ
          go_wp2_with (fail)
          go_loopw [41] (fun i wx => ∃ x : Nat, x ≤ l ∧ i = .int .i64 x ∧ Hid (RowZ wx g (mulIn j c fs r0 x) ∧ Below g w3 wx)) (fun i _ => l - (intOf i).toNat)
          case atStart => exact ⟨0, Nat.zero_le _, rfl, HI2⟩
          case round =>
            clear HI2 q0 q1 q2 q3 c0
            rename World => w6
            obtain ⟨i, hil, rfl, HI⟩ := hrel
            obtain ⟨hbr, q0, q1, q2, q3⟩ := HR.out w6 HI.out.2
            have HBR := Lib.hid hbr
            clear hbr
            by_cases hlt2 : i < l
            · have hiI : (i : Int) < (l : Int) := by omega
              obtain ⟨bb, ob, rfl, hbb, hcb⟩ := HZF.out.at (by rw [HLL.out]; omega)
              have c0 := (HBR.out.cell (p := ⟨bb, ob + i, none⟩) hbb).trans (hcb i (by rw [HLL.out]; exact hlt2))
              have c1 := HI.out.1.at (i := j + i) (by rw [HL2.out]; omega)
              have f1' := HI.out.1.free (j + i)
              have hw6 : IntKind.i64.wrap ((j : Int) + (i : Int)) = (j : Int) + (i : Int) := by rw [IntKind.wrap_i64]; omega
              have hx1 : (j : Int) + (i : Int) < (k : Int) := by omega
              have hx2 : (0 : Int) ≤ (j : Int) + (i : Int) := by omega
              have hx3 : ((j : Int) + (i : Int)).toNat = j + i := by omega
              have HPH := Lib.hid (HI.out.1.put (j + i) (wrap64 ((mulIn j c fs r0 i)[j + i]?.getD 0 + wrap64 (c * fs[i]?.getD 0))))
              rw [← HS2.out i] at HPH
              obtain ⟨x, hx⟩ : ∃ x, (mulIn j c fs r0 i)[j + i]?.getD 0 = x := ⟨_, rfl⟩
              obtain ⟨z, hz⟩ : ∃ z, fs[i]?.getD 0 = z := ⟨_, rfl⟩
              rw [hx] at c1 HPH
              rw [hz] at c0 HPH
              clear hcb hx hz
              go_wp2_with (fail)
              exact ⟨⟨i + 1, by omega, by go_num, Lib.hid ⟨HPH.out, HI.out.2.setCell (p := ⟨g, j + i, none⟩) (Nat.le_refl _) _⟩⟩, by simp [intOf]; omega⟩
            · obtain rfl : i = l := by omega
              go_wp2_with (fail)
              exact ⟨⟨j + 1, by omega, by go_num, Lib.hid ⟨by rw [HSJ.out]; exact HI.out.1, HI.out.2⟩⟩, by simp [intOf]; omega⟩
        · obtain rfl : j = m := by omega
          have HEN := Lib.hid (entryOf_any (e1 + f1) k k (some ⟨g, 0, none⟩) (mulTo es fs (List.replicate k 0) j) wr (HL1.out j) (Nat.le_refl _) (by omega) HBD.out HI.out.1.ints)
          rw [show entN (e1 + f1) (mulTo es fs (List.replicate k 0) j) = p from HP.out] at HEN
          have hs6 := HI.out.2.size
          have HBW : Hid (Below w.heap.size w wr) := Lib.hid (H0.out.1.trans (HBR.out.mono (by omega)))
          have HRW : Hid (wr.heap[w.heap.size + 1 + 1]? = some (.cells #[.int .i64 0, .slice none 0 0] 130 (0, 0))) := Lib.hid ((HBR.out.block _ hlt2).trans H0.out.2.2.2)
          go_wp2_with (fail)
          refine HEN.out.mono ?_
          rintro e w7 ⟨a7, c7, rfl, hz7, hb7, hl7⟩
          have hrw7 := (hb7.block _ (Array.getElem?_eq_some_iff.1 HRW.out).1).trans HRW.out
          have H7 := Lib.hid (And.intro hz7 (And.intro (HBW.out.trans (hb7.mono HBW.out.size)) (And.intro hrw7 hl7)))
          have k0 := box_cell0 hrw7
          have k1 := box_cell1 hrw7
          have k2 := row_free hrw7 0
          have k3 := row_free hrw7 1
          clear hz7 hb7 hrw7 hl7
          go_wp2_with (fail)
          have hr1 := heap_setCell_self (i := 0) H7.out.2.2.1 (.int .i64 p.1)
          have hr2 := heap_setCell_self (i := 1) hr1 (.slice a7 p.2.length c7)
          refine bodyPost_ret_by (results_cell_row (P := Try.prog) rfl _ _ (w.heap.size + 1 + 1) 130 #[.int .i64 p.1, .slice a7 p.2.length c7] (0, 0) _ rfl hr2 Try.underlying130 rfl (by kernel_rfl)) rfl ?_
          exact ⟨a7, c7, rfl, (H7.out.1.setCell H7.out.2.2.1 (by decide)).setCell hr1 (by decide), (H7.out.2.1.setCell (p := ⟨w.heap.size + 1 + 1, 0, none⟩) (by simp; omega) _).setCell (p := ⟨w.heap.size + 1 + 1, 1, none⟩) (by simp; omega) _, H7.out.2.2.2⟩

end Go.Proofs.Ytbcggbmjbljnfaa
