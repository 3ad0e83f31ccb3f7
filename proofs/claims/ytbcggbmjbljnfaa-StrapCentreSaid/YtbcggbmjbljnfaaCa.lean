/-
  strap: polynomials: coefficients in memory, 'entryOf'.
-/
import Derived.Test.YtbcggbmjbljnfaaBn
namespace Go.Proofs.Ytbcggbmjbljnfaa
open Go.RowKit Go.Sort

/-- Coefficients, read: they lie in a block of integers. -/
def IntsT (w : World) (a : Option Addr) (zs : List Int) : Prop := zs = [] ∨ ∃ b off cs fz, a = some ⟨b, off, none⟩ ∧ w.heap[b]? = some (.cells cs 3 fz) ∧ ∀ i, i < zs.length → cs[off + i]? = some (.int .i64 (zs[i]?.getD 0))
theorem IntsT.nil (w : World) (a : Option Addr) : IntsT w a [] := .inl rfl
theorem IntsT.at {w : World} {a : Option Addr} {zs : List Int} (h : IntsT w a zs) (hn : 0 < zs.length) : ∃ b off, a = some ⟨b, off, none⟩ ∧ b < w.heap.size ∧ ∀ i, i < zs.length → w.cell? ⟨b, off + i, none⟩ = some (.int .i64 (zs[i]?.getD 0)) := by
  rcases h with rfl | ⟨b, off, cs, fz, rfl, hr, hc⟩
  · simp at hn
  · exact ⟨b, off, rfl, (Array.getElem?_eq_some_iff.1 hr).1, fun i hi => by simp only [World.cell?, hr]; exact hc i hi⟩
theorem IntsT.below {w w' : World} {a : Option Addr} {zs : List Int} (h : IntsT w a zs) (hb : Below w.heap.size w w') : IntsT w' a zs := by
  rcases h with rfl | ⟨b, off, cs, fz, rfl, hr, hc⟩
  · exact .inl rfl
  · exact .inr ⟨b, off, cs, fz, rfl, (hb.block b (Array.getElem?_eq_some_iff.1 hr).1).trans hr, hc⟩
theorem IntsT.setCell {w : World} {a : Option Addr} {zs : List Int} {H i : Nat} {v : Value} {cs : Array Value} {T : TypeId} {fz : Nat × Nat} (h : IntsT w a zs) (hH : w.heap[H]? = some (.cells cs T fz)) (hT : T ≠ 3) : IntsT (w.setCell ⟨H, i, none⟩ v) a zs := by
  rcases h with rfl | ⟨b, off, cs', fz', rfl, hr, hc⟩
  · exact .inl rfl
  · refine .inr ⟨b, off, cs', fz', rfl, ?_, hc⟩
    have hne : b ≠ H := fun e => by rw [e, hH] at hr; cases hr; exact hT rfl
    exact (RowKit.Below.heap_setCell w ⟨H, i, none⟩ v b (by exact hne)).trans hr
theorem IntsT.tail {w : World} {b off : Nat} {z : Int} {zs : List Int} (h : IntsT w (some ⟨b, off, none⟩) (z :: zs)) : IntsT w (some ⟨b, off + 1, none⟩) zs := by
  rcases h with h | ⟨b', off', cs, fz, e, hr, hc⟩
  · cases h
  · cases e
    exact .inr ⟨b, off + 1, cs, fz, rfl, hr, fun i hi => by
      have := hc (i + 1) (by simpa using hi)
      rw [show off + 1 + i = off + (i + 1) by omega, this]; simp⟩
theorem IntsT.take {w : World} {a : Option Addr} {zs : List Int} (k : Nat) (h : IntsT w a zs) : IntsT w a (zs.take k) := by
  rcases h with rfl | ⟨b, off, cs, fz, rfl, hr, hc⟩
  · exact .inl (by simp)
  · exact .inr ⟨b, off, cs, fz, rfl, hr, fun i hi => by
      have hi' : i < k ∧ i < zs.length := by simp at hi; omega
      rw [hc i hi'.2, List.getElem?_take, if_pos hi'.1]⟩
/-- A row of integers in a block of its own. -/
def intC (zs : List Int) : Array Value := (zs.map (Value.int .i64)).toArray
def RowZ (w : World) (g : Nat) (zs : List Int) : Prop := w.heap[g]? = some (.cells (intC zs) 3 (0, 0))
theorem RowZ.at {w : World} {g : Nat} {zs : List Int} (h : RowZ w g zs) {i : Nat} (hi : i < zs.length) : w.cell? ⟨g, i, none⟩ = some (.int .i64 (zs[i]?.getD 0)) := by
  unfold RowZ intC at h
  simp [World.cell?, h, hi]
theorem RowZ.free {w : World} {g : Nat} {zs : List Int} (h : RowZ w g zs) (j : Nat) : w.frozen? ⟨g, j, none⟩ = false := row_free h j
theorem RowZ.put {w : World} {g : Nat} {zs : List Int} (h : RowZ w g zs) (i : Nat) (v : Int) : RowZ (w.setCell ⟨g, i, none⟩ (.int .i64 v)) g (zs.set i v) := by
  unfold RowZ at h ⊢
  rw [heap_setCell_self h]
  simp [intC]
theorem RowZ.lt {w : World} {g : Nat} {zs : List Int} (h : RowZ w g zs) : g < w.heap.size := (Array.getElem?_eq_some_iff.1 h).1
theorem RowZ.below {w w' : World} {g : Nat} {zs : List Int} (h : RowZ w g zs) (hb : Below w.heap.size w w') : RowZ w' g zs := (hb.block g h.lt).trans h
theorem RowZ.ints {w : World} {g : Nat} {zs : List Int} (h : RowZ w g zs) : IntsT w (some ⟨g, 0, none⟩) zs := .inr ⟨g, 0, _, _, rfl, h, fun i hi => by simp [intC, hi]⟩
theorem madeZ (n : Nat) : madeCells #[Value.int .i64 0] n = intC (List.replicate n 0) := by
  rw [← Array.toList_inj, toList_madeCells_one]
  simp [intC]
theorem make_intsZ (n : Nat) (h : n ≤ 100000) (w : World) :
    (Instr.makeSlice 22 (.int .i64 (n : Int)) (.int .i64 (n : Int))).run Try.prog w = .ok (.slice (some ⟨w.heap.size, 0, none⟩) n n) (w.alloc (.cells (intC (List.replicate n 0)) 3)) := by
  obtain ⟨i0, hi, hz0, hz1, hz2⟩ := info_parts Try.info3
  have hr := run_make (P := Try.prog) w 22 3 i0 (.int .i64 0) Try.underlying22 hi hz0 .i64 .i64 n n (by omega) (Int.le_refl _) (by rw [hz2]; omega) (by omega)
  rw [hz1, Nat.mul_one, Int.toNat_natCast] at hr
  rw [hr, ← madeZ]
  rfl

/-- A polynomial that is handed back. -/
def GivesE (p : Int × List Int) (w : World) (e : Ending) (w' : World) : Prop := ∃ a c, e = .returned (.agg #[.int .i64 p.1, .slice a p.2.length c]) ∧ IntsT w' a p.2 ∧ Below w.heap.size w w' ∧ p.2.length ≤ c
/-- Without zeros at the beginning. -/
def entL : Int → List Int → Int × List Int
  | low, [] => (low, [])
  | low, c :: cs => if c = 0 then entL (low + 1) cs else (low, c :: cs)
/-- Without zeros at the end. -/
def trimR : Nat → List Int → List Int
  | 0, cs => cs
  | k + 1, cs => if cs[k]?.getD 0 = 0 then trimR k (cs.take k) else cs
def entN (low : Int) (cs : List Int) : Int × List Int := if (trimR (entL low cs).2.length (entL low cs).2).length = 0 then (0, []) else ((entL low cs).1, trimR (entL low cs).2.length (entL low cs).2)

set_option maxRecDepth 100000 in
set_option maxHeartbeats 4000000 in
theorem entryOf_any (low : Int) (n cap : Nat) (a : Option Addr) (cs : List Int) (w : World) (hn : cs.length = n) (hcap : n ≤ cap) (hn1 : n ≤ 100000) (hl : -1000000 ≤ low ∧ low ≤ 1000000) (hz : IntsT w a cs) :
    Calls Try.prog 116 #[.int .i64 low, .slice a n cap] w (GivesE (entN low cs) w) := by
  obtain ⟨w0, hw0⟩ : ∃ w0, w0 = w.alloc (.cells #[.int .i64 0, .slice none 0 0] 130) := ⟨_, rfl⟩
  have hb0 : Below w.heap.size w w0 := by rw [hw0]; exact (Below.refl _ w).alloc (Nat.le_refl _) _
  have hrow : w0.heap[w.heap.size]? = some (.cells #[.int .i64 0, .slice none 0 0] 130 (0, 0)) := by rw [hw0]; exact heap_alloc_new _ _
  have H0 := Lib.hid (And.intro hb0 hrow)
  have HW0 := Lib.hid hw0
  obtain ⟨rs, hrs⟩ : ∃ rs, entL low cs = rs := ⟨_, rfl⟩
  obtain ⟨ts, hts⟩ : ∃ ts, trimR rs.2.length rs.2 = ts := ⟨_, rfl⟩
  obtain ⟨fin, hfin⟩ : ∃ fin, entN low cs = fin := ⟨_, rfl⟩
  have HFIN : Hid ((ts.length = 0 → fin = (0, [])) ∧ (ts.length ≠ 0 → fin = (rs.1, ts))) := Lib.hid (by
    rw [entN, hrs, hts] at hfin
    exact ⟨fun h => by rw [if_pos h] at hfin; exact hfin.symm, fun h => by rw [if_neg h] at hfin; exact hfin.symm⟩)
  rw [hfin]
  have HTS := Lib.hid hts
  have HI1 : Hid (IntsT w0 a cs ∧ cs.length = n ∧ low + n ≤ 1100000 ∧ entL low cs = rs) := Lib.hid ⟨hz.below hb0, hn, by omega, hrs⟩
  obtain ⟨hl1, hl2⟩ := hl
  clear hw0 hb0 hrow hz hn hrs hts hfin
  go_enter Try.func116, Try.ntmps116
  go_upto_block 0 with fail
  rw [← HW0.out]
  go_cut [0, 1] from 5 to 17 (fun v0 v1 wx => ∃ n cap a, v0 = .int .i64 rs.1 ∧ v1 = .slice a n cap ∧ n ≤ cap ∧ n ≤ 100000 ∧ Hid (IntsT w0 a rs.2 ∧ rs.2.length = n) ∧ w0 = wx)
  case first =>
    go_wp2_with (fail)
    go_loopw [0, 1] (fun v0 v1 wx => ∃ low n cap a cs, v0 = .int .i64 low ∧ v1 = .slice a n cap ∧ n ≤ cap ∧ n ≤ 100000 ∧ -1000000 ≤ low ∧ low ≤ 1100000 - n ∧ Hid (IntsT w0 a cs ∧ cs.length = n ∧ entL low cs = rs) ∧ w0 = wx) (fun _ v1 _ => lenV v1)
    case atStart => exact ⟨low, n, cap, a, cs, rfl, rfl, hcap, hn1, hl1, by omega, Lib.hid ⟨HI1.out.1, HI1.out.2.1, HI1.out.2.2.2⟩, rfl⟩
    case round =>
      clear HI1 hl1 hl2 hcap hn1
      obtain ⟨low, n, cap, a, cs, rfl, rfl, hcap, hn1, hl1, hl2, HI, rfl⟩ := hrel
      cases n with
      | zero =>
        go_wp2_with (fail)
        go_meet
        obtain ⟨h1, h2, h3⟩ := HI.out
        obtain rfl : cs = [] := List.eq_nil_of_length_eq_zero h2
        simp only [entL] at h3
        subst h3
        exact ⟨0, cap, a, rfl, rfl, Nat.zero_le _, Nat.zero_le _, Lib.hid ⟨.inl rfl, rfl⟩, rfl⟩
      | succ n =>
        obtain ⟨h1, h2, h3⟩ := HI.out
        obtain ⟨b, off, rfl, hbl, hc⟩ := h1.at (by omega)
        obtain ⟨c, cs', rfl⟩ : ∃ c cs', cs = c :: cs' := List.exists_cons_of_length_pos (by omega)
        have c0 := hc 0 (by simp)
        simp only [Nat.add_zero, List.getElem?_cons_zero, Option.getD_some] at c0
        have hcI : 0 < (n : Int) + 1 := by omega
        clear hc h1 h2 h3
        by_cases hz : c = 0
        · subst hz
          have hwr : IntKind.i64.wrap (low + 1) = low + 1 := by rw [IntKind.wrap_i64]; omega
          have HNX : Hid (cs'.length = n ∧ entL (low + 1) cs' = rs ∧ IntsT w0 (some ⟨b, off + 1, none⟩) cs') := Lib.hid (by
            obtain ⟨h1, h2, h3⟩ := HI.out
            refine ⟨by simpa using h2, ?_, h1.tail⟩
            rw [entL, if_pos rfl] at h3
            exact h3)
          go_wp2_with (fail)
          go_roundw
          case rel =>
            by_cases hc1 : cap = 1
            · subst hc1
              obtain rfl : n = 0 := by omega
              exact ⟨low + 1, 0, 0, some ⟨b, off, none⟩, cs', rfl, by simp, by omega, by omega, by omega, by omega, Lib.hid ⟨by rw [List.eq_nil_of_length_eq_zero HNX.out.1]; exact .inl rfl, HNX.out.1, HNX.out.2.1⟩, by trivial⟩
            · exact ⟨low + 1, n, cap - 1, some ⟨b, off + 1, none⟩, cs', rfl, by rw [if_neg hc1], by omega, by omega, by omega, by omega, Lib.hid ⟨HNX.out.2.2, HNX.out.1, HNX.out.2.1⟩, by trivial⟩
          case measure => simp [lenV]
        · have HNX : Hid (rs = (low, c :: cs')) := Lib.hid (by
            obtain ⟨h1, h2, h3⟩ := HI.out
            rw [entL, if_neg hz] at h3
            exact h3.symm)
          clear hl1 hl2
          go_wp2_with (fail)
          go_meet
          obtain ⟨h1, h2, h3⟩ := HI.out
          have h4 := HNX.out
          subst h4
          exact ⟨n + 1, cap, some ⟨b, off, none⟩, rfl, rfl, hcap, hn1, Lib.hid ⟨h1, h2⟩, rfl⟩
  case rest =>
    clear HI1 hl1 hl2 hcap hn1
    obtain ⟨n, cap, a, rfl, rfl, hcap, hn1, HI, rfl⟩ := hcut
    obtain ⟨low2, hlow2⟩ : ∃ x, rs.1 = x := ⟨_, rfl⟩
    rw [hlow2]
    have HL2 := Lib.hid hlow2
    have HI2 : Hid (rs.2.length = n ∧ IntsT w0 a rs.2 ∧ trimR n rs.2 = ts) := Lib.hid ⟨HI.out.2, HI.out.1, by rw [← HI.out.2]; exact HTS.out⟩
    clear hlow2 HI HTS
    go_upto_block 2 with fail
    go_cut [1] from 18 to 34 (fun v1 wx => ∃ n cap, v1 = .slice a n cap ∧ n ≤ cap ∧ n ≤ 100000 ∧ Hid (IntsT w0 a ts ∧ ts.length = n) ∧ w0 = wx)
    case first =>
      go_wp2_with (fail)
      go_loopw [1] (fun v1 wx => ∃ n cap cs, v1 = .slice a n cap ∧ n ≤ cap ∧ n ≤ 100000 ∧ Hid (cs.length = n ∧ IntsT w0 a cs ∧ trimR n cs = ts) ∧ w0 = wx) (fun v1 _ => lenV v1)
      case atStart => exact ⟨n, cap, rs.2, rfl, hcap, hn1, HI2, rfl⟩
      case round =>
        clear HI2 hcap hn1
        obtain ⟨n, cap, cs, rfl, hcap, hn1, HI, rfl⟩ := hrel
        cases n with
        | zero =>
          go_wp2_with (fail)
          go_meet
          obtain ⟨h2, h1, h3⟩ := HI.out
          simp only [trimR] at h3
          subst h3
          exact ⟨0, cap, rfl, hcap, hn1, Lib.hid ⟨h1, h2⟩, rfl⟩
        | succ n =>
          obtain ⟨h2, h1, h3⟩ := HI.out
          obtain ⟨b, off, rfl, hbl, hc⟩ := h1.at (by omega)
          have c0 := hc n (by omega)
          obtain ⟨c, hcc⟩ : ∃ c, cs[n]?.getD 0 = c := ⟨_, rfl⟩
          rw [hcc] at c0
          have hcI : 0 < (n : Int) + 1 := by omega
          have hnn : (n : Int) < (n : Int) + 1 := by omega
          have hwr : IntKind.i64.wrap (n : Int) = (n : Int) := by rw [IntKind.wrap_i64]; omega
          have HC := Lib.hid hcc
          clear hc h1 h2 h3 hcc
          by_cases hz : c = 0
          · subst hz
            go_wp2_with (fail)
            go_roundw
            case rel =>
              obtain ⟨h2, h1, h3⟩ := HI.out
              rw [trimR, if_pos HC.out] at h3
              exact ⟨n, cap, cs.take n, rfl, by omega, by omega, Lib.hid ⟨by simp; omega, h1.take n, h3⟩, by trivial⟩
            case measure => simp [lenV]
          · go_wp2_with (fail)
            go_meet
            obtain ⟨h2, h1, h3⟩ := HI.out
            rw [trimR, if_neg (by rw [HC.out]; exact hz)] at h3
            subst h3
            exact ⟨n + 1, cap, rfl, hcap, hn1, Lib.hid ⟨h1, h2⟩, rfl⟩
    case rest =>
      clear HI2 hcap hn1
      obtain ⟨n, cap, rfl, hcap, hn1, HI, rfl⟩ := hcut
      have hbl := H0.out.2
      have k0 := box_cell0 hbl
      have k1 := box_cell1 hbl
      have f0 := row_free hbl 0
      have f1 := row_free hbl 1
      clear hbl
      cases n with
      | zero =>
        have HFI := Lib.hid (HFIN.out.1 HI.out.2)
        go_wp2_with (fail)
        have hr1 := heap_setCell_self (i := 0) H0.out.2 (.int .i64 0)
        have hr2 := heap_setCell_self (i := 1) hr1 (.slice none 0 0)
        refine bodyPost_ret_by (results_cell_row (P := Try.prog) rfl _ _ w.heap.size 130 #[.int .i64 0, .slice none 0 0] (0, 0) _ rfl hr2 Try.underlying130 rfl (by kernel_rfl)) rfl ?_
        rw [HFI.out]
        exact ⟨none, 0, rfl, .inl rfl, (H0.out.1.setCell (p := ⟨w.heap.size, 0, none⟩) (Nat.le_refl _) _).setCell (p := ⟨w.heap.size, 1, none⟩) (Nat.le_refl _) _, Nat.le_refl _⟩
      | succ n =>
        have HFI := Lib.hid (HFIN.out.2 (by rw [HI.out.2]; omega))
        have hne : ¬ ((n : Int) + 1 = 0) := by omega
        go_wp2_with (fail)
        have hr1 := heap_setCell_self (i := 0) H0.out.2 (.int .i64 low2)
        have hr2 := heap_setCell_self (i := 1) hr1 (.slice a (n + 1) cap)
        refine bodyPost_ret_by (results_cell_row (P := Try.prog) rfl _ _ w.heap.size 130 #[.int .i64 low2, .slice a (n + 1) cap] (0, 0) _ rfl hr2 Try.underlying130 rfl (by kernel_rfl)) rfl ?_
        rw [HFI.out, HL2.out]
        exact ⟨a, cap, by rw [HI.out.2], (HI.out.1.setCell H0.out.2 (by decide)).setCell hr1 (by decide), (H0.out.1.setCell (p := ⟨w.heap.size, 0, none⟩) (Nat.le_refl _) _).setCell (p := ⟨w.heap.size, 1, none⟩) (Nat.le_refl _) _, by simp only [HI.out.2]; exact hcap⟩

end Go.Proofs.Ytbcggbmjbljnfaa
