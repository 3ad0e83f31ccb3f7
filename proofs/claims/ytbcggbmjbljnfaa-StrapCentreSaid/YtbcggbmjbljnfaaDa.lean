/-
  strap: the cycles of a permutation: the program's 'cycles', the reference's 'Loops'.
-/
import Derived.Test.YtbcggbmjbljnfaaCp
namespace Go.Proofs.Ytbcggbmjbljnfaa
open Go.RowKit Go.Sort

/-! ### Pure -/
def folD (p : List Nat) : Nat → Nat → List Bool → List Bool
  | 0, _, d => d
  | f + 1, k, d => if d[k]?.getD false = true then d else folD p f (p[k]?.getD 0) (d.set k true)
/-- All that lies on the way from k is done. -/
def folW (p : List Nat) (k : Nat) (d : List Bool) : List Bool := folD p (d.count false + 1) k d
theorem count_set_true {d : List Bool} {k : Nat} (hk : k < d.length) (h : d[k]?.getD false = false) : (d.set k true).count false + 1 = d.count false := by
  have h' : d[k] = false := by rwa [List.getElem?_eq_getElem hk, Option.getD_some] at h
  have hpos : 0 < d.count false := List.count_pos_iff.2 (by rw [← h']; exact List.getElem_mem _)
  rw [List.count_set hk]
  simp [h']
  omega
theorem folW_done {p : List Nat} {k : Nat} {d : List Bool} (h : d[k]?.getD false = true) : folW p k d = d := by
  unfold folW folD; rw [if_pos h]
theorem folW_step {p : List Nat} {k : Nat} {d : List Bool} (hk : k < d.length) (h : d[k]?.getD false = false) : folW p k d = folW p (p[k]?.getD 0) (d.set k true) := by
  have hc := count_set_true hk h
  unfold folW
  rw [← hc, folD, if_neg (by rw [h]; simp)]
theorem folD_len {p : List Nat} : ∀ (f k : Nat) (d : List Bool), (folD p f k d).length = d.length
  | 0, _, _ => rfl
  | f + 1, k, d => by
    unfold folD
    split
    · rfl
    · rw [folD_len f]; simp
/-- The cycles that begin at the first numbers. -/
def cycS (p : List Nat) (k : Nat) : List Bool × Nat := (List.range k).foldl (fun s i => (folW p i s.1, if s.1[i]?.getD false = true then s.2 else s.2 + 1)) (List.replicate p.length false, 0)
theorem cycS_succ (p : List Nat) (k : Nat) : cycS p (k + 1) = (folW p k (cycS p k).1, if (cycS p k).1[k]?.getD false = true then (cycS p k).2 else (cycS p k).2 + 1) := by
  unfold cycS
  rw [List.range_succ, List.foldl_append]
  rfl
theorem cycS_len (p : List Nat) : ∀ k, (cycS p k).1.length = p.length ∧ (cycS p k).2 ≤ k
  | 0 => by simp [cycS]
  | k + 1 => by
    rw [cycS_succ]
    refine ⟨by simp only [folW, folD_len]; exact (cycS_len p k).1, ?_⟩
    have := (cycS_len p k).2
    simp only []
    split <;> omega
def cycN (p : List Nat) : Nat := (cycS p p.length).2

/-- A row of Booleans in a block of its own. -/
def boolC (d : List Bool) : Array Value := (d.map Value.bool).toArray
def RowB (w : World) (g : Nat) (d : List Bool) : Prop := w.heap[g]? = some (.cells (boolC d) 4 (0, 0))
theorem RowB.at {w : World} {g : Nat} {d : List Bool} (h : RowB w g d) {i : Nat} (hi : i < d.length) : w.cell? ⟨g, i, none⟩ = some (.bool (d[i]?.getD false)) := by
  unfold RowB boolC at h
  simp [World.cell?, h, hi]
theorem RowB.put {w : World} {g : Nat} {d : List Bool} (h : RowB w g d) (i : Nat) (v : Bool) : RowB (w.setCell ⟨g, i, none⟩ (.bool v)) g (d.set i v) := by
  unfold RowB at h ⊢
  rw [heap_setCell_self h]
  simp [boolC]
theorem infoBool : (Try.prog.info? 4).map (fun i => (i.zero, i.size, i.bytes)) = some (some (.bool false), 1, 1) := by kernel_rfl
theorem make_bools (n : Nat) (h : n ≤ 100000) (w : World) :
    (Instr.makeSlice 89 (.int .i64 (n : Int)) (.int .i64 (n : Int))).run Try.prog w = .ok (.slice (some ⟨w.heap.size, 0, none⟩) n n) (w.alloc (.cells (boolC (List.replicate n false)) 4)) := by
  obtain ⟨i0, hi, hz0, hz1, hz2⟩ := info_parts infoBool
  have hr := run_make (P := Try.prog) w 89 4 i0 (.bool false) Try.underlying89 hi hz0 .i64 .i64 n n (by omega) (Int.le_refl _) (by rw [hz2]; omega) (by omega)
  rw [hz1, Nat.mul_one, Int.toNat_natCast] at hr
  have e : madeCells #[Value.bool false] n = boolC (List.replicate n false) := by
    rw [← Array.toList_inj, toList_madeCells_one]; simp [boolC]
  rw [hr, ← e]
  rfl

set_option maxRecDepth 100000 in
set_option maxHeartbeats 1000000 in
theorem cycles_any (a : Option Addr) (n cp : Nat) (p : List Nat) (w : World) (hp : InN n p) (hn : n ≤ 1000) (hz : Nats w a p) :
    Calls Try.prog 55 #[.slice a n cp] w fun e w' => e = .returned (.int .i64 (cycN p : Int)) ∧ Below w.heap.size w w' := by
  have hmk := make_bools n (by omega) w
  obtain ⟨g, hg⟩ : ∃ g, w.heap.size = g := ⟨_, rfl⟩
  obtain ⟨w1, hw1⟩ : ∃ w1, w.alloc (.cells (boolC (List.replicate n false)) 4) = w1 := ⟨_, rfl⟩
  rw [hg, hw1] at hmk
  have hl := hp.1
  have HI : Hid (RowB w1 g (cycS p 0).1 ∧ Below g w w1) := Lib.hid ⟨by rw [← hw1, ← hg]; simp only [cycS, List.range_zero, List.foldl_nil, hl]; exact heap_alloc_new w _, by rw [← hw1, ← hg]; exact (Below.refl _ w).alloc (Nat.le_refl _) _⟩
  have HA := Lib.hid hz.at
  have HPN := Lib.hid (fun (i : Nat) (hi : i < n) => hp.at hi)
  have HL := Lib.hid hl
  have HG := Lib.hid hg
  have HC : Hid (∀ k, (cycS p k).1.length = n) := Lib.hid (fun k => by rw [(cycS_len p k).1, hl])
  have HCY : Hid ((cycS p n).2 = cycN p) := Lib.hid (by rw [cycN, hl])
  have HC2 := Lib.hid (fun k => (cycS_len p k).2)
  have HSU := Lib.hid (cycS_succ p)
  have hc0 : (cycS p 0).2 = 0 := by simp [cycS]
  have HC0 := Lib.hid hc0
  clear hz hp hw1 hg hl hc0
  go_enter Try.func55, Try.ntmps55
  go_wp2_with (fail)
  go_loopw [12, 3] (fun v c wr => ∃ k : Nat, k ≤ n ∧ v = .int .i64 k ∧ c = .int .i64 ((cycS p k).2 : Int) ∧ Hid (RowB wr g (cycS p k).1 ∧ Below g w wr)) (fun v _ _ => n - (intOf v).toNat)
  case atStart => exact ⟨0, Nat.zero_le _, rfl, by rw [HC0.out]; rfl, HI⟩
  case round =>
    clear HI hmk
    obtain ⟨k, hk, rfl, rfl, HR⟩ := hrel
    obtain ⟨d, hd⟩ : ∃ d, (cycS p k).1 = d := ⟨_, rfl⟩
    obtain ⟨c, hc⟩ : ∃ c, (cycS p k).2 = c := ⟨_, rfl⟩
    have hsu := HSU.out k
    have hdl := HC.out k
    have hcl := HC2.out k
    rw [hd, hc] at hsu
    rw [hd] at hdl HR
    rw [hc] at hcl ⊢
    by_cases hlt : k < n
    · have hkI : (k : Int) < (n : Int) := by omega
      have c0 := HR.out.1.at (i := k) (by rw [hdl]; exact hlt)
      obtain ⟨b, hb⟩ : ∃ b, d[k]?.getD false = b := ⟨_, rfl⟩
      rw [hb] at c0 hsu
      have hw1 : IntKind.i64.wrap ((c : Int) + 1) = (c : Int) + 1 := by rw [IntKind.wrap_i64]; omega
      have HSK := Lib.hid hsu
      have HDL := Lib.hid hdl
      have HB := Lib.hid hb
      have HI2 : Hid (d.length = n ∧ folW p k d = (cycS p (k + 1)).1 ∧ RowB wr g d ∧ Below g w wr ∧ d.count false < n + 1) := Lib.hid ⟨hdl, by rw [hsu], HR.out.1, HR.out.2, by have := List.count_le_length (a := false) (l := d); omega⟩
      clear hsu hd hc hb hdl HR
      cases b
      ·
        go_wp2_with (fail)
        go_loopg [6] (n + 1) (fun gk v wx => ∃ (q : Nat) (d' : List Bool), q < n ∧ v = .int .i64 q ∧ Hid (d'.length = n ∧ folW p q d' = (cycS p (k + 1)).1 ∧ RowB wx g d' ∧ Below g w wx ∧ d'.count false < gk))
        case atStart => exact ⟨k, _, hlt, rfl, HI2⟩
        case round =>
          clear HI2 c0
          obtain ⟨q, d', hq, rfl, HI⟩ := hrel
          have hdl := HI.out.1
          have c1 := HI.out.2.2.1.at (i := q) (by rw [hdl]; exact hq)
          have f1 := row_free HI.out.2.2.1 q
          have hqI : (q : Int) < (n : Int) := by omega
          obtain ⟨bq, hbq⟩ : ∃ bq, d'[q]?.getD false = bq := ⟨_, rfl⟩
          rw [hbq] at c1
          have HBQ := Lib.hid hbq
          have HDL := Lib.hid hdl
          clear hbq hdl
          cases bq
          · rcases HA.out with h | ⟨ba, oa, rfl, hca⟩
            · have := HL.out; rw [h] at this; simp at this; omega
            have hpq := HPN.out q hq
            have HST := Lib.hid (folW_step (p := p) (k := q) (d := d') (by rw [HDL.out]; exact hq) HBQ.out)
            have HCT := Lib.hid (count_set_true (by rw [HDL.out]; exact hq) HBQ.out)
            have hca' := hca q (by rw [HL.out]; exact hq)
            have hba := World.block_lt_of_cell? w _ hca'
            have c2 := (HI.out.2.2.2.1.cell (p := ⟨ba, oa + q, none⟩) (by rw [← HG.out]; exact hba)).trans hca'
            have hne : ba ≠ g := by rw [← HG.out]; exact Nat.ne_of_lt hba
            have c2' : (wr.setCell ⟨g, q, none⟩ (.bool true)).cell? ⟨ba, oa + q, none⟩ = some (.int .i64 ((p[q]?.getD 0 : Nat) : Int)) := (cell_other hne).trans c2
            obtain ⟨q', hq'⟩ : ∃ q', p[q]?.getD 0 = q' := ⟨_, rfl⟩
            rw [hq'] at hpq c2 HST c2'
            clear hca hca' hba hq' c2
            go_wp2_with (fail)
            cases gk with
            | zero => have := HI.out.2.2.2.2; omega
            | succ gk =>
            go_roundg gk
            case measure => omega
            case rel => exact ⟨q', d'.set q true, hpq, rfl, Lib.hid ⟨by rw [List.length_set]; exact HDL.out, by rw [← HST.out]; exact HI.out.2.1, HI.out.2.2.1.put q true, HI.out.2.2.2.1.setCell (p := ⟨g, q, none⟩) (Nat.le_refl _) _, by have := HCT.out; have := HI.out.2.2.2.2; omega⟩⟩
          · have HFD := Lib.hid (folW_done (p := p) HBQ.out)
            go_wp2_with (fail)
            exact ⟨⟨k + 1, by omega, by go_num, by rw [HSK.out]; rfl, Lib.hid ⟨by rw [← HI.out.2.1, HFD.out]; exact HI.out.2.2.1, HI.out.2.2.2.1⟩⟩, by simp [intOf]; omega⟩
      ·
        go_wp2_with (fail)
        go_loopg [6] (n + 1) (fun gk v wx => ∃ (q : Nat) (d' : List Bool), q < n ∧ v = .int .i64 q ∧ Hid (d'.length = n ∧ folW p q d' = (cycS p (k + 1)).1 ∧ RowB wx g d' ∧ Below g w wx ∧ d'.count false < gk))
        case atStart => exact ⟨k, _, hlt, rfl, HI2⟩
        case round =>
          clear HI2 c0
          obtain ⟨q, d', hq, rfl, HI⟩ := hrel
          have hdl := HI.out.1
          have c1 := HI.out.2.2.1.at (i := q) (by rw [hdl]; exact hq)
          have f1 := row_free HI.out.2.2.1 q
          have hqI : (q : Int) < (n : Int) := by omega
          obtain ⟨bq, hbq⟩ : ∃ bq, d'[q]?.getD false = bq := ⟨_, rfl⟩
          rw [hbq] at c1
          have HBQ := Lib.hid hbq
          have HDL := Lib.hid hdl
          clear hbq hdl
          cases bq
          · rcases HA.out with h | ⟨ba, oa, rfl, hca⟩
            · have := HL.out; rw [h] at this; simp at this; omega
            have hpq := HPN.out q hq
            have HST := Lib.hid (folW_step (p := p) (k := q) (d := d') (by rw [HDL.out]; exact hq) HBQ.out)
            have HCT := Lib.hid (count_set_true (by rw [HDL.out]; exact hq) HBQ.out)
            have hca' := hca q (by rw [HL.out]; exact hq)
            have hba := World.block_lt_of_cell? w _ hca'
            have c2 := (HI.out.2.2.2.1.cell (p := ⟨ba, oa + q, none⟩) (by rw [← HG.out]; exact hba)).trans hca'
            have hne : ba ≠ g := by rw [← HG.out]; exact Nat.ne_of_lt hba
            have c2' : (wr.setCell ⟨g, q, none⟩ (.bool true)).cell? ⟨ba, oa + q, none⟩ = some (.int .i64 ((p[q]?.getD 0 : Nat) : Int)) := (cell_other hne).trans c2
            obtain ⟨q', hq'⟩ : ∃ q', p[q]?.getD 0 = q' := ⟨_, rfl⟩
            rw [hq'] at hpq c2 HST c2'
            clear hca hca' hba hq' c2
            go_wp2_with (fail)
            cases gk with
            | zero => have := HI.out.2.2.2.2; omega
            | succ gk =>
            go_roundg gk
            case measure => omega
            case rel => exact ⟨q', d'.set q true, hpq, rfl, Lib.hid ⟨by rw [List.length_set]; exact HDL.out, by rw [← HST.out]; exact HI.out.2.1, HI.out.2.2.1.put q true, HI.out.2.2.2.1.setCell (p := ⟨g, q, none⟩) (Nat.le_refl _) _, by have := HCT.out; have := HI.out.2.2.2.2; omega⟩⟩
          · have HFD := Lib.hid (folW_done (p := p) HBQ.out)
            go_wp2_with (fail)
            exact ⟨⟨k + 1, by omega, by go_num, by rw [HSK.out]; rfl, Lib.hid ⟨by rw [← HI.out.2.1, HFD.out]; exact HI.out.2.2.1, HI.out.2.2.2.1⟩⟩, by simp [intOf]; omega⟩
    · obtain rfl : k = n := by omega
      go_wp2_with (fail)
      go_ret
      exact ⟨by rw [← HCY.out, hc]; rfl, by rw [HG.out]; exact HR.out.2⟩

end Go.Proofs.Ytbcggbmjbljnfaa
