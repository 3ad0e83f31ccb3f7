/-
  strap: the reference's 'Loops'.
-/
import Derived.Test.YtbcggbmjbljnfaaDa
namespace Go.Proofs.Ytbcggbmjbljnfaa
open Go.RowKit Go.Sort

set_option maxRecDepth 100000 in
set_option maxHeartbeats 1000000 in
theorem refLoops_any (a : Option Addr) (n cp : Nat) (p : List Nat) (w : World) (hp : InN n p) (hn : n ≤ 1000) (hz : Nats w a p) :
    Calls Try.prog 23 #[.slice a n cp] w fun e w' => e = .returned (.int .i64 (cycN p : Int)) ∧ Below w.heap.size w w' := by
  have hmk := make_bools n (by omega)
  obtain ⟨g, hg⟩ : ∃ g, w.heap.size = g := ⟨_, rfl⟩
  have hl := hp.1
  have HI0 : Hid (RowB (w.alloc (.cells (boolC (List.replicate n false)) 4)) g (cycS p 0).1 ∧ Below g w (w.alloc (.cells (boolC (List.replicate n false)) 4))) := Lib.hid ⟨by rw [← hg]; simp only [cycS, List.range_zero, List.foldl_nil, hl]; exact heap_alloc_new w _, by rw [← hg]; exact (Below.refl _ w).alloc (Nat.le_refl _) _⟩
  have HA := Lib.hid hz.at
  have HPN := Lib.hid (fun (i : Nat) (hi : i < n) => hp.at hi)
  have HL := Lib.hid hl
  have HG := Lib.hid hg
  have HC : Hid (∀ k, (cycS p k).1.length = n) := Lib.hid (fun k => by rw [(cycS_len p k).1, hl])
  have HCY : Hid ((cycS p n).2 = cycN p) := Lib.hid (by rw [cycN, hl])
  have HC2 := Lib.hid (fun k => (cycS_len p k).2)
  have HSU := Lib.hid (cycS_succ p)
  have hc0 : (cycS p 0).2 = 0 := by simp [cycS]
  have HC0 := Lib.hid hc0
  clear hz hp hl hc0
  go_enter Try.func23, Try.ntmps23
  go_upto_region 1 with fail
  go_cut [3, 4] from 7 to 9 (fun v3 v4 wx => v3 = .int .i64 0 ∧ v4 = .slice (some ⟨g, 0, none⟩) n n ∧ Hid (RowB wx g (cycS p 0).1 ∧ Below g w wx))
  case first =>
    go_region_law (fail)
    all_goals
      go_simp
      go_wp2_with (fail)
      go_meet
      exact ⟨rfl, rfl, Lib.hid ⟨HI0.out.1, HI0.out.2.drew⟩⟩
  case rest =>
  obtain ⟨rfl, rfl, HI⟩ := hcut
  clear hmk hg HI0
  go_wp2_with (fail)
  go_loopw [5, 3] (fun v c wr => ∃ k : Nat, k ≤ n ∧ v = .int .i64 k ∧ c = .int .i64 ((cycS p k).2 : Int) ∧ Hid (RowB wr g (cycS p k).1 ∧ Below g w wr)) (fun v _ _ => n - (intOf v).toNat)
  case atStart => exact ⟨0, Nat.zero_le _, rfl, by rw [HC0.out]; rfl, HI⟩
  case round =>
    clear HI
    obtain ⟨k, hk, rfl, rfl, HR⟩ := hrel
    obtain ⟨d, hd⟩ : ∃ d, (cycS p k).1 = d := ⟨_, rfl⟩
    obtain ⟨c, hc⟩ : ∃ c, (cycS p k).2 = c := ⟨_, rfl⟩
    have hsu := HSU.out k
    have hdl := HC.out k
    have hcl := HC2.out k
    rw [hd, hc] at hsu
    rw [hd] at hdl HR
    rw [hc] at hcl ⊢
    by_cases hlt : k < n
    · have hkI : (k : Int) < (n : Int) := by omega
      have c0 := HR.out.1.at (i := k) (by rw [hdl]; exact hlt)
      obtain ⟨b, hb⟩ : ∃ b, d[k]?.getD false = b := ⟨_, rfl⟩
      rw [hb] at c0 hsu
      have hw1 : IntKind.i64.wrap ((c : Int) + 1) = (c : Int) + 1 := by rw [IntKind.wrap_i64]; omega
      have HSK := Lib.hid hsu
      have HDL := Lib.hid hdl
      have HB := Lib.hid hb
      have HI2 : Hid (d.length = n ∧ folW p k d = (cycS p (k + 1)).1 ∧ RowB wr g d ∧ Below g w wr ∧ d.count false < n + 1) := Lib.hid ⟨hdl, by rw [hsu], HR.out.1, HR.out.2, by have := List.count_le_length (a := false) (l := d); omega⟩
      clear hsu hd hc hb hdl HR
      cases b
      ·
        go_wp2_with (fail)
        go_loopg [6] (n + 1) (fun gk v wx => ∃ (q : Nat) (d' : List Bool), q < n ∧ v = .int .i64 q ∧ Hid (d'.length = n ∧ folW p q d' = (cycS p (k + 1)).1 ∧ RowB wx g d' ∧ Below g w wx ∧ d'.count false < gk))
        case atStart => exact ⟨k, _, hlt, rfl, HI2⟩
        case round =>
          clear HI2 c0
          obtain ⟨q, d', hq, rfl, HI⟩ := hrel
          have hdl := HI.out.1
          have c1 := HI.out.2.2.1.at (i := q) (by rw [hdl]; exact hq)
          have f1 := row_free HI.out.2.2.1 q
          have hqI : (q : Int) < (n : Int) := by omega
          obtain ⟨bq, hbq⟩ : ∃ bq, d'[q]?.getD false = bq := ⟨_, rfl⟩
          rw [hbq] at c1
          have HBQ := Lib.hid hbq
          have HDL := Lib.hid hdl
          clear hbq hdl
          cases bq
          · rcases HA.out with h | ⟨ba, oa, rfl, hca⟩
            · have := HL.out; rw [h] at this; simp at this; omega
            have hpq := HPN.out q hq
            have HST := Lib.hid (folW_step (p := p) (k := q) (d := d') (by rw [HDL.out]; exact hq) HBQ.out)
            have HCT := Lib.hid (count_set_true (by rw [HDL.out]; exact hq) HBQ.out)
            have hca' := hca q (by rw [HL.out]; exact hq)
            have hba := World.block_lt_of_cell? w _ hca'
            have c2 := (HI.out.2.2.2.1.cell (p := ⟨ba, oa + q, none⟩) (by rw [← HG.out]; exact hba)).trans hca'
            have hne : ba ≠ g := by rw [← HG.out]; exact Nat.ne_of_lt hba
            have c2' : (wr.setCell ⟨g, q, none⟩ (.bool true)).cell? ⟨ba, oa + q, none⟩ = some (.int .i64 ((p[q]?.getD 0 : Nat) : Int)) := (cell_other hne).trans c2
            obtain ⟨q', hq'⟩ : ∃ q', p[q]?.getD 0 = q' := ⟨_, rfl⟩
            rw [hq'] at hpq c2 HST c2'
            clear hca hca' hba hq' c2
            go_wp2_with (fail)
            cases gk with
            | zero => have := HI.out.2.2.2.2; omega
            | succ gk =>
            go_roundg gk
            case measure => omega
            case rel => exact ⟨q', d'.set q true, hpq, rfl, Lib.hid ⟨by rw [List.length_set]; exact HDL.out, by rw [← HST.out]; exact HI.out.2.1, HI.out.2.2.1.put q true, HI.out.2.2.2.1.setCell (p := ⟨g, q, none⟩) (Nat.le_refl _) _, by have := HCT.out; have := HI.out.2.2.2.2; omega⟩⟩
          · have HFD := Lib.hid (folW_done (p := p) HBQ.out)
            go_wp2_with (fail)
            exact ⟨⟨k + 1, by omega, by go_num, by rw [HSK.out]; rfl, Lib.hid ⟨by rw [← HI.out.2.1, HFD.out]; exact HI.out.2.2.1, HI.out.2.2.2.1⟩⟩, by simp [intOf]; omega⟩
      · have HFD := Lib.hid (folW_done (p := p) HB.out)
        go_wp2_with (fail)
        exact ⟨⟨k + 1, by omega, by go_num, by rw [HSK.out]; rfl, Lib.hid ⟨by rw [← HI2.out.2.1, HFD.out]; exact HI2.out.2.2.1, HI2.out.2.2.2.1⟩⟩, by simp [intOf]; omega⟩
    · obtain rfl : k = n := by omega
      go_wp2_with (fail)
      go_ret
      exact ⟨by rw [← HCY.out, hc]; rfl, by rw [HG.out]; exact HR.out.2⟩

end Go.Proofs.Ytbcggbmjbljnfaa
