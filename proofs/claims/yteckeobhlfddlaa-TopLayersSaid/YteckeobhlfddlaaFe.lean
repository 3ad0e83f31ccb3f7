/-
  The walk of 'fits'.
-/
import Derived.Test.YteckeobhlfddlaaFd
import Derived.BigGuardPart
namespace Go.Proofs.Yteckeobhlfddlaa
open Go.RowKit Go.Sort

set_option maxRecDepth 100000 in
set_option maxHeartbeats 1000000 in
theorem fits_any (al ah ac aL : Option Addr) (cl ch cc cL n s : Nat) (c : Cl) (L : List Int) (w : World) (hn : L.length = n) (hm : n ≤ 9) (hm2 : c.crs.length ≤ 9)
    (hl : w.ownsRow 0 3 1 (.slice al n cl) n (c.low.map (Value.int .i64))) (hh : w.ownsRow 0 3 1 (.slice ah n ch) n (c.high.map (Value.int .i64)))
    (hc : w.ownsRow 0 87 3 (.slice ac c.crs.length cc) c.crs.length (crCells c.crs)) (hL : w.ownsRow 0 3 1 (.slice aL n cL) n (L.map (Value.int .i64)))
    (hs : s < n) (hcr : ∀ g ∈ c.crs, g.first < n ∧ g.second < n) :
    Calls Try.prog 43 #[.agg #[.slice al n cl, .slice ah n ch, .slice ac c.crs.length cc], .slice aL n cL, .int .i64 s] w
      (Gives (fun v _ => v = .bool (fitsB c L s)) w) := by
  obtain ⟨low, high, crs⟩ := c
  simp only at hm2 hl hh hc hcr ⊢
  have HC := Lib.hid (creases_cells hc)
  have HX := Lib.hid (And.intro hc hL)
  have elow : low.length = n := by simpa using hl.1
  have ehigh : high.length = n := by simpa using hh.1
  rcases ints_cells hL with h | ⟨bL, rfl, hbL, hLc⟩
  · subst h; simp at hn; omega
  rcases ints_cells hl with h | ⟨bl, rfl, hbl, hlc⟩
  · subst h; simp at elow; omega
  rcases ints_cells hh with h | ⟨bh, rfl, hbh, hhc⟩
  · subst h; simp at ehigh; omega
  have lo := hlc s (by omega)
  have hi := hhc s (by omega)
  have HN := Lib.hid (And.intro hn (And.intro elow ehigh))
  have HLc := Lib.hid hLc
  clear hLc hlc hhc hc hL hl hh hn elow ehigh
  go_enter Try.func43, Try.ntmps43
  go_wp2
  go_loopw [13] (fun i wr => ∃ k : Nat, k ≤ crs.length ∧ i = .int .i64 k ∧ (crs.take k).all (fitB crs low high L s) = true ∧ Below (w.heap.size + 1) (w.alloc (.cells #[.slice (some ⟨bl, 0, none⟩) n cl, .slice (some ⟨bh, 0, none⟩) n ch, .slice ac crs.length cc] 63)) wr) (fun i _ => crs.length - (intOf i).toNat)
  case atStart => exact ⟨0, Nat.zero_le _, rfl, by simp, Below.refl _ _⟩
  case round =>
    obtain ⟨k, hk, rfl, hall, hb⟩ := hrel
    have Hall := Lib.hid hall
    clear hall
    by_cases hlt : k < crs.length
    · rcases HC.out with h | ⟨bc, rfl, hbc, hcc⟩
      · subst h; simp at hlt
      obtain ⟨c0, c1, c2⟩ := hcc k hlt
      obtain ⟨n1, n2⟩ := hcr _ (List.getElem_mem hlt)
      have m1 := HLc.out _ (HN.out.1 ▸ n1)
      have m2 := HLc.out _ (HN.out.1 ▸ n2)
      have far : ∀ {b o : Nat} {v : Value}, b < w.heap.size → w.cell? ⟨b, o, none⟩ = some v → wr.cell? ⟨b, o, none⟩ = some v := fun {b o v} hbb hv => by
        rw [hb.cell (p := ⟨b, o, none⟩) (by simp; omega), World.cell?_alloc_past _ _ _ hbb]; exact hv
      replace c0 := far hbc c0
      replace c1 := far hbc c1
      replace c2 := far hbc c2
      replace m1 := far hbL m1
      replace m2 := far hbL m2
      replace lo := far hbl lo
      replace hi := far hbh hi
      clear far
      have hsz := hb.size
      simp at hsz
      have b0 : wr.cell? ⟨w.heap.size, 0, none⟩ = some (.slice (some ⟨bl, 0, none⟩) n cl) := (hb.cell (p := ⟨w.heap.size, 0, none⟩) (by simp)).trans (World.cell?_alloc_at _ _ _ _ (by simp))
      have b1 : wr.cell? ⟨w.heap.size, 1, none⟩ = some (.slice (some ⟨bh, 0, none⟩) n ch) := (hb.cell (p := ⟨w.heap.size, 1, none⟩) (by simp)).trans (World.cell?_alloc_at _ _ _ _ (by simp))
      have b2 : wr.cell? ⟨w.heap.size, 2, none⟩ = some (.slice (some ⟨bc, 0, none⟩) crs.length cc) := (hb.cell (p := ⟨w.heap.size, 2, none⟩) (by simp)).trans (World.cell?_alloc_at _ _ _ _ (by simp))
      have HB := Lib.hid hb
      generalize hg : crs[k] = f at *
      have HG := Lib.hid hg
      clear hg hb
      generalize hA : L[f.first]?.getD 0 = A at *
      generalize hA2 : L[f.second]?.getD 0 = A2 at *
      generalize hlo : low[s]?.getD 0 = lw at *
      generalize hhi : high[s]?.getD 0 = hg at *
      have xL : bL < wr.heap.size := by omega
      have xl : bl < wr.heap.size := by omega
      have xh : bh < wr.heap.size := by omega
      have xw : w.heap.size < wr.heap.size := by omega
      have HE := Lib.hid (And.intro hA (And.intro hA2 (And.intro hlo hhi)))
      clear hA hA2 hlo hhi
      go_wp2
      have HCr : Hid (∀ W', Below wr.heap.size wr W' → Calls Try.prog 52 #[.agg #[.slice (some ⟨bl, 0, none⟩) n cl, .slice (some ⟨bh, 0, none⟩) n ch, .slice (some ⟨bc, 0, none⟩) crs.length cc], .slice (some ⟨bL, 0, none⟩) n cL, .agg #[.int .i64 f.first, .int .i64 f.second, .int .i64 f.pos]] W'
          (Gives (fun v _ => v = .bool (crossedB crs L f)) W')) := Lib.hid fun W' hW' => by
        have hw : Below w.heap.size w W' := (((Below.refl _ _).alloc (Nat.le_refl _) _).trans (HB.out.mono (by omega))).trans (hW'.mono (by omega))
        exact crossed_any _ _ _ _ _ _ _ _ _ _ _ HN.out.1 hm hm2 (ownsRow_kept HX.out.1 hw) (ownsRow_kept HX.out.2 hw) ⟨n1, n2⟩ hcr
      have HF : Hid (fitB crs low high L s f = if ((A == -1) != (A2 == -1)) = true then !(decide (lw < f.pos) && decide (f.pos < hg)) && !((s == f.first || s == f.second) && crossedB crs L f) else true) := Lib.hid (by
        unfold fitB; rw [HE.out.1, HE.out.2.1, HE.out.2.2.1, HE.out.2.2.2])
      have HW := Lib.hid (show Below (w.heap.size + 1) (w.alloc (.cells #[.slice (some ⟨bl, 0, none⟩) n cl, .slice (some ⟨bh, 0, none⟩) n ch, .slice (some ⟨bc, 0, none⟩) crs.length cc] 63)) (wr.alloc (crBox f)) from HB.out.alloc (by omega) _)
      have HW2 := Lib.hid (((Below.refl _ w).alloc (Nat.le_refl _) _).trans (HW.out.mono (show w.heap.size ≤ w.heap.size + 1 by omega)))
      generalize hX : crossedB crs L f = X at *
      clear hX
      go_wp2
      go_quiet (fail)
      go_wp2
      case roundEnd =>
        have ho : ((A == -1) == (A2 == -1)) = true := by assumption
        go_roundw
        case rel => exact ⟨k + 1, by omega, by go_num, all_next _ _ _ hlt Hall.out (by rw [HG.out, HF.out, bne, ho]; rfl), below_drewN HW.out _⟩
        case measure => simp [intOf]; omega
      have HO := Lib.hid (show ((A == -1) == (A2 == -1)) = false by assumption)
      rcases (by omega : (s = f.first) ∨ (s ≠ f.first ∧ s = f.second) ∨ (s ≠ f.first ∧ s ≠ f.second)) with h1 | ⟨h1, h2⟩ | ⟨h1, h2⟩
      case' inl =>
        have HS : Hid ((s == f.first || s == f.second) = true) := Lib.hid (by simp [h1])
        have e1 : ((s : Int) == (f.first : Int)) = true := by simp; omega
        have e1' : (s == f.first) = true := by simp; omega
        clear h1
      case' inr.inl =>
        have HS : Hid ((s == f.first || s == f.second) = true) := Lib.hid (by simp [h2])
        have e1 : ((s : Int) == (f.first : Int)) = false := by simp; omega
        have e1' : (s == f.first) = false := by simp; omega
        have e2 : ((s : Int) == (f.second : Int)) = true := by simp; omega
        have e2' : (s == f.second) = true := by simp; omega
        clear h1 h2
      case' inr.inr =>
        have HS : Hid ((s == f.first || s == f.second) = false) := Lib.hid (by simp [h1, h2])
        have e1 : ((s : Int) == (f.first : Int)) = false := by simp; omega
        have e1' : (s == f.first) = false := by simp; omega
        have e2 : ((s : Int) == (f.second : Int)) = false := by simp; omega
        have e2' : (s == f.second) = false := by simp; omega
        clear h1 h2
      all_goals
        rcases Bool.eq_false_or_eq_true (decide (lw < f.pos)) with hp | hp
        all_goals
          go_quiet (fail)
          go_wp2_with (go_at_call 52; refine (HCr.out _ (by repeat (first | exact (Below.refl _ _).alloc (Nat.le_refl _) _ | refine below_drewN ?_ _ | refine Below.drew ?_))).mono ?_; rintro e w3 ⟨v, rfl, rfl, hb3⟩; have Hb3 := Lib.hid hb3; clear hb3)
          all_goals
            first
              | (go_roundw
                 case rel => exact ⟨k + 1, by omega, by go_num, all_next _ _ _ hlt Hall.out (by rw [HG.out, HF.out, bne, HO.out, HS.out]; first | (rw [hp, show decide (f.pos < hg) = true from decide_eq_true (by assumption)]; done) | (rw [hp, show decide (f.pos < hg) = true from decide_eq_true (by assumption)]; rfl) | (rw [hp, show decide (f.pos < hg) = false from decide_eq_false (by omega), show X = true by assumption]; rfl) | (rw [hp, show decide (f.pos < hg) = false from decide_eq_false (by omega), show X = false by assumption]; rfl) | (rw [hp, show X = true by assumption]; rfl) | (rw [hp, show X = false by assumption]; rfl) | (rw [hp, show decide (f.pos < hg) = false from decide_eq_false (by omega)]; cases X <;> rfl) | (rw [hp]; cases X <;> cases decide (f.pos < hg) <;> rfl)), (by (first | exact Below.trans (by repeat (first | exact HW.out | refine below_drewN ?_ _)) (Hb3.out.mono (by simp; omega)) | exact below_drewN HW.out _ | exact below_drewN (below_drewN HW.out _) _))⟩
                 case measure => simp [intOf]; omega)
              | (go_ret
                 refine ⟨.bool false, rfl, ?_, (by (first | exact Below.trans (by repeat (first | exact HW2.out | refine below_drewN ?_ _)) (Hb3.out.mono (by simp; omega)) | exact below_drewN HW2.out _ | exact below_drewN (below_drewN HW2.out _) _))⟩
                 rw [fitsB, all_false_at _ _ _ hlt (by rw [HG.out, HF.out, bne, HO.out, HS.out]; first | (rw [hp, show decide (f.pos < hg) = true from decide_eq_true (by assumption)]; done) | (rw [hp, show decide (f.pos < hg) = true from decide_eq_true (by assumption)]; rfl) | (rw [hp, show decide (f.pos < hg) = false from decide_eq_false (by omega), show X = true by assumption]; rfl) | (rw [hp, show decide (f.pos < hg) = false from decide_eq_false (by omega), show X = false by assumption]; rfl) | (rw [hp, show X = true by assumption]; rfl) | (rw [hp, show X = false by assumption]; rfl) | (rw [hp, show decide (f.pos < hg) = false from decide_eq_false (by omega)]; cases X <;> rfl) | (rw [hp]; cases X <;> cases decide (f.pos < hg) <;> rfl))])
    · go_wp2
      go_ret
      refine ⟨.bool true, rfl, ?_, (((Below.refl _ _).alloc (Nat.le_refl _) _).trans (hb.mono (by omega)))⟩
      have hk' : k = crs.length := by omega
      subst hk'
      have := Hall.out
      rw [List.take_length] at this
      rw [fitsB, this]

end Go.Proofs.Yteckeobhlfddlaa
