/-
  The reference: the walk of 'Folds' at a strip and an order.
-/
import Derived.Test.YteankhgikpejhaaIc
namespace Go.Proofs.Yteankhgikpejhaa
open Go.RowKit Go.Sort

def atL (L : List Int) (s : Nat) : Int := L[s]?.getD 0
def segOK (zs : List Int) (L : List Int) (k i : Nat) : Bool := !(btwB (posAt zs (k + 1)) (posAt zs i) (posAt zs (i + 1)) && btwB (L[i]?.getD 0) (L[k]?.getD 0) (L[k + 1]?.getD 0))
def rightZ (zs : List Int) (k : Nat) : Bool := decide (posAt zs (k + 1) < posAt zs (k + 1 + 1))
def crOK (zs : List Int) (L : List Int) (k j : Nat) : Bool :=
  !(decide (j ≠ k) && (posAt zs (j + 1) == posAt zs (k + 1)) && (rightZ zs j == rightZ zs k) && (btwB (L[j]?.getD 0) (L[k]?.getD 0) (L[k + 1]?.getD 0) != btwB (L[j + 1]?.getD 0) (L[k]?.getD 0) (L[k + 1]?.getD 0)))
def rowOK (zs : List Int) (L : List Int) (n m k : Nat) : Bool := (List.range n).all (segOK zs L k) && (List.range m).all (crOK zs L k)
def refB (zs : List Int) (O : List Nat) : Bool := (List.range (zs.length - 1)).all (rowOK zs (layTo0 O zs.length zs.length) zs.length (zs.length - 1))

theorem rightZ_eq {zs : List Int} (hs : sizesB zs = true) {k : Nat} (hk : k + 1 < zs.length) : rightZ zs k = decide ((k + 1) % 2 = 0) := by
  have := size_in hs (k + 1) hk
  have e : zs[k + 1]?.getD 0 = zs[k + 1] := by simp [hk]
  have ep : posAt zs (k + 1 + 1) = if (k + 1) % 2 = 0 then posAt zs (k + 1) + zs[k + 1]?.getD 0 else posAt zs (k + 1) - zs[k + 1]?.getD 0 := rfl
  unfold rightZ
  rw [ep, e, decide_eq_decide]
  split <;> omega

/-- The reference's answer is that of the layers one by one. -/
theorem refB_ok {zs : List Int} {O : List Nat} (hg : stripB zs = true) (hn : O.Nodup) (hv : ∀ x ∈ O, x < zs.length) (hl : O.length = zs.length) : refB zs O = okFrom (layCl zs) zs.length O 0 := by
  obtain ⟨p1, p9, ps⟩ := strip_parts hg
  have hL : ∀ s, s < zs.length → (layTo0 O zs.length zs.length)[s]?.getD 0 = (layerN O s : Int) := fun s hs => by
    rw [layTo0_layer hn hv hl]; simp [hs]
  rw [Bool.eq_iff_iff, okFrom_iff (strip_fair zs) hn hv hl]
  have hcrs : ∀ k, k + 1 < zs.length → (⟨k, k + 1, posAt zs (k + 1)⟩ : Cr) ∈ (layCl zs).crs := fun k hk => by
    simp only [layCl, crsTo, List.mem_map, List.mem_range]
    exact ⟨k, by omega, rfl⟩
  simp only [refB, rowOK, List.all_eq_true, List.mem_range, Bool.and_eq_true]
  constructor
  · intro h
    refine ⟨fun f hf i hi hb => ?_, fun f hf g hg e1 e2 => ?_⟩
    · obtain ⟨k, hk, rfl⟩ := mem_crs hf
      have := (h k (by omega)).1 i hi
      rw [segOK, hL i hi, hL k (by omega), hL (k + 1) hk] at this
      rw [hb.1, hb.2] at this
      cases this
    · obtain ⟨k, hk, rfl⟩ := mem_crs hf
      obtain ⟨j, hj, rfl⟩ := mem_crs hg
      by_cases hjk : j = k
      · subst hjk
        have a1 : btwB (layerN O j : Int) (layerN O j : Int) (layerN O (j + 1) : Int) = false := by
          rw [Bool.eq_false_iff, Ne, btwB_iff]; omega
        have a2 : btwB (layerN O (j + 1) : Int) (layerN O j : Int) (layerN O (j + 1) : Int) = false := by
          rw [Bool.eq_false_iff, Ne, btwB_iff]; omega
        exact a1.trans a2.symm
      · have := (h k (by omega)).2 j (by omega)
        rw [crOK, hL j (by omega), hL k (by omega), hL (k + 1) hk, hL (j + 1) hj, rightZ_eq ps hj, rightZ_eq ps hk] at this
        have e1' : posAt zs (j + 1) = posAt zs (k + 1) := e1
        have e2' : decide ((j + 1) % 2 = 0) = decide ((k + 1) % 2 = 0) := e2
        rw [e1', e2', decide_eq_true hjk] at this
        simpa using this
  · rintro ⟨h1, h2⟩ k hk
    refine ⟨fun i hi => ?_, fun j hj => ?_⟩
    · rw [segOK, hL i hi, hL k (by omega), hL (k + 1) (by omega), Bool.not_eq_true', Bool.eq_false_iff, Ne, Bool.and_eq_true]
      exact h1 _ (hcrs k (by omega)) i hi
    · rw [crOK, hL j (by omega), hL k (by omega), hL (k + 1) (by omega), hL (j + 1) (by omega), rightZ_eq ps (by omega), rightZ_eq ps (by omega), Bool.not_eq_true', Bool.eq_false_iff, Ne, Bool.and_eq_true, Bool.and_eq_true, Bool.and_eq_true]
      rintro ⟨⟨⟨_, e1⟩, e2⟩, e3⟩
      have := h2 _ (hcrs k (by omega)) _ (hcrs j (by omega)) (by simpa using e1) (beq_iff_eq.1 e2)
      rw [bne_iff_ne] at e3
      exact e3 this

theorem rc_cells {wm w : World} {zs : List Int} {m g cap : Nat} (h : CollR wm (rcsOf zs m) m (.slice (some ⟨g, 0, none⟩) m cap) w) (k : Nat) (hk : k < m) :
    w.cell? ⟨g, k * 4, none⟩ = some (.int .i64 (posAt zs (k + 1))) ∧ w.cell? ⟨g, k * 4 + 1, none⟩ = some (.int .i64 k) ∧ w.cell? ⟨g, k * 4 + 2, none⟩ = some (.int .i64 ((k : Int) + 1)) ∧ w.cell? ⟨g, k * 4 + 3, none⟩ = some (.bool (rightZ zs k)) := by
  have hr := h.owns
  have hl : k < (rcsOf zs m).length := by simpa [rcsOf] using hk
  obtain ⟨a, b, c, d⟩ := rcCells_at (rcsOf zs m) k hl
  have e : (rcsOf zs m)[k] = rcAt zs k := by simp [rcsOf]
  rw [e] at a b c d
  exact ⟨(hr.cellAt _ (by omega)).trans a, (hr.cellAt _ (by omega)).trans b, (hr.cellAt _ (by omega)).trans c, (hr.cellAt _ (by omega)).trans d⟩

theorem between_known (x a b : Int) (r : Bool) (h : btwB x a b = r) (w : World) : Calls Try.prog 60 #[.int .i64 x, .int .i64 a, .int .i64 b] w fun e w' => e = .returned (.bool r) ∧ w' = w :=
  (between_any x a b w).mono fun _ _ ⟨he, hw⟩ => ⟨by rw [he, h], hw.symm⟩

set_option maxRecDepth 200000 in
set_option maxHeartbeats 8000000 in
theorem refFolds_any (a aO : Option Addr) (m cap cO : Nat) (zs : List Int) (O : List Nat) (w : World) (hn : zs.length = m + 1) (hg : stripB zs = true) (hz : Ints w a zs) (hl : O.length = m + 1) (hv : ∀ x ∈ O, x < m + 1) (hO : Ints w aO (O.map fun (x : Nat) => (x : Int))) :
    Calls Try.prog 22 #[.slice a (m + 1) cap, .slice aO (m + 1) cO, .bool false] w fun e w' => e = .returned (.bool (refB zs O)) ∧ Below w.heap.size w w' := by
  obtain ⟨p1, p9, ps⟩ := strip_parts hg
  have h8 : m ≤ 8 := by omega
  have hpl := Lib.hid (places_any a (m + 1) cap zs · hn (by omega) ps)
  have hla := Lib.hid (fun wx => layers_any aO (m + 1) cO O wx hl (by omega) (by omega) hv)
  have hcr := Lib.hid (creases_strip a (m + 1) cap zs · hn (by omega) (by omega) ps)
  have HZ := Lib.hid (And.intro hz (And.intro hO hn))
  clear hz hO hn hl hv ps hg p1 p9
  go_enter Try.func22, Try.ntmps22
  go_wp2_with (first
    | (go_at_call 57; refine (hpl.out w HZ.out.1).mono ?_; rintro e w1 ⟨v, rfl, hv1, hb1⟩; obtain ⟨gp, cp, rfl, hI1⟩ := hv1.ints; have H1 := Lib.hid (And.intro hI1 hb1); clear hv1 hI1 hb1)
    | (go_at_call 58; refine (hla.out w1 (HZ.out.2.1.below H1.out.2)).mono ?_; rintro e w2 ⟨v, rfl, hv2, hb2⟩; obtain ⟨gL, cL, rfl, hI2⟩ := hv2.ints; have H2 := Lib.hid (And.intro (H1.out.1.below hb2) (And.intro hI2 (H1.out.2.trans (hb2.mono H1.out.2.size)))); clear hv2 hI2 hb2)
    | (go_at_call 59; refine (hcr.out w2 (HZ.out.1.below H2.out.2.2)).mono ?_; rintro e w3 ⟨v, rfl, ⟨wm, hwm, hC⟩, hb3⟩; have H3 := Lib.hid (And.intro (H2.out.1.below hb3) (And.intro (H2.out.2.1.below hb3) (And.intro hC (H2.out.2.2.trans (hb3.mono H2.out.2.2.size))))); clear hwm hC hb3))
  have hlP : Hid ((posL zs (m + 1 + 1)).length = m + 2) := Lib.hid (by simp [posL])
  have hlL : Hid ((layTo0 O (m + 1) (m + 1)).length = m + 1) := Lib.hid (by simp)
  obtain ⟨_, _, gc, cc, rfl, _⟩ := H3.out.2.2.1
  have H4 := Lib.hid (show (∀ wr, Below w3.heap.size w3 wr → (∀ i, i < m + 2 → wr.cell? ⟨gp, i, none⟩ = some (.int .i64 (posAt zs i))) ∧ (∀ i, i < m + 1 → wr.cell? ⟨gL, i, none⟩ = some (.int .i64 (atL (layTo0 O (m + 1) (m + 1)) i))) ∧
      (∀ k, k < m → wr.cell? ⟨gc, k * 4, none⟩ = some (.int .i64 (posAt zs (k + 1))) ∧ wr.cell? ⟨gc, k * 4 + 1, none⟩ = some (.int .i64 k) ∧ wr.cell? ⟨gc, k * 4 + 2, none⟩ = some (.int .i64 ((k : Int) + 1)) ∧ wr.cell? ⟨gc, k * 4 + 3, none⟩ = some (.bool (rightZ zs k)))) from fun wr hb => by
    refine ⟨fun i hi => ?_, fun i hi => ?_, fun k hk => ?_⟩
    · obtain ⟨b, off, e, hc⟩ := (H3.out.1.below hb) i (by rw [hlP.out]; exact hi)
      cases e
      rw [Nat.zero_add, posL_at zs _ _ hi] at hc
      exact hc
    · obtain ⟨b, off, e, hc⟩ := (H3.out.2.1.below hb) i (by rw [hlL.out]; exact hi)
      cases e
      rw [Nat.zero_add] at hc
      exact hc
    · exact rc_cells (H3.out.2.2.1.grow hb) k hk)
  have HB3 := Lib.hid H3.out.2.2.2
  have HR : Hid (refB zs O = (List.range m).all (rowOK zs (layTo0 O (m + 1) (m + 1)) (m + 1) m)) := Lib.hid (by rw [refB, HZ.out.2.2, Nat.add_sub_cancel])
  obtain ⟨L, hL⟩ : ∃ L, layTo0 O (m + 1) (m + 1) = L := ⟨_, rfl⟩
  rw [hL] at H4 HR hlL
  rw [hlP.out]
  simp only [Nat.add_sub_cancel]
  clear H1 H2 H3 hpl hla hcr HZ hL
  go_loopw [10] (fun i wr => ∃ k : Nat, k ≤ m ∧ i = .int .i64 k ∧ (List.range k).all (rowOK zs L (m + 1) m) = true ∧ Below w3.heap.size w3 wr) (fun i _ => m - (intOf i).toNat)
  case atStart => exact ⟨0, Nat.zero_le _, rfl, rfl, Below.refl _ _⟩
  case round =>
    obtain ⟨k, hk, rfl, hall, hb⟩ := hrel
    have HA := Lib.hid hall
    have HB := Lib.hid hb
    clear hall hb
    by_cases hlt : k < m
    · obtain ⟨hP, hLL, hCC⟩ := H4.out wr HB.out
      obtain ⟨c0, c1, c2, c3⟩ := hCC k hlt
      have l0 := hLL k (by omega)
      have l1 := hLL (k + 1) (by omega)
      clear hP hLL hCC
      obtain ⟨A, hA⟩ : ∃ A, atL L k = A := ⟨_, rfl⟩
      obtain ⟨B, hB⟩ : ∃ B, atL L (k + 1) = B := ⟨_, rfl⟩
      rw [hA] at l0
      rw [hB] at l1
      have HAB := Lib.hid (And.intro hA hB)
      clear hA hB
      go_wp2
      go_quiet (fail)
      obtain ⟨w5, hw5⟩ : ∃ w5, wr.drewN nq = w5 := ⟨_, rfl⟩
      have HB5 : Hid (Below w3.heap.size w3 w5) := Lib.hid (by rw [← hw5]; exact below_drewN HB.out _)
      rw [hw5]
      clear hw5 c0 c1 c2 c3 l0 l1 HB
      clear wr
      go_wp2
      go_loopw [13] (fun i wr => ∃ i' : Nat, i' ≤ m + 1 ∧ i = .int .i64 i' ∧ (List.range i').all (segOK zs L k) = true ∧ Below w3.heap.size w3 wr) (fun i _ => m + 1 - (intOf i).toNat)
      case atStart => exact ⟨0, Nat.zero_le _, rfl, rfl, HB5.out⟩
      case round =>
        obtain ⟨i, hi, rfl, hall2, hb2⟩ := hrel
        have HA2 := Lib.hid hall2
        have HB2 := Lib.hid hb2
        clear hall2 hb2
        by_cases hlt2 : i < m + 1
        · obtain ⟨hP, hLL, hCC⟩ := H4.out wr HB2.out
          obtain ⟨c0, _, _, _⟩ := hCC k hlt
          have d0 := hP i (by omega)
          have d1 := hP (i + 1) (by omega)
          have l0 := hLL i (by omega)
          clear hP hLL hCC
          have HSG : Hid (segOK zs L k i = !(btwB (posAt zs (k + 1)) (posAt zs i) (posAt zs (i + 1)) && btwB (atL L i) A B)) := Lib.hid (by rw [← HAB.out.1, ← HAB.out.2]; rfl)
          obtain ⟨X, hX⟩ : ∃ X, posAt zs (k + 1) = X := ⟨_, rfl⟩
          obtain ⟨Y, hY⟩ : ∃ Y, posAt zs i = Y := ⟨_, rfl⟩
          obtain ⟨Z, hZ⟩ : ∃ Z, posAt zs (i + 1) = Z := ⟨_, rfl⟩
          obtain ⟨V, hV⟩ : ∃ V, atL L i = V := ⟨_, rfl⟩
          rw [hX] at c0
          rw [hX, hY, hZ, hV] at HSG
          rw [hY] at d0
          rw [hZ] at d1
          rw [hV] at l0
          clear hX hY hZ hV
          obtain ⟨r1, hr1⟩ : ∃ r, btwB X Y Z = r := ⟨_, rfl⟩
          obtain ⟨r2, hr2⟩ : ∃ r, btwB V A B = r := ⟨_, rfl⟩
          rw [hr1, hr2] at HSG
          have K1 := Lib.hid (between_known X Y Z r1 hr1)
          have K2 := Lib.hid (between_known V A B r2 hr2)
          clear hr1 hr2
          cases r1
          · go_wp2
            go_quiet ((first | (with_reducible exact Calls.quiet_of_same (K1.out _)) | (with_reducible exact Calls.quiet_of_same (K2.out _))))
            go_wp2
            go_roundw
            case rel => exact ⟨i + 1, by omega, by go_num, range_all_next _ _ HA2.out (by rw [HSG.out]; rfl), below_drewN HB2.out _⟩
            case measure => simp [intOf]; omega
          · cases r2
            · go_wp2
              go_quiet ((first | (with_reducible exact Calls.quiet_of_same (K1.out _)) | (with_reducible exact Calls.quiet_of_same (K2.out _))))
              go_wp2
              go_roundw
              case rel => exact ⟨i + 1, by omega, by go_num, range_all_next _ _ HA2.out (by rw [HSG.out]; rfl), below_drewN HB2.out _⟩
              case measure => simp [intOf]; omega
            · go_wp2
              go_quiet ((first | (with_reducible exact Calls.quiet_of_same (K1.out _)) | (with_reducible exact Calls.quiet_of_same (K2.out _))))
              go_wp2
              go_ret
              refine ⟨ret_bool (Eq.symm ?_), below_drewN (HB3.out.trans (HB2.out.mono HB3.out.size)) _⟩
              rw [HR.out, range_all_false _ _ _ hlt (by rw [rowOK, range_all_false _ _ _ hlt2 (by rw [HSG.out]; rfl), Bool.false_and])]
        · obtain rfl : i = m + 1 := by omega
          rename World => w6
          have HB6 := Lib.hid HB2.out
          have HSeg := Lib.hid HA2.out
          clear HB2 HA2
          go_wp2
          go_loopw [14] (fun i wr => ∃ j : Nat, j ≤ m ∧ i = .int .i64 j ∧ (List.range j).all (crOK zs L k) = true ∧ Below w3.heap.size w3 wr) (fun i _ => m - (intOf i).toNat)
          case atStart => exact ⟨0, Nat.zero_le _, rfl, rfl, HB6.out⟩
          case round =>
            obtain ⟨j, hj, rfl, hall3, hb3⟩ := hrel
            have HA3 := Lib.hid hall3
            have HB7 := Lib.hid hb3
            clear hall3 hb3
            by_cases hlt3 : j < m
            · obtain ⟨hP, hLL, hCC⟩ := H4.out wr HB7.out
              obtain ⟨c0, c1, c2, c3⟩ := hCC k hlt
              obtain ⟨e0, e1, e2, e3⟩ := hCC j hlt3
              have l0 := hLL j (by omega)
              have l1 := hLL (j + 1) (by omega)
              clear hP hLL hCC
              have HCO : Hid (crOK zs L k j = !(decide (j ≠ k) && (posAt zs (j + 1) == posAt zs (k + 1)) && (rightZ zs j == rightZ zs k) && (btwB (atL L j) A B != btwB (atL L (j + 1)) A B))) := Lib.hid (by rw [← HAB.out.1, ← HAB.out.2]; rfl)
              generalize posAt zs (k + 1) = Pk at *
              generalize posAt zs (j + 1) = Pj at *
              generalize rightZ zs k = Rk at *
              generalize rightZ zs j = Rj at *
              obtain ⟨V1, hV1⟩ : ∃ V, atL L j = V := ⟨_, rfl⟩
              obtain ⟨V2, hV2⟩ : ∃ V, atL L (j + 1) = V := ⟨_, rfl⟩
              rw [hV1, hV2] at HCO
              rw [hV1] at l0
              rw [hV2] at l1
              clear hV1 hV2
              obtain ⟨r1, hr1⟩ : ∃ r, btwB V1 A B = r := ⟨_, rfl⟩
              obtain ⟨r2, hr2⟩ : ∃ r, btwB V2 A B = r := ⟨_, rfl⟩
              rw [hr1, hr2] at HCO
              have K1 := Lib.hid (between_known V1 A B r1 hr1)
              have K2 := Lib.hid (between_known V2 A B r2 hr2)
              clear hr1 hr2
              by_cases hjk : j = k
              · have g1 : ((j : Int) != (k : Int)) = false := by rw [bne_eq_false_iff_eq]; omega
                have HC2 : Hid (crOK zs L k j = true) := Lib.hid (by rw [HCO.out, decide_eq_false (by omega)]; simp)
                clear hjk
                go_wp2
                go_quiet (fail)
                go_wp2
                go_roundw
                case rel => exact ⟨j + 1, by omega, by go_num, range_all_next _ _ HA3.out HC2.out, below_drewN HB7.out _⟩
                case measure => simp [intOf]; omega
              · have g1 : ((j : Int) != (k : Int)) = true := by rw [bne_iff_ne]; omega
                rw [decide_eq_true hjk, Bool.true_and] at HCO
                clear hjk
                rcases Bool.eq_false_or_eq_true (Pj == Pk) with g2 | g2
                · rcases Bool.eq_false_or_eq_true (Rj == Rk) with g3 | g3
                  · rw [g2, g3, Bool.true_and, Bool.true_and] at HCO
                    cases r1 <;> cases r2
                    case' false.false => have HC2 : Hid (crOK zs L k j = true) := Lib.hid (by rw [HCO.out]; rfl)
                    case' false.true => have HC2 : Hid (crOK zs L k j = false) := Lib.hid (by rw [HCO.out]; rfl)
                    case' true.false => have HC2 : Hid (crOK zs L k j = false) := Lib.hid (by rw [HCO.out]; rfl)
                    case' true.true => have HC2 : Hid (crOK zs L k j = true) := Lib.hid (by rw [HCO.out]; rfl)
                    all_goals
                      go_wp2
                      go_quiet ((first | (with_reducible exact Calls.quiet_of_same (K1.out _)) | (with_reducible exact Calls.quiet_of_same (K2.out _))))
                      go_wp2
                    all_goals first
                      | (go_roundw
                         case rel => exact ⟨j + 1, by omega, by go_num, range_all_next _ _ HA3.out HC2.out, below_drewN HB7.out _⟩
                         case measure => simp [intOf]; omega)
                      | (go_ret
                         refine ⟨ret_bool (Eq.symm ?_), below_drewN (HB3.out.trans (HB7.out.mono HB3.out.size)) _⟩
                         rw [HR.out, range_all_false _ _ _ hlt (by rw [rowOK, range_all_false _ _ _ hlt3 HC2.out, Bool.and_false])])
                  · have HC2 : Hid (crOK zs L k j = true) := Lib.hid (by rw [HCO.out, g2, g3]; rfl)
                    go_wp2
                    go_quiet (fail)
                    go_wp2
                    go_roundw
                    case rel => exact ⟨j + 1, by omega, by go_num, range_all_next _ _ HA3.out HC2.out, below_drewN HB7.out _⟩
                    case measure => simp [intOf]; omega
                · have HC2 : Hid (crOK zs L k j = true) := Lib.hid (by rw [HCO.out, g2]; rfl)
                  go_wp2
                  go_quiet (fail)
                  go_wp2
                  go_roundw
                  case rel => exact ⟨j + 1, by omega, by go_num, range_all_next _ _ HA3.out HC2.out, below_drewN HB7.out _⟩
                  case measure => simp [intOf]; omega
            · obtain rfl : j = m := by omega
              go_wp2
              go_roundw
              case rel => exact ⟨k + 1, by omega, by go_num, range_all_next _ _ HA.out (by rw [rowOK, HSeg.out, HA3.out]; rfl), HB7.out⟩
              case measure => simp [intOf]; omega
    · go_wp2
      go_ret
      have hk' : k = m := by omega
      subst hk'
      exact ⟨ret_bool (by rw [HR.out, HA.out]), HB3.out.trans (HB.out.mono HB3.out.size)⟩

end Go.Proofs.Yteankhgikpejhaa
