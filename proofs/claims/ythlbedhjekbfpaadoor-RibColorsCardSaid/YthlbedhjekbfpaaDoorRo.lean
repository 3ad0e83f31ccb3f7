/-
  The reference: the walk of 'Ring'.
-/
import Derived.Test.YthlbedhjekbfpaaDoorRn
namespace Go.Proofs.YthlbedhjekbfpaaDoor
open Go.RowKit Go.Sort

def ringRow (es : List (Int × Int)) (l : List Int) (i : Nat) : Bool := (List.range i).all (ringRAt es l i)
theorem ringR_rows (es : List (Int × Int)) (l : List Int) : ringR es l = (decide (4 ≤ l.length) && (List.range l.length).all (ringRow es l)) := rfl

set_option maxRecDepth 100000 in
set_option maxHeartbeats 4000000 in
theorem RefRing_any (a aL : Option Addr) (m cap n cL : Nat) (es : List (Int × Int)) (l : List Int) (w : World) (hl : es.length = m) (hm : m ≤ 1000) (he : Edges w a es) (hn : l.length = n) (hn2 : n ≤ 1000) (hz : Ints w aL l) :
    Calls Tryd.prog 14 #[.slice a m cap, .slice aL n cL] w fun e w' => e = .returned (.bool (ringR es l)) ∧ Below w.heap.size w w' := by
  have HE := Lib.hid he
  have HEL := Lib.hid hl
  have HX := Lib.hid hz.at
  have HN := Lib.hid hn
  have HG : Hid (ringR es l = (decide (4 ≤ n) && (List.range n).all (ringRow es l))) := Lib.hid (by rw [ringR_rows, hn])
  clear he hl hz hn
  by_cases h4 : n < 4
  · rw [decide_eq_false (by omega : ¬ 4 ≤ n), Bool.false_and] at HG
    go_enter Tryd.func14, Tryd.ntmps14
    go_wp2
    go_ret
    exact ⟨ret_bool HG.out.symm, Below.refl _ _⟩
  rw [decide_eq_true (by omega : 4 ≤ n), Bool.true_and] at HG
  go_enter Tryd.func14, Tryd.ntmps14
  go_wp2
  go_loopw [5, 6, 7] (fun i _ _ wr => ∃ k : Nat, k ≤ n ∧ i = .int .i64 k ∧ (List.range k).all (ringRow es l) = true ∧ Below w.heap.size w wr) (fun i _ _ _ => n - (intOf i).toNat)
  case atStart => exact ⟨0, Nat.zero_le _, rfl, rfl, Below.refl _ _⟩
  case round =>
    obtain ⟨k, hk, rfl, hall, hb⟩ := hrel
    have HA := Lib.hid hall
    have HB := Lib.hid hb
    clear hall hb
    rename World => w1
    by_cases hlt : k < n
    · have hkL : k < l.length := by rw [HN.out]; exact hlt
      rcases HX.out with h | ⟨b, off, rfl, hc⟩
      · subst h; simp at hkL
      have HC := Lib.hid hc
      clear hc
      go_wp2
      go_loopw [6, 7] (fun i _ wr => ∃ j : Nat, j ≤ k ∧ i = .int .i64 j ∧ (List.range j).all (ringRAt es l k) = true ∧ Below w.heap.size w wr) (fun i _ _ => k - (intOf i).toNat)
      case atStart => exact ⟨0, Nat.zero_le _, rfl, rfl, HB.out⟩
      case round =>
        obtain ⟨j, hjk, rfl, hall2, hb2⟩ := hrel
        have HA2 := Lib.hid hall2
        have HB2 := Lib.hid hb2
        clear hall2 hb2
        by_cases hlt2 : j < k
        · have hcj := HC.out j (by omega)
          have hck := HC.out k hkL
          have c0 := (HB2.out.cell (p := ⟨b, off + k, none⟩) (World.block_lt_of_cell? w _ hck)).trans hck
          have c1 := (HB2.out.cell (p := ⟨b, off + j, none⟩) (World.block_lt_of_cell? w _ hcj)).trans hcj
          clear hcj hck
          have hjn : (j : Int) < (n : Int) := by omega
          have HP := Lib.hid (fun h => range_next (ringRAt es l k) j HA2.out h)
          have HF := Lib.hid (fun h => range_false (ringRAt es l k) k j hlt2 h)
          have HFF : Hid (ringRow es l k = false → ringR es l = false) := Lib.hid (fun h => by rw [HG.out]; exact range_false _ _ k hlt h)
          have HNr := fun (q : Nat) => Near_any a m cap es (l[k]?.getD 0) (l[j]?.getD 0) (wr.drewN q) HEL.out hm (HE.out.below (below_drewN HB2.out q))
          have HR : Hid (ringRAt es l k j = (!(l[k]?.getD 0 == l[j]?.getD 0) && (nextR n k j == nearB es (l[k]?.getD 0) (l[j]?.getD 0)))) := Lib.hid (by rw [ringRAt, HN.out])
          have HROW : Hid (ringRow es l k = (List.range k).all (ringRAt es l k)) := Lib.hid rfl
          obtain ⟨y, hy⟩ : ∃ y, l[j]?.getD 0 = y := ⟨_, rfl⟩
          obtain ⟨z, hz⟩ : ∃ z, l[k]?.getD 0 = z := ⟨_, rfl⟩
          rw [hz] at c0
          rw [hy] at c1
          rw [hz, hy] at HNr HR
          obtain ⟨r, hr⟩ : ∃ r, nearB es z y = r := ⟨_, rfl⟩
          obtain ⟨T, hT⟩ : ∃ T, ringRAt es l k j = T := ⟨_, rfl⟩
          rw [hr] at HNr HR
          rw [hT] at HR HP HF
          clear hr hz hy hT
          have HH := Lib.hid HNr
          clear HNr
          have hcase : ((((k : Int) - (j : Int) == 1) = true ∧ nextR n k j = true) ∨ (((k : Int) - (j : Int) == 1) = false ∧ ((j : Int) == 0) = true ∧ ((k : Int) == (n : Int) - 1) = true ∧ nextR n k j = true)) ∨ ((((k : Int) - (j : Int) == 1) = false ∧ ((j : Int) == 0) = true ∧ ((k : Int) == (n : Int) - 1) = false ∧ nextR n k j = false) ∨ (((k : Int) - (j : Int) == 1) = false ∧ ((j : Int) == 0) = false ∧ nextR n k j = false)) := by
            simp only [nextR, Bool.or_eq_true, Bool.or_eq_false_iff, Bool.and_eq_true, Bool.and_eq_false_iff, decide_eq_true_eq, decide_eq_false_iff_not, beq_iff_eq, beq_eq_false_iff_ne]
            omega
          obtain ⟨nb, hnb⟩ : ∃ nb, nextR n k j = nb := ⟨_, rfl⟩
          rw [hnb] at hcase HR
          clear hnb
          rcases Bool.eq_false_or_eq_true (z == y) with he | he
          · rw [he, Bool.not_true, Bool.false_and] at HR
            have HD := Lib.hid (HFF.out (by rw [HROW.out]; exact HF.out HR.out))
            clear HP HF HFF HR
            rcases hcase with (⟨g1, rfl⟩ | ⟨g1, g2, g3, rfl⟩) | (⟨g1, g2, g3, rfl⟩ | ⟨g1, g2, rfl⟩)
            all_goals
              go_wp2
              go_quiet (with_reducible exact quiet_same (HH.out _))
              go_wp2
              go_ret
              exact ⟨ret_bool HD.out.symm, below_drewN HB2.out _⟩
          · rw [he, Bool.not_false, Bool.true_and] at HR
            rcases hcase with (⟨g1, rfl⟩ | ⟨g1, g2, g3, rfl⟩) | (⟨g1, g2, g3, rfl⟩ | ⟨g1, g2, rfl⟩)
            all_goals
              cases r
            all_goals first
              | (have HD := Lib.hid (HP.out HR.out)
                 clear HP HF HFF HR
                 go_wp2
                 go_quiet (with_reducible exact quiet_same (HH.out _))
                 go_wp2
                 go_roundw
                 case rel => exact ⟨j + 1, by omega, by go_num, HD.out, below_drewN HB2.out _⟩
                 case measure => simp [intOf]; omega)
              | (have HD := Lib.hid (HFF.out (by rw [HROW.out]; exact HF.out HR.out))
                 clear HP HF HFF HR
                 go_wp2
                 go_quiet (with_reducible exact quiet_same (HH.out _))
                 go_wp2
                 go_ret
                 exact ⟨ret_bool HD.out.symm, below_drewN HB2.out _⟩)
        · obtain rfl : j = k := by omega
          go_wp2
          go_roundw
          case rel => exact ⟨j + 1, by omega, by go_num, range_next _ _ HA.out HA2.out, HB2.out⟩
          case measure => simp [intOf]; omega
    · obtain rfl : k = n := by omega
      go_wp2
      go_ret
      exact ⟨ret_bool (by rw [HG.out, HA.out]), HB.out⟩

end Go.Proofs.YthlbedhjekbfpaaDoor
