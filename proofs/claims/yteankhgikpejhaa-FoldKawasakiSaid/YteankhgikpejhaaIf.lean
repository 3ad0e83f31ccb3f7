/-
  The reference: the walk of 'Permutation'.
-/
import Derived.Test.YteankhgikpejhaaIa
namespace Go.Proofs.Yteankhgikpejhaa
open Go.RowKit Go.Sort

def newR (zs : List Int) (n : Int) (i : Nat) : Bool := inB (zs[i]?.getD 0) 0 (n - 1) && (List.range i).all (fun k => !(zs[k]?.getD 0 == zs[i]?.getD 0))
def permR (zs : List Int) (n : Int) : Bool := (List.range zs.length).all (newR zs n) && decide ((zs.length : Int) = n)

theorem permR_iff (zs : List Int) (n : Nat) : permR zs n = orderB zs n := by
  rw [Bool.eq_iff_iff]
  constructor
  · intro h
    simp only [permR, newR, inB, Bool.and_eq_true, List.all_eq_true, List.mem_range, decide_eq_true_eq, Bool.not_eq_true', beq_eq_false_iff_ne] at h
    obtain ⟨h1, h2⟩ := h
    have hl : zs.length = n := by omega
    have hg : ∀ i (hi : i < zs.length), zs[i]?.getD 0 = zs[i] := fun i hi => by simp [hi]
    have hb : ∀ z ∈ zs, 0 ≤ z ∧ z < n := by
      intro z hz
      obtain ⟨i, hi, rfl⟩ := List.getElem_of_mem hz
      have := (h1 i hi).1
      rw [hg i hi] at this
      omega
    have hnd : (zs.map Int.toNat).Nodup := by
      rw [List.nodup_iff_pairwise_ne, List.pairwise_map, List.pairwise_iff_getElem]
      intro i j hi hj hij e
      have a := hb _ (List.getElem_mem hi)
      have b := hb _ (List.getElem_mem hj)
      have := (h1 j hj).2 i hij
      rw [hg i hi, hg j hj] at this
      omega
    have := orderB_of (n := n) hnd (fun x hx => by
      obtain ⟨z, hz, rfl⟩ := List.mem_map.1 hx
      have := hb z hz
      omega) (by simpa using hl)
    have e : (zs.map Int.toNat).map (fun (x : Nat) => (x : Int)) = zs := by
      rw [List.map_map]
      conv => rhs; rw [← List.map_id zs]
      refine List.map_congr_left fun z hz => ?_
      have := hb z hz
      show ((z.toNat : Nat) : Int) = z
      omega
    rw [e] at this
    exact this
  · intro h
    obtain ⟨O, rfl, h1, h2, h3⟩ := orderB_nat h
    simp only [permR, newR, inB, Bool.and_eq_true, List.all_eq_true, List.mem_range, decide_eq_true_eq, Bool.not_eq_true', beq_eq_false_iff_ne, List.length_map]
    refine ⟨fun i hi => ⟨?_, fun k hk => ?_⟩, by omega⟩
    · have := h2 _ (List.getElem_mem hi)
      simp [hi]; omega
    · have hk' : k < O.length := by omega
      simp only [List.getElem?_map, List.getElem?_eq_getElem hi, List.getElem?_eq_getElem hk', Option.map_some, Option.getD_some]
      intro e
      have := (List.getElem_inj h1).1 (by omega : O[k] = O[i])
      omega

set_option maxRecDepth 100000 in
set_option maxHeartbeats 4000000 in
theorem Permutation_any (a : Option Addr) (n cap : Nat) (zs : List Int) (N : Int) (w : World) (hn : zs.length = n) (hm : n ≤ 1000) (hN : 0 ≤ N) (hN2 : N ≤ 1000) (hz : Ints w a zs) :
    Calls Try.prog 20 #[.slice a n cap, .int .i64 N] w fun e w' => e = .returned (.bool (permR zs N)) ∧ Below w.heap.size w w' := by
  have HX := Lib.hid hz.at
  have HN := Lib.hid hn
  have HI := Lib.hid (fun v wx => in_any v 0 (N - 1) wx)
  clear hz hn
  go_enter Try.func20, Try.ntmps20
  go_wp2
  go_loopw [5] (fun i wr => ∃ k : Nat, k ≤ n ∧ i = .int .i64 k ∧ (List.range k).all (newR zs N) = true ∧ Below w.heap.size w wr) (fun i _ => n - (intOf i).toNat)
  case atStart => exact ⟨0, Nat.zero_le _, rfl, rfl, Below.refl _ _⟩
  case round =>
    obtain ⟨k, hk, rfl, hall, hb⟩ := hrel
    have HA := Lib.hid hall
    have HB := Lib.hid hb
    clear hall hb
    rename World => w1
    by_cases hlt : k < n
    · rcases HX.out with h | ⟨b, off, rfl, hc⟩
      · have := HN.out; subst h; simp at this; omega
      have hj : k < zs.length := by rw [HN.out]; exact hlt
      have c0 := (HB.out.cell (p := ⟨b, off + k, none⟩) (World.block_lt_of_cell? w _ (hc k hj))).trans (hc k hj)
      have HNW : Hid (newR zs N k = (inB (zs[k]?.getD 0) 0 (N - 1) && (List.range k).all (fun i => !(zs[i]?.getD 0 == zs[k]?.getD 0)))) := Lib.hid rfl
      have HC := Lib.hid hc
      obtain ⟨z, hzk⟩ : ∃ z, zs[k]?.getD 0 = z := ⟨_, rfl⟩
      rw [hzk] at c0
      have HZK := Lib.hid hzk
      rcases Bool.eq_false_or_eq_true (inB z 0 (N - 1)) with hin | hin
      · rw [hzk, hin, Bool.true_and] at HNW
        have HIN := Lib.hid hin
        clear hin hc hzk
        go_wp2_with (go_at_call 55; refine (HI.out z w1).mono ?_; rw [HIN.out]; rintro e w' ⟨rfl, rfl⟩)
        go_loopw [6] (fun i wr => ∃ j : Nat, j ≤ k ∧ i = .int .i64 j ∧ (List.range j).all (fun i => !(zs[i]?.getD 0 == z)) = true ∧ Below w.heap.size w wr) (fun i _ => k - (intOf i).toNat)
        case atStart => exact ⟨0, Nat.zero_le _, rfl, rfl, HB.out⟩
        case round =>
          obtain ⟨j, hjk, rfl, hall2, hb2⟩ := hrel
          have HA2 := Lib.hid hall2
          have HB2 := Lib.hid hb2
          clear hall2 hb2 c0
          by_cases hlt2 : j < k
          · have hcj := HC.out j (by omega)
            have hck := HC.out k (by omega)
            rw [HZK.out] at hck
            have c0 := (HB2.out.cell (p := ⟨b, off + k, none⟩) (World.block_lt_of_cell? w _ hck)).trans hck
            have c1 := (HB2.out.cell (p := ⟨b, off + j, none⟩) (World.block_lt_of_cell? w _ hcj)).trans hcj
            clear hcj hck
            obtain ⟨y, hyj⟩ : ∃ y, zs[j]?.getD 0 = y := ⟨_, rfl⟩
            rw [hyj] at c1
            have HYJ := Lib.hid hyj
            clear hyj
            rcases Bool.eq_false_or_eq_true (y == z) with he | he
            · have HE := Lib.hid he
              go_wp2
              go_quiet (fail)
              go_wp2
              go_ret
              refine ⟨ret_bool (Eq.symm ?_), below_drewN HB2.out _⟩
              rw [permR, HN.out, range_all_false _ _ _ hlt (by rw [HNW.out, range_all_false _ _ _ hlt2 (by rw [HYJ.out, HE.out]; rfl)]), Bool.false_and]
            · have HE := Lib.hid he
              go_wp2
              go_quiet (fail)
              go_wp2
              go_roundw
              case rel => exact ⟨j + 1, by omega, by go_num, range_all_next _ _ HA2.out (by rw [HYJ.out, HE.out]; rfl), below_drewN HB2.out _⟩
              case measure => simp [intOf]; omega
          · obtain rfl : j = k := by omega
            go_wp2
            go_roundw
            case rel => exact ⟨j + 1, by omega, by go_num, range_all_next _ _ HA.out (by rw [HNW.out, HA2.out]), HB2.out⟩
            case measure => simp [intOf]; omega
      · rw [hzk, hin, Bool.false_and] at HNW
        have HIN := Lib.hid hin
        clear hin hc hzk
        go_wp2_with (go_at_call 55; refine (HI.out z w1).mono ?_; rw [HIN.out]; rintro e w' ⟨rfl, rfl⟩)
        go_ret
        refine ⟨ret_bool (Eq.symm ?_), HB.out⟩
        rw [permR, HN.out, range_all_false _ _ _ hlt HNW.out, Bool.false_and]
    · obtain rfl : k = n := by omega
      go_wp2
      go_ret
      refine ⟨ret_bool (Eq.symm ?_), HB.out⟩
      rw [permR, HN.out, HA.out, Bool.true_and]
      rw [Bool.eq_iff_iff, decide_eq_true_eq]
      simp

end Go.Proofs.Yteankhgikpejhaa
