/-
  The reference: the walks of 'in', 'Near', 'Clique' and 'Permutation'.
-/
import Derived.Test.YthlbedhjekbfpaaDoorRi
import Derived.Test.YthlbedhjekbfpaaDoorRj
namespace Go.Proofs.YthlbedhjekbfpaaDoor
open Go.RowKit Go.Sort

theorem Edges.below {w w' : World} {a : Option Addr} {es : List (Int × Int)} (h : Edges w a es) (hb : Below w.heap.size w w') : Edges w' a es := by
  rcases h with rfl | ⟨b, off, rfl, hc⟩
  · exact .inl rfl
  · refine .inr ⟨b, off, rfl, fun i hi => ?_⟩
    obtain ⟨c0, c1⟩ := hc i hi
    exact ⟨(hb.cell (p := ⟨b, off + i * 2, none⟩) (World.block_lt_of_cell? w _ c0)).trans c0, (hb.cell (p := ⟨b, off + i * 2 + 1, none⟩) (World.block_lt_of_cell? w _ c1)).trans c1⟩
theorem Edges.after {w0 w : World} {a : Option Addr} {es : List (Int × Int)} (h : Edges w0 a es) (hb : Below w0.heap.size w0 w) : Edges w a es := h.below hb

theorem quiet_same {P : Program} {f : FuncId} {args : Array Value} {w : World} {n : Nat} {v : Value}
    (h : Calls P f args (w.drewN n) fun e w' => e = .returned v ∧ w.drewN n = w') : Calls P f args (w.drewN n) fun e w'' => e = .returned v ∧ ∃ m, w'' = w.drewN m :=
  h.mono fun _ _ ⟨he, hm⟩ => ⟨he, n, hm.symm⟩
theorem any_next {α : Type} (p : α → Bool) (l : List α) (k : Nat) (hk : k < l.length) (h : (l.take k).any p = false) (hp : p l[k] = false) : (l.take (k + 1)).any p = false := by
  rw [List.take_succ_eq_append_getElem hk, List.any_append, h]; simp [hp]
theorem any_here {α : Type} (p : α → Bool) (l : List α) (k : Nat) (hk : k < l.length) (hp : p l[k] = true) : l.any p = true := List.any_eq_true.2 ⟨_, List.getElem_mem hk, hp⟩

set_option maxHeartbeats 1000000 in
theorem in_any (v lo hi : Int) (w : World) : Calls Tryd.prog 40 #[.int .i64 v, .int .i64 lo, .int .i64 hi] w fun e w' => e = .returned (.bool (inR v lo hi)) ∧ w = w' := by
  have HB : Hid (inR v lo hi = (decide (lo ≤ v) && decide (v ≤ hi))) := Lib.hid rfl
  rcases Bool.eq_false_or_eq_true (decide (lo ≤ v)) with h | h
  all_goals
    rw [h] at HB
    go_enter Tryd.func40, Tryd.ntmps40
    go_wp2
    go_ret
    exact ⟨ret_bool (by rw [HB.out]; first | rfl | simp), rfl⟩

set_option maxRecDepth 100000 in
set_option maxHeartbeats 2000000 in
theorem Near_any (a : Option Addr) (m cap : Nat) (es : List (Int × Int)) (x y : Int) (w : World) (hl : es.length = m) (hm : m ≤ 1000) (he : Edges w a es) :
    Calls Tryd.prog 41 #[.slice a m cap, .int .i64 x, .int .i64 y] w fun e w' => e = .returned (.bool (nearB es x y)) ∧ w = w' := by
  have HX := Lib.hid he
  have HL := Lib.hid hl
  clear he hl
  go_enter Tryd.func41, Tryd.ntmps41
  go_wp2
  go_loop [7] (fun i => ∃ k : Nat, k ≤ m ∧ i = .int .i64 k ∧ (es.take k).any (pairAt x y) = false) (fun i => m - (intOf i).toNat)
  case atStart => exact ⟨0, Nat.zero_le _, rfl, by simp⟩
  case round =>
    obtain ⟨k, hk, rfl, hany⟩ := hrel
    have HA := Lib.hid hany
    clear hany
    by_cases hlt : k < m
    · have hkL : k < es.length := by rw [HL.out]; exact hlt
      rcases HX.out with h | ⟨b, off, rfl, hc⟩
      · subst h; simp at hkL
      obtain ⟨c0, c1⟩ := hc k hkL
      have e0 : es[k]?.getD (0, 0) = es[k] := by simp [hkL]
      rw [e0] at c0 c1
      have HP : Hid (pairAt x y es[k] = true ↔ es[k].1 = min x y ∧ es[k].2 = max x y ∧ x ≠ y) := Lib.hid pairAt_iff
      have HN : Hid (pairAt x y es[k] = false → (es.take (k + 1)).any (pairAt x y) = false) := Lib.hid (any_next _ _ k hkL HA.out)
      have HH : Hid (pairAt x y es[k] = true → nearB es x y = true) := Lib.hid (any_here _ _ k hkL)
      obtain ⟨p, hp⟩ : ∃ p, pairAt x y es[k] = p := ⟨_, rfl⟩
      rw [hp] at HP HN HH
      obtain ⟨A, hA⟩ : ∃ A, es[k].1 = A := ⟨_, rfl⟩
      obtain ⟨B, hB⟩ : ∃ B, es[k].2 = B := ⟨_, rfl⟩
      rw [hA, hB] at HP
      rw [hA] at c0
      rw [hB] at c1
      clear hc e0 hp hA hB
      by_cases q3 : x = y
      · have q4 : (x != y) = false := by simp [q3]
        have Q3 := Lib.hid q3
        clear q3
        go_wp2
        all_goals
          go_round
          case rel => exact ⟨k + 1, by omega, by go_num, HN.out (by rw [← Bool.not_eq_true, HP.out]; exact fun h => h.2.2 Q3.out)⟩
          case measure => simp [intOf]; omega
      · have q4 : (x != y) = true := by simp [q3]
        go_wp2
        all_goals first
          | (go_ret
             exact ⟨ret_bool (HH.out (HP.out.2 (by omega))).symm, rfl⟩)
          | (go_round
             case rel => exact ⟨k + 1, by omega, by go_num, HN.out (by rw [← Bool.not_eq_true, HP.out]; omega)⟩
             case measure => simp [intOf]; omega)
    · go_wp2
      go_ret
      obtain rfl : k = m := by omega
      have := HA.out
      rw [List.take_of_length_le (by rw [HL.out]; exact Nat.le_refl _)] at this
      exact ⟨ret_bool this.symm, rfl⟩

/-- One row of the reference's 'Clique'. -/
def nearRow (es : List (Int × Int)) (l : List Int) (i : Nat) : Bool := (List.range i).all fun k => nearB es (l[i]?.getD 0) (l[k]?.getD 0)
theorem cliqueR_rows (es : List (Int × Int)) (l : List Int) : cliqueR es l = (List.range l.length).all (nearRow es l) := rfl

set_option maxRecDepth 100000 in
set_option maxHeartbeats 2000000 in
theorem Clique_any (a aL : Option Addr) (m cap n cL : Nat) (es : List (Int × Int)) (l : List Int) (w : World) (hl : es.length = m) (hm : m ≤ 1000) (he : Edges w a es) (hn : l.length = n) (hn2 : n ≤ 1000) (hz : Ints w aL l) :
    Calls Tryd.prog 21 #[.slice a m cap, .slice aL n cL] w fun e w' => e = .returned (.bool (cliqueR es l)) ∧ Below w.heap.size w w' := by
  have HE := Lib.hid he
  have HEL := Lib.hid hl
  have HX := Lib.hid hz.at
  have HN := Lib.hid hn
  clear he hl hz hn
  go_enter Tryd.func21, Tryd.ntmps21
  go_wp2
  go_loopw [5, 6] (fun i _ wr => ∃ k : Nat, k ≤ n ∧ i = .int .i64 k ∧ (List.range k).all (nearRow es l) = true ∧ Below w.heap.size w wr) (fun i _ _ => n - (intOf i).toNat)
  case atStart => exact ⟨0, Nat.zero_le _, rfl, rfl, Below.refl _ _⟩
  case round =>
    obtain ⟨k, hk, rfl, hall, hb⟩ := hrel
    have HA := Lib.hid hall
    have HB := Lib.hid hb
    clear hall hb
    rename World => w1
    by_cases hlt : k < n
    · have hkL : k < l.length := by rw [HN.out]; exact hlt
      rcases HX.out with h | ⟨b, off, rfl, hc⟩
      · subst h; simp at hkL
      have HC := Lib.hid hc
      clear hc
      have HR : Hid (nearRow es l k = (List.range k).all fun j => nearB es (l[k]?.getD 0) (l[j]?.getD 0)) := Lib.hid rfl
      go_wp2
      go_loopw [6] (fun i wr => ∃ j : Nat, j ≤ k ∧ i = .int .i64 j ∧ ((List.range j).all fun j => nearB es (l[k]?.getD 0) (l[j]?.getD 0)) = true ∧ Below w.heap.size w wr) (fun i _ => k - (intOf i).toNat)
      case atStart => exact ⟨0, Nat.zero_le _, rfl, rfl, HB.out⟩
      case round =>
        obtain ⟨j, hjk, rfl, hall2, hb2⟩ := hrel
        have HA2 := Lib.hid hall2
        have HB2 := Lib.hid hb2
        clear hall2 hb2
        by_cases hlt2 : j < k
        · have hcj := HC.out j (by omega)
          have hck := HC.out k hkL
          have c0 := (HB2.out.cell (p := ⟨b, off + k, none⟩) (World.block_lt_of_cell? w _ hck)).trans hck
          have c1 := (HB2.out.cell (p := ⟨b, off + j, none⟩) (World.block_lt_of_cell? w _ hcj)).trans hcj
          clear hcj hck
          have HP : Hid (nearB es (l[k]?.getD 0) (l[j]?.getD 0) = true → ((List.range (j + 1)).all fun j => nearB es (l[k]?.getD 0) (l[j]?.getD 0)) = true) := Lib.hid (range_next (fun j => nearB es (l[k]?.getD 0) (l[j]?.getD 0)) j HA2.out)
          have HF : Hid (nearB es (l[k]?.getD 0) (l[j]?.getD 0) = false → ((List.range k).all fun j => nearB es (l[k]?.getD 0) (l[j]?.getD 0)) = false) := Lib.hid (range_false (fun j => nearB es (l[k]?.getD 0) (l[j]?.getD 0)) k j hlt2)
          have HNr := fun (q : Nat) => Near_any a m cap es (l[k]?.getD 0) (l[j]?.getD 0) (wr.drewN q) HEL.out hm (HE.out.below (below_drewN HB2.out q))
          obtain ⟨z, hz⟩ : ∃ z, l[k]?.getD 0 = z := ⟨_, rfl⟩
          obtain ⟨y, hy⟩ : ∃ y, l[j]?.getD 0 = y := ⟨_, rfl⟩
          rw [hz] at c0
          rw [hy] at c1
          rw [hz, hy] at HNr
          rw [hy] at HP HF
          rw [hz] at HP HF
          obtain ⟨q, hq⟩ : ∃ q, nearB es z y = q := ⟨_, rfl⟩
          rw [hq] at HNr HP HF
          have HH := Lib.hid HNr
          have HZ := Lib.hid hz
          clear hz hy hq HNr
          cases q with
          | true =>
            go_wp2
            go_quiet (exact quiet_same (HH.out _))
            go_wp2
            go_roundw
            case rel => exact ⟨j + 1, by omega, by go_num, by rw [HZ.out]; exact HP.out (by trivial), below_drewN HB2.out _⟩
            case measure => simp [intOf]; omega
          | false =>
            go_wp2
            go_quiet (exact quiet_same (HH.out _))
            go_wp2
            go_ret
            refine ⟨ret_bool (Eq.symm ?_), below_drewN HB2.out _⟩
            rw [cliqueR_rows]
            exact range_false _ _ k hkL (by rw [HR.out, HZ.out]; exact HF.out (by trivial))
        · obtain rfl : j = k := by omega
          go_wp2
          go_roundw
          case rel => exact ⟨j + 1, by omega, by go_num, range_next _ _ HA.out (by rw [HR.out]; exact HA2.out), HB2.out⟩
          case measure => simp [intOf]; omega
    · go_wp2
      go_ret
      obtain rfl : k = n := by omega
      refine ⟨ret_bool (Eq.symm ?_), HB.out⟩
      rw [cliqueR_rows, HN.out]
      exact HA.out

end Go.Proofs.YthlbedhjekbfpaaDoor
