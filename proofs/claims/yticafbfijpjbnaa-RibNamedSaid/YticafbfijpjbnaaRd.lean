/-
  The walk of 'eliminable': the least node that can be eliminated.
-/
import Derived.Test.YticafbfijpjbnaaRc
namespace Go.Proofs.Yticafbfijpjbnaa
open Go.RowKit Go.Sort

/-- Whether a node of a set can be eliminated from it. -/
def elimAt (gs : List Nat) (left v : Nat) : Bool := left.testBit v && cliqueB gs (gs[v]?.getD 0 &&& left)
/-- The least such node. -/
def elimOf (gs : List Nat) (left : Nat) : Option Nat := (List.range gs.length).find? (elimAt gs left)
theorem find_next (p : Nat → Bool) (k : Nat) (h : (List.range k).find? p = none) (hp : p k = false) : (List.range (k + 1)).find? p = none := by
  rw [List.range_succ, List.find?_append, h]; simp [hp]
theorem find_here (p : Nat → Bool) (n k : Nat) (h : (List.range k).find? p = none) (hk : k < n) (hp : p k = true) : (List.range n).find? p = some k := by
  have e : n = k + (n - k) := by omega
  rw [e, List.range_add, List.find?_append, h]
  obtain ⟨d, hd⟩ : ∃ d, n - k = d + 1 := ⟨n - k - 1, by omega⟩
  rw [hd, List.range_succ_eq_map]
  simp [hp]
/-- What 'eliminable' answers. -/
def elimVal : Option Nat → Ending
  | some v => .returned (.tuple #[.int .i64 (v : Int), .bool true])
  | none => .returned (.tuple #[.int .i64 0, .bool false])

set_option maxHeartbeats 1000000 in
theorem eliminable_any (a : Option Addr) (n cap left : Nat) (gs : List Nat) (w : World) (hn : gs.length = n) (hm : n ≤ 12) (hs : left < 65536) (hg : ∀ i, i < n → gs[i]?.getD 0 < 65536) (hz : Sets w a gs) :
    Calls Try.prog 89 #[.slice a n cap, .int .u16 left] w fun e w' => e = elimVal (elimOf gs left) ∧ w = w' := by
  have HX := Lib.hid hz.at
  have HZ := Lib.hid hz
  have HN := Lib.hid hn
  have HG := Lib.hid hg
  clear hz hn hg
  go_enter Try.func89, Try.ntmps89
  go_wp2
  go_loop [9] (fun i => ∃ k : Nat, k ≤ n ∧ i = .int .i64 k ∧ (List.range k).find? (elimAt gs left) = none) (fun i => n - (intOf i).toNat)
  case atStart => exact ⟨0, Nat.zero_le _, rfl, rfl⟩
  case round =>
    obtain ⟨k, hk, rfl, hall⟩ := hrel
    have HA := Lib.hid hall
    clear hall
    by_cases hlt : k < n
    · have hkL : k < gs.length := by rw [HN.out]; exact hlt
      rcases HX.out with h | ⟨b, off, rfl, hc⟩
      · subst h; simp at hkL
      have cc := hc k hkL
      have hgk := HG.out k hlt
      have HC : Hid (elimAt gs left k = (left.testBit k && cliqueB gs (gs[k]?.getD 0 &&& left))) := Lib.hid rfl
      obtain ⟨y, hy⟩ : ∃ y, gs[k]?.getD 0 = y := ⟨_, rfl⟩
      rw [hy] at cc hgk HC
      have hyl : y &&& left < 65536 := Nat.lt_of_le_of_lt Nat.and_le_left hgk
      have HB : Hid (bits .and .u16 (y : Int) (left : Int) = ((y &&& left : Nat) : Int)) := Lib.hid (u16_and_nat _ _ hgk hs)
      have H1 := Lib.hid (fun wx => has_any left k wx hs (by omega))
      have H2 := Lib.hid (isClique_any (some ⟨b, off, none⟩) n cap (y &&& left) gs w HN.out hm hyl HG.out HZ.out)
      have HF := Lib.hid (fun hp => find_here (elimAt gs left) gs.length k HA.out hkL hp)
      clear hc hy hkL hyl
      cases h1 : left.testBit k with
      | false =>
        rw [h1] at H1 HC
        clear h1
        go_wp2_with (first
          | (go_at_call 67; refine (H1.out _).mono ?_; rintro e w' ⟨rfl, rfl⟩))
        go_round
        case rel => exact ⟨k + 1, by omega, by go_num, find_next _ _ HA.out (by rw [HC.out]; rfl)⟩
        case measure => simp [intOf]; omega
      | true =>
        rw [h1] at H1 HC
        clear h1
        cases h2 : cliqueB gs (y &&& left) with
        | false =>
          rw [h2] at H2 HC
          clear h2
          go_wp2_with (first
            | (go_at_call 67; refine (H1.out _).mono ?_; rintro e w' ⟨rfl, rfl⟩)
            | (go_at_call 69; rw [HB.out]; refine H2.out.mono ?_; rintro e w' ⟨rfl, rfl⟩))
          go_round
          case rel => exact ⟨k + 1, by omega, by go_num, find_next _ _ HA.out (by rw [HC.out]; rfl)⟩
          case measure => simp [intOf]; omega
        | true =>
          rw [h2] at H2 HC
          clear h2
          go_wp2_with (first
            | (go_at_call 67; refine (H1.out _).mono ?_; rintro e w' ⟨rfl, rfl⟩)
            | (go_at_call 69; rw [HB.out]; refine H2.out.mono ?_; rintro e w' ⟨rfl, rfl⟩))
          go_ret2
          exact ⟨by rw [elimOf, HF.out (by rw [HC.out]; rfl)]; rfl, rfl⟩
    · go_wp2
      go_ret2
      have hk' : k = gs.length := by rw [HN.out]; omega
      subst hk'
      exact ⟨by rw [elimOf, HA.out]; rfl, rfl⟩

end Go.Proofs.Yticafbfijpjbnaa
