/-
  The walks of 'areNodes', 'isPermutation', 'isEliminatedBy', 'eliminable'.
-/
import Derived.Test.YticafbfijpjbnaaRb
namespace Go.Proofs.Yticafbfijpjbnaa
open Go.RowKit Go.Sort

def nodeB (n : Nat) (z : Int) : Bool := decide (0 ≤ z) && decide (z < n)
theorem all_take_next {α : Type} (p : α → Bool) (l : List α) (k : Nat) (h : k < l.length) (ha : (l.take k).all p = true) (hp : p l[k] = true) : (l.take (k + 1)).all p = true := by
  rw [List.take_succ_eq_append_getElem h, List.all_append, ha]; simp [hp]
theorem all_at_false {α : Type} (p : α → Bool) (l : List α) (k : Nat) (h : k < l.length) (hp : p l[k] = false) : l.all p = false := by
  rw [Bool.eq_false_iff]; intro hc
  rw [List.all_eq_true] at hc
  have := hc _ (List.getElem_mem h)
  rw [hp] at this; cases this

set_option maxHeartbeats 1000000 in
theorem areNodes_any (a aO : Option Addr) (n cap m cO : Nat) (os : List Int) (w : World) (hl : os.length = m) (hm : m ≤ 1000) (_hn : n ≤ 12) (hz : Ints w aO os) :
    Calls Try.prog 42 #[.slice a n cap, .slice aO m cO] w fun e w' => e = .returned (.bool (os.all (nodeB n))) ∧ w = w' := by
  have HX := Lib.hid hz.at
  have HN := Lib.hid hl
  clear hz hl
  go_enter Try.func42, Try.ntmps42
  go_wp2
  go_loop [9] (fun i => ∃ k : Nat, k ≤ m ∧ i = .int .i64 k ∧ (os.take k).all (nodeB n) = true) (fun i => m - (intOf i).toNat)
  case atStart => exact ⟨0, Nat.zero_le _, rfl, by simp⟩
  case round =>
    obtain ⟨k, hk, rfl, hall⟩ := hrel
    have HA := Lib.hid hall
    clear hall
    by_cases hlt : k < m
    · have hkL : k < os.length := by rw [HN.out]; exact hlt
      rcases HX.out with h | ⟨b, off, rfl, hc⟩
      · subst h; simp at hkL
      have cc := hc k hkL
      have e0 : os[k]?.getD 0 = os[k] := by simp [hkL]
      rw [e0] at cc
      obtain ⟨z, hzz⟩ : ∃ z, os[k] = z := ⟨_, rfl⟩
      rw [hzz] at cc
      have HZ := Lib.hid hzz
      clear hc e0 hzz
      go_wp2
      case roundEnd =>
        go_round
        case rel => exact ⟨k + 1, by omega, by go_num, all_take_next _ _ k hkL HA.out (by rw [HZ.out]; simp [nodeB]; omega)⟩
        case measure => simp [intOf]; omega
      all_goals
        go_ret
        exact ⟨ret_bool (Eq.symm (all_at_false _ _ k hkL (by rw [HZ.out]; simp [nodeB]; omega))), rfl⟩
    · go_wp2
      go_ret
      have hk' : k = os.length := by rw [HN.out]; omega
      subst hk'
      have := HA.out
      rw [List.take_length] at this
      exact ⟨ret_bool this.symm, rfl⟩

theorem nodes_nat {n : Nat} {os : List Int} (h : os.all (nodeB n) = true) : os = (os.map Int.toNat).map (fun (x : Nat) => (x : Int)) ∧ ∀ x ∈ os.map Int.toNat, x < n := by
  rw [List.all_eq_true] at h
  refine ⟨?_, fun x hx => ?_⟩
  · rw [List.map_map]
    conv => lhs; rw [← List.map_id os]
    refine List.map_congr_left fun z hz => ?_
    have := h z hz
    simp only [nodeB, Bool.and_eq_true, decide_eq_true_eq] at this
    simp only [id, Function.comp]; omega
  · obtain ⟨z, hz, rfl⟩ := List.mem_map.1 hx
    have := h z hz
    simp only [nodeB, Bool.and_eq_true, decide_eq_true_eq] at this
    omega

/-- Whether numbers are each node once. -/
def permG (n : Nat) (os : List Int) : Bool := decide (os.length = n) && (os.all (nodeB n) && (setN' (os.map Int.toNat) == 2 ^ n - 1))
theorem pow_small {n : Nat} (hn : n ≤ 12) : 2 ^ n - 1 < 65536 := by
  have := Nat.pow_le_pow_right (n := 2) (by omega) hn
  omega

set_option maxHeartbeats 1000000 in
theorem isPermutation_any (a aO : Option Addr) (n cap m cO : Nat) (os : List Int) (w : World) (hl : os.length = m) (hm : m ≤ 1000) (hn : n ≤ 12) (hz : Ints w aO os) :
    Calls Try.prog 40 #[.slice a n cap, .slice aO m cO] w fun e w' => e = .returned (.bool (permG n os)) ∧ w = w' := by
  have H1 := Lib.hid (areNodes_any a aO n cap m cO os w hl hm hn hz)
  have HE : Hid (permG n os = (decide (m = n) && (os.all (nodeB n) && (setN' (os.map Int.toNat) == 2 ^ n - 1)))) := Lib.hid (by rw [permG, hl])
  have H3 := Lib.hid (nodes_any a n cap w hn)
  by_cases hmn : m = n
  · have g1 : ((m : Int) == (n : Int)) = true := by rw [beq_iff_eq]; omega
    rw [decide_eq_true hmn, Bool.true_and] at HE
    rcases Bool.eq_false_or_eq_true (os.all (nodeB n)) with h | h
    · obtain ⟨e1, e2⟩ := nodes_nat h
      have H2 := Lib.hid (setOf_any aO m cO (os.map Int.toNat) w (by simpa using hl) hm (fun i hi => by have := e2 i hi; omega) (by rw [← e1]; exact hz))
      rw [h] at H1
      rw [h, Bool.true_and] at HE
      have hS := setN'_lt (os.map Int.toNat) (fun i hi => by have := e2 i hi; omega)
      obtain ⟨S, hSS⟩ : ∃ S, setN' (os.map Int.toNat) = S := ⟨_, rfl⟩
      rw [hSS] at H2 HE
      obtain ⟨F, hF⟩ : ∃ F, 2 ^ n - 1 = F := ⟨_, rfl⟩
      rw [hF] at H3 HE
      have HB : Hid (((S : Int) == (F : Int)) = (S == F)) := Lib.hid (by rw [Bool.eq_iff_iff, beq_iff_eq, beq_iff_eq]; omega)
      clear hz hl h e1 e2 hmn hSS hF hS
      go_enter Try.func40, Try.ntmps40
      go_wp2_with (first
        | (go_at_call 42; refine H1.out.mono ?_; rintro e w' ⟨rfl, rfl⟩)
        | (go_at_call 66; refine H2.out.mono ?_; rintro e w' ⟨rfl, rfl⟩)
        | (go_at_call 68; refine H3.out.mono ?_; rintro e w' ⟨rfl, rfl⟩))
      go_ret
      exact ⟨ret_bool (by rw [HE.out, ← HB.out]), rfl⟩
    · rw [h] at H1
      rw [h, Bool.false_and] at HE
      clear hz hl h hmn
      go_enter Try.func40, Try.ntmps40
      go_wp2_with (go_at_call 42; refine H1.out.mono ?_; rintro e w' ⟨rfl, rfl⟩)
      go_ret
      exact ⟨ret_bool HE.out.symm, rfl⟩
  · have g1 : ((m : Int) == (n : Int)) = false := by rw [beq_eq_false_iff_ne]; omega
    rw [decide_eq_false hmn, Bool.false_and] at HE
    clear hz hl hmn
    go_enter Try.func40, Try.ntmps40
    go_wp2
    go_ret
    exact ⟨ret_bool HE.out.symm, rfl⟩

/-- Whether an order eliminates what is left, node by node. -/
def elimFrom (gs : List Nat) : Nat → List Nat → Bool
  | _, [] => true
  | left, v :: O => cliqueB gs (gs[v]?.getD 0 &&& left) && elimFrom gs (left &&& (65535 - 2 ^ v)) O

set_option maxRecDepth 100000 in
set_option maxHeartbeats 2000000 in
theorem isEliminatedBy_any (a aO : Option Addr) (n cap m cO : Nat) (gs O : List Nat) (w : World) (hn : gs.length = n) (hm : n ≤ 12) (hg : ∀ i, i < n → gs[i]?.getD 0 < 65536) (hz : Sets w a gs) (hl : O.length = m) (hmm : m ≤ 1000) (hv : ∀ x ∈ O, x < n) (hO : Ints w aO (O.map fun (x : Nat) => (x : Int))) :
    Calls Try.prog 41 #[.slice a n cap, .slice aO m cO] w fun e w' => e = .returned (.bool (elimFrom gs (2 ^ n - 1) O)) ∧ Below w.heap.size w w' := by
  have HX := Lib.hid hz
  have HXa := Lib.hid hz.at
  have HN := Lib.hid hn
  have HG := Lib.hid hg
  have HY := Lib.hid hO.at
  have HL := Lib.hid hl
  have HV := Lib.hid hv
  have H3 := Lib.hid (nodes_any a n cap w hm)
  have hF := pow_small hm
  obtain ⟨F, hFF⟩ : ∃ F, 2 ^ n - 1 = F := ⟨_, rfl⟩
  rw [hFF] at H3 hF ⊢
  clear hz hn hg hO hl hv hFF
  go_enter Try.func41, Try.ntmps41
  go_wp2_with (go_at_call 68; refine H3.out.mono ?_; rintro e w' ⟨rfl, rfl⟩)
  go_loopw [5, 12] (fun s i wr => ∃ k left : Nat, k ≤ m ∧ i = .int .i64 k ∧ s = .int .u16 left ∧ left < 65536 ∧ Hid (elimFrom gs F O = elimFrom gs left (O.drop k)) ∧ Below w.heap.size w wr) (fun _ i _ => m - (intOf i).toNat)
  case atStart => exact ⟨0, F, Nat.zero_le _, rfl, rfl, hF, Lib.hid rfl, Below.refl _ _⟩
  case round =>
    obtain ⟨k, left, hk, rfl, rfl, hlf, hE, hb⟩ := hrel
    have HB := Lib.hid hb
    clear hb
    by_cases hlt : k < m
    · have hkL : k < O.length := by rw [HL.out]; exact hlt
      rcases HY.out with h | ⟨b, off, rfl, hc⟩
      · rw [List.map_eq_nil_iff] at h; subst h; simp at hkL
      have cc := hc k (by simpa using hkL)
      have e0 : (O.map fun (x : Nat) => (x : Int))[k]?.getD 0 = ((O[k] : Nat) : Int) := by simp [hkL]
      rw [e0] at cc
      replace cc := (HB.out.cell (p := ⟨b, off + k, none⟩) (World.block_lt_of_cell? w _ cc)).trans cc
      have hvn := HV.out _ (List.getElem_mem hkL)
      have HD := Lib.hid (List.drop_eq_getElem_cons hkL)
      obtain ⟨v, hvv⟩ : ∃ v, O[k] = v := ⟨_, rfl⟩
      rw [hvv] at cc hvn HD
      rcases HXa.out with h | ⟨bg, og, rfl, hcg⟩
      · have := HN.out; subst h; simp at this; omega
      have cg := hcg v (by rw [HN.out]; exact hvn)
      replace cg := (HB.out.cell (p := ⟨bg, og + v, none⟩) (World.block_lt_of_cell? w _ cg)).trans cg
      have hgv := HG.out v hvn
      have HS : Hid (elimFrom gs F O = (cliqueB gs (gs[v]?.getD 0 &&& left) && elimFrom gs (left &&& (65535 - 2 ^ v)) (O.drop (k + 1)))) := Lib.hid (by rw [hE.out, HD.out, elimFrom])
      obtain ⟨y, hy⟩ : ∃ y, gs[v]?.getD 0 = y := ⟨_, rfl⟩
      rw [hy] at cg hgv HS
      have hyl : y &&& left < 65536 := Nat.lt_of_le_of_lt Nat.and_le_left hgv
      have HA : Hid (bits .and .u16 (y : Int) (left : Int) = ((y &&& left : Nat) : Int)) := Lib.hid (u16_and_nat _ _ hgv hlf)
      have H1 := Lib.hid (isClique_any (some ⟨bg, og, none⟩) n cap (y &&& left) gs wr HN.out hm hyl HG.out (HX.out.below HB.out))
      obtain ⟨q, hq⟩ : ∃ q, cliqueB gs (y &&& left) = q := ⟨_, rfl⟩
      rw [hq] at H1 HS
      clear hc hcg e0 hvv hy hq hkL hyl
      cases q with
      | true =>
        rw [Bool.true_and] at HS
        have hp2 : 2 ^ v < 65536 := Nat.pow_lt_pow_right (m := v) (n := 16) (by omega) (by omega)
        have HS1 := Lib.hid (fun (wx : World) (hb : wr.heap.size = wx.heap.size) => setOf_any (some ⟨wx.heap.size, 0, none⟩) 1 1 [v] (wx.alloc (.cells #[.int .i64 (v : Int)] 3)) rfl (by omega) (by simp; omega) (fun i hi => ⟨wx.heap.size, 0, rfl, by
          have : i = 0 := by simpa using hi
          subst this
          exact World.cell?_alloc_at _ _ _ _ rfl⟩))
        have HAN : Hid (bits .andNot .u16 (left : Int) ((setN' [v] : Nat) : Int) = ((left &&& (65535 - 2 ^ v) : Nat) : Int)) := Lib.hid (by
          have e : setN' [v] = 2 ^ v := by simp [setN']
          rw [e, u16_andNot_nat _ _ hlf hp2])
        have hnl : left &&& (65535 - 2 ^ v) < 65536 := Nat.lt_of_le_of_lt Nat.and_le_left hlf
        clear hp2
        go_wp2_with (first
          | (go_at_call 69; rw [HA.out]; refine H1.out.mono ?_; rintro e w' ⟨rfl, rfl⟩)
          | (go_at_call 66; refine (HS1.out wr rfl).mono ?_; rintro e w' ⟨rfl, rfl⟩))
        go_roundw
        case rel => exact ⟨k + 1, left &&& (65535 - 2 ^ v), by omega, by go_num, by rw [HAN.out], hnl, HS, HB.out.alloc HB.out.size _⟩
        case measure => simp [intOf]; omega
      | false =>
        rw [Bool.false_and] at HS
        go_wp2_with (go_at_call 69; rw [HA.out]; refine H1.out.mono ?_; rintro e w' ⟨rfl, rfl⟩)
        go_ret
        exact ⟨ret_bool HS.out.symm, HB.out⟩
    · go_wp2
      go_ret
      refine ⟨ret_bool (Eq.symm ?_), HB.out⟩
      rw [hE.out, List.drop_eq_nil_of_le (by rw [HL.out]; omega), elimFrom]

end Go.Proofs.Yticafbfijpjbnaa
