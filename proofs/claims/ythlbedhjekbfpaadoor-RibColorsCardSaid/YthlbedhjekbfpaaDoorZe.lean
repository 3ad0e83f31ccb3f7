/-
  The walks of 'rising' and of the reference's 'Free', 'Has' and 'Most'.
-/
import Derived.Test.YthlbedhjekbfpaaDoorTe
namespace Go.Proofs.YthlbedhjekbfpaaDoor
open Go.RowKit Go.Sort

def hasNot (v : Int) (z : Int) : Bool := !(z == v)
def hasB (l : List Int) (v : Int) : Bool := !(l.all (hasNot v))
theorem hasB_mem {l : List Int} {v : Int} : hasB l v = true ↔ v ∈ l := by
  unfold hasB hasNot
  rw [Bool.not_eq_true', ← Bool.not_eq_true, List.all_eq_true]
  constructor
  · intro h
    refine Classical.byContradiction fun hn => h fun x hx => ?_
    have : x ≠ v := fun e => hn (e ▸ hx)
    simpa using this
  · intro h k
    have := k v h
    simp at this

set_option maxRecDepth 100000 in
set_option maxHeartbeats 2000000 in
theorem Has_any (aL : Option Addr) (n cL : Nat) (l : List Int) (v : Int) (w : World) (hn : l.length = n) (hn2 : n ≤ 1000) (hz : Ints w aL l) :
    Calls Tryd.prog 20 #[.slice aL n cL, .int .i64 v] w fun e w' => e = .returned (.bool (hasB l v)) ∧ w = w' := by
  have HX := Lib.hid hz.at
  have HN := Lib.hid hn
  have HD : Hid (hasB l v = !(l.all (hasNot v))) := Lib.hid rfl
  clear hz hn
  go_enter Tryd.func20, Tryd.ntmps20
  go_wp2
  go_loopw [5] (fun i wr => ∃ k : Nat, k ≤ n ∧ i = .int .i64 k ∧ Hid ((l.take k).all (hasNot v) = true) ∧ w = wr) (fun i _ => n - (intOf i).toNat)
  case atStart => exact ⟨0, Nat.zero_le _, rfl, Lib.hid rfl, rfl⟩
  case round =>
    obtain ⟨k, hk, rfl, HA, rfl⟩ := hrel
    by_cases hlt : k < n
    · have hkL : k < l.length := by rw [HN.out]; exact hlt
      rcases HX.out with h | ⟨b, off, rfl, hc⟩
      · subst h; simp at hkL
      have c0 := hc k hkL
      have HNX := Lib.hid (all_take_next (hasNot v) l k hkL HA.out)
      have HST := Lib.hid (all_at_false (hasNot v) l k hkL)
      rw [List.getElem?_eq_getElem hkL] at c0
      obtain ⟨z, hz⟩ : ∃ z, l[k] = z := ⟨_, rfl⟩
      rw [hz] at HNX HST
      simp only [hz, Option.getD_some] at c0
      have hkn : (k : Int) < (n : Int) := by omega
      clear hc hz
      by_cases hzv : z = v
      · have HF := Lib.hid (HST.out (by simp [hasNot, hzv]))
        go_wp2
        go_ret
        exact ⟨ret_bool (by rw [HD.out, HF.out]; rfl), rfl⟩
      · have HF := Lib.hid (HNX.out (by simpa [hasNot] using hzv))
        go_wp2
        go_roundw
        case rel => exact ⟨k + 1, by omega, by go_num, HF, trivial⟩
        case measure => simp [intOf]; omega
    · obtain rfl : k = n := by omega
      go_wp2
      go_ret
      refine ⟨ret_bool ?_, rfl⟩
      have := HA.out
      rw [List.take_of_length_le (by rw [HN.out]; exact Nat.le_refl _)] at this
      rw [HD.out, this]; rfl

/-- A list that rises, of nodes. -/
def RiseP (l : List Int) (n : Int) : Prop := ∀ i, i < l.length → 0 ≤ l[i]?.getD 0 ∧ l[i]?.getD 0 < n ∧ (0 < i → l[i - 1]?.getD 0 < l[i]?.getD 0)
set_option maxRecDepth 100000 in
set_option maxHeartbeats 2000000 in
theorem rising_yes (aL : Option Addr) (n cL : Nat) (l : List Int) (N : Int) (w : World) (hn : l.length = n) (hn2 : n ≤ 1000) (hz : Ints w aL l) (hr : RiseP l N) :
    Calls Tryd.prog 17 #[.slice aL n cL, .int .i64 N] w fun e w' => e = .returned (.bool true) ∧ ∃ m, w' = w.drewN m := by
  have HX := Lib.hid hz.at
  have HN := Lib.hid hn
  have HR := Lib.hid hr
  clear hz hn hr
  go_enter Tryd.func17, Tryd.ntmps17
  go_wp2
  go_loopw [5] (fun i wr => ∃ k : Nat, k ≤ n ∧ i = .int .i64 k ∧ ∃ m, wr = w.drewN m) (fun i _ => n - (intOf i).toNat)
  case atStart => exact ⟨0, Nat.zero_le _, rfl, 0, rfl⟩
  case round =>
    obtain ⟨k, hk, rfl, md, hmd⟩ := hrel
    have HM := Lib.hid hmd
    have HB : Hid (Below w.heap.size w wr) := Lib.hid (by rw [hmd]; exact below_drewN (Below.refl _ _) _)
    clear hmd
    by_cases hlt : k < n
    · have hkL : k < l.length := by rw [HN.out]; exact hlt
      rcases HX.out with h | ⟨b, off, rfl, hc⟩
      · subst h; simp at hkL
      have c0 := (HB.out.cell (p := ⟨b, off + k, none⟩) (World.block_lt_of_cell? w _ (hc k hkL))).trans (hc k hkL)
      obtain ⟨r1, r2, r3⟩ := HR.out k hkL
      have hkn : (k : Int) < (n : Int) := by omega
      by_cases h0 : k = 0
      · have hk0 : decide (0 < k) = false := decide_eq_false (by omega)
        obtain ⟨z, hz⟩ : ∃ z, l[k]?.getD 0 = z := ⟨_, rfl⟩
        rw [hz] at c0 r1 r2
        have z3 : decide (z < 0) = false := decide_eq_false (by omega)
        have z4 : decide (N ≤ z) = false := decide_eq_false (by omega)
        clear hc r3 hz r1 r2 h0
        go_wp2
        go_quiet (fail)
        go_wp2
        go_roundw
        case rel => exact ⟨k + 1, by omega, by go_num, md + nq, by rw [HM.out, World.drewN_drewN]⟩
        case measure => simp [intOf]; omega
      · have hk1 : k - 1 < l.length := by omega
        have c1 := (HB.out.cell (p := ⟨b, off + (k - 1), none⟩) (World.block_lt_of_cell? w _ (hc (k - 1) hk1))).trans (hc (k - 1) hk1)
        have r4 := r3 (by omega)
        obtain ⟨z, hz⟩ : ∃ z, l[k]?.getD 0 = z := ⟨_, rfl⟩
        obtain ⟨y, hy⟩ : ∃ y, l[k - 1]?.getD 0 = y := ⟨_, rfl⟩
        rw [hz] at c0 r1 r2 r4
        rw [hy] at c1 r4
        have hk0 : decide (0 < k) = true := decide_eq_true (by omega)
        have hjn : (k : Int) - 1 < (n : Int) := by omega
        have hj0 : 0 ≤ (k : Int) - 1 := by omega
        have z3 : decide (z < 0) = false := decide_eq_false (by omega)
        have z4 : decide (N ≤ z) = false := decide_eq_false (by omega)
        have z5 : decide (z ≤ y) = false := decide_eq_false (by omega)
        have htn : ((k : Int) - 1).toNat = k - 1 := by omega
        clear hc r3 hz hy h0 hk1 r1 r2 r4
        go_wp2
        go_quiet (fail)
        go_wp2
        go_roundw
        case rel => exact ⟨k + 1, by omega, by go_num, md + nq, by rw [HM.out, World.drewN_drewN]⟩
        case measure => simp [intOf]; omega
    · obtain rfl : k = n := by omega
      go_wp2
      go_ret
      exact ⟨rfl, md, HM.out⟩

/-- No two of a list are one, or neighbours. -/
def FreeP (es : List (Int × Int)) (l : List Int) : Prop := ∀ i k, i < l.length → k < i → l[k]?.getD 0 ≠ l[i]?.getD 0 ∧ nearB es (l[i]?.getD 0) (l[k]?.getD 0) = false
set_option maxRecDepth 100000 in
set_option maxHeartbeats 2000000 in
theorem Free_yes (a aL : Option Addr) (m cap n cL : Nat) (es : List (Int × Int)) (l : List Int) (w : World) (hl : es.length = m) (hm : m ≤ 1000) (he : Edges w a es) (hn : l.length = n) (hn2 : n ≤ 1000) (hz : Ints w aL l) (hf : FreeP es l) :
    Calls Tryd.prog 18 #[.slice a m cap, .slice aL n cL] w fun e w' => e = .returned (.bool true) ∧ Below w.heap.size w w' := by
  have HE := Lib.hid he
  have HEL := Lib.hid hl
  have HX := Lib.hid hz.at
  have HN := Lib.hid hn
  have HF := Lib.hid hf
  clear he hl hz hn hf
  go_enter Tryd.func18, Tryd.ntmps18
  go_wp2
  go_loopw [5, 6] (fun i _ wr => ∃ k : Nat, k ≤ n ∧ i = .int .i64 k ∧ Hid (Below w.heap.size w wr)) (fun i _ _ => n - (intOf i).toNat)
  case atStart => exact ⟨0, Nat.zero_le _, rfl, Lib.hid (Below.refl _ _)⟩
  case round =>
    obtain ⟨k, hk, rfl, HB⟩ := hrel
    rename World => w1
    by_cases hlt : k < n
    · have hkL : k < l.length := by rw [HN.out]; exact hlt
      rcases HX.out with h | ⟨b, off, rfl, hc⟩
      · subst h; simp at hkL
      have HC := Lib.hid hc
      clear hc
      go_wp2
      go_loopw [6] (fun i wr => ∃ j : Nat, j ≤ k ∧ i = .int .i64 j ∧ Hid (Below w.heap.size w wr)) (fun i _ => k - (intOf i).toNat)
      case atStart => exact ⟨0, Nat.zero_le _, rfl, HB⟩
      case round =>
        obtain ⟨j, hjk, rfl, HB2⟩ := hrel
        by_cases hlt2 : j < k
        · have hcj := HC.out j (by omega)
          have hck := HC.out k hkL
          have c0 := (HB2.out.cell (p := ⟨b, off + k, none⟩) (World.block_lt_of_cell? w _ hck)).trans hck
          have c1 := (HB2.out.cell (p := ⟨b, off + j, none⟩) (World.block_lt_of_cell? w _ hcj)).trans hcj
          obtain ⟨f1, f2⟩ := HF.out k j hkL hlt2
          clear hcj hck
          have HNr := fun (q : Nat) => Near_any a m cap es (l[k]?.getD 0) (l[j]?.getD 0) (wr.drewN q) HEL.out hm (HE.out.below (below_drewN HB2.out q))
          obtain ⟨z, hz⟩ : ∃ z, l[k]?.getD 0 = z := ⟨_, rfl⟩
          obtain ⟨y, hy⟩ : ∃ y, l[j]?.getD 0 = y := ⟨_, rfl⟩
          rw [hz] at c0
          rw [hy] at c1
          rw [hz, hy] at HNr f1 f2
          rw [f2] at HNr
          have HH := Lib.hid HNr
          have hjn : (j : Int) < (n : Int) := by omega
          have hkn : (k : Int) < (n : Int) := by omega
          clear hz hy HNr f2
          go_wp2
          go_quiet (exact quiet_same (HH.out _))
          go_wp2
          go_roundw
          case rel => exact ⟨j + 1, by omega, by go_num, Lib.hid (below_drewN HB2.out _)⟩
          case measure => simp [intOf]; omega
        · obtain rfl : j = k := by omega
          go_wp2
          go_roundw
          case rel => exact ⟨j + 1, by omega, by go_num, HB2⟩
          case measure => simp [intOf]; omega
    · obtain rfl : k = n := by omega
      go_wp2
      go_ret
      exact ⟨rfl, HB.out⟩

/-- Every two of a list are neighbours. -/
def CliP (es : List (Int × Int)) (l : List Int) : Prop := ∀ i k, i < l.length → k < i → nearB es (l[i]?.getD 0) (l[k]?.getD 0) = true
set_option maxRecDepth 100000 in
set_option maxHeartbeats 2000000 in
theorem Clique_yes (a aL : Option Addr) (m cap n cL : Nat) (es : List (Int × Int)) (l : List Int) (w : World) (hl : es.length = m) (hm : m ≤ 1000) (he : Edges w a es) (hn : l.length = n) (hn2 : n ≤ 1000) (hz : Ints w aL l) (hf : CliP es l) :
    Calls Tryd.prog 21 #[.slice a m cap, .slice aL n cL] w fun e w' => e = .returned (.bool true) ∧ ∃ m, w' = w.drewN m := by
  have HE := Lib.hid he
  have HEL := Lib.hid hl
  have HX := Lib.hid hz.at
  have HN := Lib.hid hn
  have HF := Lib.hid hf
  clear he hl hz hn hf
  go_enter Tryd.func21, Tryd.ntmps21
  go_wp2
  go_loopw [5, 6] (fun i _ wr => ∃ k : Nat, k ≤ n ∧ i = .int .i64 k ∧ ∃ m, wr = w.drewN m) (fun i _ _ => n - (intOf i).toNat)
  case atStart => exact ⟨0, Nat.zero_le _, rfl, 0, rfl⟩
  case round =>
    rename World => w1
    obtain ⟨k, hk, rfl, md, hmd⟩ := hrel
    have HM := Lib.hid hmd
    clear hmd
    by_cases hlt : k < n
    · have hkL : k < l.length := by rw [HN.out]; exact hlt
      rcases HX.out with h | ⟨b, off, rfl, hc⟩
      · subst h; simp at hkL
      have HC := Lib.hid hc
      clear hc
      go_wp2
      go_loopw [6] (fun i wr => ∃ j : Nat, j ≤ k ∧ i = .int .i64 j ∧ ∃ m, wr = w.drewN m) (fun i _ => k - (intOf i).toNat)
      case atStart => exact ⟨0, Nat.zero_le _, rfl, md, HM.out⟩
      case round =>
        obtain ⟨j, hjk, rfl, me, hme⟩ := hrel
        have HM2 := Lib.hid hme
        have HB2 : Hid (Below w.heap.size w wr) := Lib.hid (by rw [hme]; exact below_drewN (Below.refl _ _) _)
        clear hme
        by_cases hlt2 : j < k
        · have hcj := HC.out j (by omega)
          have hck := HC.out k hkL
          have c0 := (HB2.out.cell (p := ⟨b, off + k, none⟩) (World.block_lt_of_cell? w _ hck)).trans hck
          have c1 := (HB2.out.cell (p := ⟨b, off + j, none⟩) (World.block_lt_of_cell? w _ hcj)).trans hcj
          have f2 := HF.out k j hkL hlt2
          clear hcj hck
          have HNr := fun (q : Nat) => Near_any a m cap es (l[k]?.getD 0) (l[j]?.getD 0) (wr.drewN q) HEL.out hm (HE.out.below (below_drewN HB2.out q))
          obtain ⟨z, hz⟩ : ∃ z, l[k]?.getD 0 = z := ⟨_, rfl⟩
          obtain ⟨y, hy⟩ : ∃ y, l[j]?.getD 0 = y := ⟨_, rfl⟩
          rw [hz] at c0
          rw [hy] at c1
          rw [hz, hy] at HNr f2
          rw [f2] at HNr
          have HH := Lib.hid HNr
          have hjn : (j : Int) < (n : Int) := by omega
          have hkn : (k : Int) < (n : Int) := by omega
          clear hz hy HNr f2
          go_wp2
          go_quiet (exact quiet_same (HH.out _))
          go_wp2
          go_roundw
          case rel => exact ⟨j + 1, by omega, by go_num, me + nq, by rw [HM2.out, World.drewN_drewN]⟩
          case measure => simp [intOf]; omega
        · obtain rfl : j = k := by omega
          go_wp2
          go_roundw
          case rel => exact ⟨j + 1, by omega, by go_num, me, HM2.out⟩
          case measure => simp [intOf]; omega
    · obtain rfl : k = n := by omega
      go_wp2
      go_ret
      exact ⟨rfl, md, HM.out⟩

/-- What 'Most' hands back: no list of the reference's is longer. -/
def MostV (ls : List (List Int)) (w : World) (e : Ending) (w' : World) : Prop := ∃ M : Int, e = .returned (.int .i64 M) ∧ (0 ≤ M ∧ M ≤ 1000) ∧ (∀ l ∈ ls, (l.length : Int) ≤ M) ∧ Below w.heap.size w w'
set_option maxRecDepth 100000 in
set_option maxHeartbeats 2000000 in
theorem Most_any (a : Option Addr) (m cap n : Nat) (es : List (Int × Int)) (w : World) (h1 : 1 ≤ n) (hn : n ≤ 12) (hl : es.length = m) (hm : m ≤ 1000) (he : Edges w a es) (hfew : ∀ l ∈ refCl es n (2 ^ n), l.length ≤ 12) :
    Calls Tryd.prog 19 #[.int .i64 n, .slice a m cap] w (MostV (refCl es n (2 ^ n)) w) := by
  have HQ := Lib.hid (RefCliques_any a m cap n es w h1 hn hl hm he)
  have hF0 : 2 ^ n ≤ 4096 := Nat.le_trans (Nat.pow_le_pow_right (by omega) hn) (by decide)
  have hlen := refCl_len es n (2 ^ n)
  obtain ⟨ls, hls⟩ : ∃ ls, refCl es n (2 ^ n) = ls := ⟨_, rfl⟩
  rw [hls] at HQ hfew hlen ⊢
  have HFW := Lib.hid hfew
  obtain ⟨q, hq⟩ : ∃ q, ls.length = q := ⟨_, rfl⟩
  unfold RefClV at HQ
  rw [hq] at HQ hlen
  have HLN := Lib.hid hq
  clear hls hfew hq hl he
  go_enter Tryd.func19, Tryd.ntmps19
  go_wp2_with (go_at_call 44; refine HQ.out.mono ?_; rintro e w1 ⟨b, c, rfl, hL, hb⟩; have H1 := Lib.hid (And.intro hL hb); clear hL hb)
  go_loopw [7, 5] (fun i v wr => ∃ (k : Nat) (M : Int), k ≤ q ∧ i = .int .i64 k ∧ v = .int .i64 M ∧ (0 ≤ M ∧ M ≤ 1000) ∧ Hid (∀ l ∈ ls.take k, (l.length : Int) ≤ M) ∧ w1 = wr) (fun i _ _ => q - (intOf i).toNat)
  case atStart => exact ⟨0, 0, Nat.zero_le _, rfl, rfl, by omega, Lib.hid (by simp), rfl⟩
  case round =>
    obtain ⟨k, M, hk, rfl, rfl, hM, HA, rfl⟩ := hrel
    by_cases hlt : k < q
    · have hkL : k < ls.length := by rw [HLN.out]; exact hlt
      obtain ⟨ad, cd, c0, _⟩ := H1.out.1.at hkL
      have hkn : (k : Int) < (q : Int) := by omega
      have hlk := HFW.out _ (List.getElem_mem hkL)
      have e : ls[k]?.getD [] = ls[k] := by rw [List.getElem?_eq_getElem hkL]; rfl
      rw [e] at c0
      have HTK : Hid (∀ M' : Int, M ≤ M' → (ls[k].length : Int) ≤ M' → ∀ l ∈ ls.take (k + 1), (l.length : Int) ≤ M') := Lib.hid (fun M' h1 h2 l hl => by
        rw [List.take_succ_eq_append_getElem hkL, List.mem_append, List.mem_singleton] at hl
        rcases hl with hl | rfl
        · exact Int.le_trans (HA.out l hl) h1
        · exact h2)
      obtain ⟨r, hr⟩ : ∃ r, ls[k].length = r := ⟨_, rfl⟩
      rw [hr] at c0 hlk HTK
      obtain ⟨M', hM'⟩ : ∃ M', max M (r : Int) = M' := ⟨_, rfl⟩
      have hM1 : M ≤ M' ∧ (r : Int) ≤ M' ∧ M' ≤ 1000 := by omega
      clear e hr
      go_wp2
      try rw [hM']
      go_roundw
      case rel => exact ⟨k + 1, M', by omega, by go_num, by first | rfl | rw [← hM'], by omega, Lib.hid (HTK.out M' hM1.1 hM1.2.1), trivial⟩
      case measure => simp [intOf]; omega
    · obtain rfl : k = q := by omega
      go_wp2
      go_ret
      refine ⟨M, rfl, hM, fun l hl => HA.out l ?_, H1.out.2⟩
      rw [List.take_of_length_le (by rw [HLN.out]; exact Nat.le_refl _)]; exact hl

end Go.Proofs.YthlbedhjekbfpaaDoor
