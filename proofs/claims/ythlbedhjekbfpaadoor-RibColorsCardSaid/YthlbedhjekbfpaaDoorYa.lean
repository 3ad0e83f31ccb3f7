/-
  'reached', 'connects', 'triple', 'Triple': the walks; a triple in words of paths is in Ye.
-/
import Derived.Test.YthlbedhjekbfpaaDoorRb
import Derived.Deep.RegionLaw
import Derived.Test.YthlbedhjekbfpaaDoorRq
namespace Go.Proofs.YthlbedhjekbfpaaDoor

section
open Go.RowKit Go.Sort

/-- A round of 'reached', up to a node. -/
def stepTo (gs : List Nat) (W r : Nat) : Nat → Nat
  | 0 => r
  | k + 1 => if r.testBit k then stepTo gs W r k ||| (gs[k]?.getD 0 &&& W) else stepTo gs W r k
def reachN (gs : List Nat) (W : Nat) : Nat → Nat → Nat
  | 0, r => r
  | f + 1, r => if stepTo gs W r gs.length = r then r else reachN gs W f (stepTo gs W r gs.length)
/-- The nodes that are reached. -/
def reachOf (gs : List Nat) (W v : Nat) : Nat := reachN gs W 65536 (2 ^ v &&& W)
theorem stepTo_bit (gs : List Nat) (W r k i : Nat) : (stepTo gs W r k).testBit i = true ↔ r.testBit i = true ∨ ∃ v, v < k ∧ r.testBit v = true ∧ (gs[v]?.getD 0).testBit i = true ∧ W.testBit i = true := by
  induction k with
  | zero => simp [stepTo]
  | succ k ih =>
    rw [stepTo]
    by_cases h : r.testBit k = true
    · rw [if_pos h, Nat.testBit_or, Nat.testBit_and, Bool.or_eq_true, ih, Bool.and_eq_true]
      constructor
      · rintro ((h1 | ⟨v, h1, h2⟩) | h1)
        · exact .inl h1
        · exact .inr ⟨v, by omega, h2⟩
        · exact .inr ⟨k, by omega, h, h1⟩
      · rintro (h1 | ⟨v, h1, h2⟩)
        · exact .inl (.inl h1)
        · by_cases hv : v = k
          · subst hv; exact .inr h2.2
          · exact .inl (.inr ⟨v, by omega, h2⟩)
    · rw [if_neg h, ih]
      constructor
      · rintro (h1 | ⟨v, h1, h2⟩)
        · exact .inl h1
        · exact .inr ⟨v, by omega, h2⟩
      · rintro (h1 | ⟨v, h1, h2⟩)
        · exact .inl h1
        · have hv : v ≠ k := fun e => h (e ▸ h2.1)
          exact .inr ⟨v, by omega, h2⟩
theorem stepTo_lt (gs : List Nat) (W r k : Nat) (hW : W < 65536) (hr : r < 65536) : stepTo gs W r k < 65536 := by
  refine Nat.lt_pow_two_of_testBit (n := 16) _ fun i hi => ?_
  have hx : ∀ {x : Nat}, x < 65536 → x.testBit i = false := fun {x} h => Nat.testBit_lt_two_pow (Nat.lt_of_lt_of_le h (Nat.pow_le_pow_right (n := 2) (by omega) hi))
  refine Bool.eq_false_iff.2 fun h => ?_
  rcases (stepTo_bit gs W r k i).1 h with h | ⟨v, _, _, _, h⟩
  · simp [hx hr] at h
  · simp [hx hW] at h
theorem stepTo_ge (gs : List Nat) (W r k : Nat) : r ≤ stepTo gs W r k := by
  induction k with
  | zero => exact Nat.le_refl _
  | succ k ih =>
    rw [stepTo]
    split
    · exact Nat.le_trans ih Nat.left_le_or
    · exact ih
theorem stepTo_eq {gs : List Nat} {W r : Nat} : stepTo gs W r gs.length = r ↔ ∀ v i, v < gs.length → r.testBit v = true → (gs[v]?.getD 0).testBit i = true → W.testBit i = true → r.testBit i = true := by
  constructor
  · intro h v i hv h1 h2 h3
    rw [← h]
    exact (stepTo_bit ..).2 (.inr ⟨v, hv, h1, h2, h3⟩)
  · intro h
    refine Nat.eq_of_testBit_eq fun i => ?_
    rw [Bool.eq_iff_iff, stepTo_bit]
    constructor
    · rintro (h1 | ⟨v, h1, h2, h3, h4⟩)
      · exact h1
      · exact h v i h1 h2 h3 h4
    · exact .inl
/-- What is reached is closed, has the start, lies in the set, and is the least such set. -/
theorem reachN_spec {gs : List Nat} {W : Nat} (hW : W < 65536) : ∀ (f r : Nat), r < 65536 → 65536 ≤ r + f →
    stepTo gs W (reachN gs W f r) gs.length = reachN gs W f r ∧ (∀ i, r.testBit i = true → (reachN gs W f r).testBit i = true) ∧
    (∀ i, (reachN gs W f r).testBit i = true → r.testBit i = true ∨ W.testBit i = true) ∧
    (∀ S : Nat → Prop, (∀ i, r.testBit i = true → S i) → (∀ v i, v < gs.length → S v → (gs[v]?.getD 0).testBit i = true → W.testBit i = true → S i) → ∀ i, (reachN gs W f r).testBit i = true → S i) := by
  intro f
  induction f with
  | zero => intro r h1 h2; omega
  | succ f ih =>
    intro r h1 h2
    rw [reachN]
    by_cases hs : stepTo gs W r gs.length = r
    · rw [if_pos hs]
      exact ⟨hs, fun _ h => h, fun _ h => .inl h, fun S h _ i hi => h i hi⟩
    · rw [if_neg hs]
      have hge := stepTo_ge gs W r gs.length
      obtain ⟨p1, p2, p3, p4⟩ := ih _ (stepTo_lt gs W r gs.length hW h1) (by omega)
      refine ⟨p1, fun i hi => p2 i ((stepTo_bit ..).2 (.inl hi)), fun i hi => ?_, fun S hS hc i hi => p4 S (fun j hj => ?_) hc i hi⟩
      · rcases p3 i hi with h | h
        · rcases (stepTo_bit ..).1 h with h | ⟨v, _, _, _, h⟩
          · exact .inl h
          · exact .inr h
        · exact .inr h
      · rcases (stepTo_bit ..).1 hj with h | ⟨v, q1, q2, q3, q4⟩
        · exact hS j h
        · exact hc v j q1 (hS v q2) q3 q4
theorem reachN_lt {gs : List Nat} {W : Nat} (hW : W < 65536) : ∀ (f r : Nat), r < 65536 → reachN gs W f r < 65536 := by
  intro f
  induction f with
  | zero => exact fun _ h => h
  | succ f ih => intro r h; rw [reachN]; split; exact h; exact ih _ (stepTo_lt _ _ _ _ hW h)

set_option maxRecDepth 100000 in
set_option maxHeartbeats 2000000 in
theorem reached_any (a : Option Addr) (n cap v S : Nat) (gs : List Nat) (w : World) (hn : gs.length = n) (hm : n ≤ 12) (hv : v < n) (hS : S < 65536) (hg : ∀ i, i < n → gs[i]?.getD 0 < 65536) (hz : Sets w a gs) :
    Calls Tryd.prog 86 #[.slice a n cap, .int .i64 v, .int .u16 S] w fun e w' => e = .returned (.int .u16 (reachOf gs S v)) ∧ Below w.heap.size w w' := by
  have HX := Lib.hid hz.at
  have HN := Lib.hid hn
  have HG := Lib.hid hg
  have hp2 : 2 ^ v < 65536 := Nat.pow_lt_pow_right (m := v) (n := 16) (by omega) (by omega)
  have HS1 := Lib.hid (fun (wx : World) => setOf_any (some ⟨wx.heap.size, 0, none⟩) 1 1 [v] (wx.alloc (.cells #[.int .i64 (v : Int)] 3)) rfl (by omega) (by simp; omega) (fun i hi => ⟨wx.heap.size, 0, rfl, by
    have : i = 0 := by simpa using hi
    subst this
    exact World.cell?_alloc_at _ _ _ _ rfl⟩))
  have HAN : Hid (bits .and .u16 ((setN' [v] : Nat) : Int) (S : Int) = ((2 ^ v &&& S : Nat) : Int)) := Lib.hid (by
    have e : setN' [v] = 2 ^ v := by simp [setN']
    rw [e, u16_and_nat _ _ hp2 hS])
  have hr0 : 2 ^ v &&& S < 65536 := Nat.lt_of_le_of_lt Nat.and_le_left hp2
  have HR : Hid (reachOf gs S v = reachN gs S 65536 (2 ^ v &&& S)) := Lib.hid rfl
  obtain ⟨R, hR⟩ : ∃ R, reachOf gs S v = R := ⟨_, rfl⟩
  rw [hR] at HR ⊢
  obtain ⟨r0, hr⟩ : ∃ r0, 2 ^ v &&& S = r0 := ⟨_, rfl⟩
  rw [hr] at HR HAN hr0
  have HB := Lib.hid ((Below.refl w.heap.size w).alloc (Nat.le_refl _) (.cells #[.int .i64 (v : Int)] 3))
  have HZ := Lib.hid (hz.below HB.out)
  clear hz hn hg hR hr hp2
  go_enter Tryd.func86, Tryd.ntmps86
  go_wp2_with (first
    | (go_at_call 57; refine (HS1.out _).mono ?_; rintro e w' ⟨rfl, rfl⟩))
  rw [HAN.out]
  obtain ⟨w1, hw1⟩ : ∃ w1, w.alloc (.cells #[.int .i64 (v : Int)] 3) = w1 := ⟨_, rfl⟩
  rw [hw1] at HB HZ ⊢
  clear hw1 HAN HS1
  go_loopw [7, 8] (fun r x wr => wr = w1 ∧ ∃ t f : Nat, r = .int .u16 t ∧ t < 65536 ∧ 65536 ≤ t + f ∧ Hid (R = reachN gs S f t)) (fun r _ _ => 65536 - (intOf r).toNat)
  case atStart => exact ⟨rfl, r0, 65536, rfl, hr0, by omega, HR⟩
  case round =>
    obtain ⟨rfl, t, f, rfl, h1, h2, h3⟩ := hrel
    obtain ⟨f, rfl⟩ : ∃ f', f = f' + 1 := ⟨f - 1, by omega⟩
    go_wp2
    go_loop [8, 18] (fun x i => ∃ k : Nat, k ≤ n ∧ i = .int .i64 k ∧ x = .int .u16 (stepTo gs S t k)) (fun _ i => n - (intOf i).toNat)
    case atStart => exact ⟨0, Nat.zero_le _, rfl, rfl⟩
    case round =>
      obtain ⟨k, hk, rfl, rfl⟩ := hrel
      by_cases hlt : k < n
      · have hkL : k < gs.length := by rw [HN.out]; exact hlt
        rcases HX.out with h | ⟨b, off, rfl, hc⟩
        · subst h; simp at hkL
        clear hc HX
        obtain ⟨b', off', e1, cc⟩ := (Sets.at HZ.out).resolve_left (fun h => by subst h; simp at hkL)
        obtain ⟨rfl, rfl⟩ : b = b' ∧ off = off' := by simpa using e1
        clear e1
        have ck := cc k hkL
        have hgk := HG.out k hlt
        have H1 := Lib.hid (fun wx => has_any t k wx h1 (by omega))
        have hst := Lib.hid (stepTo_lt gs S t k hS h1)
        have HP := Lib.hid (show stepTo gs S t (k + 1) = if t.testBit k then stepTo gs S t k ||| (gs[k]?.getD 0 &&& S) else stepTo gs S t k from rfl)
        obtain ⟨y, hy⟩ : ∃ y, gs[k]?.getD 0 = y := ⟨_, rfl⟩
        obtain ⟨x, hx⟩ : ∃ x, stepTo gs S t k = x := ⟨_, rfl⟩
        rw [hy] at ck hgk HP
        rw [hx] at hst HP ⊢
        clear cc hy hx hkL
        have hys : y &&& S < 65536 := Nat.lt_of_le_of_lt Nat.and_le_left hgk
        have HE1 : Hid (bits .and .u16 (y : Int) (S : Int) = ((y &&& S : Nat) : Int)) := Lib.hid (u16_and_nat _ _ hgk hS)
        have HE2 : Hid (bits .or .u16 (x : Int) ((y &&& S : Nat) : Int) = ((x ||| (y &&& S) : Nat) : Int)) := Lib.hid (u16_or_nat _ _ hst.out hys)
        clear hgk hys
        cases hb : t.testBit k with
        | false =>
          rw [hb] at H1 HP
          clear hb
          go_wp2_with (go_at_call 58; refine (H1.out _).mono ?_; rintro e w' ⟨rfl, rfl⟩)
          go_roundw
          case rel => exact ⟨k + 1, by omega, by go_num, by rw [HP.out]; rfl⟩
          case measure => simp [intOf]; omega
        | true =>
          rw [hb] at H1 HP
          clear hb
          go_wp2_with (go_at_call 58; refine (H1.out _).mono ?_; rintro e w' ⟨rfl, rfl⟩)
          go_round
          case rel => exact ⟨k + 1, by omega, by go_num, by rw [HE1.out, HE2.out, HP.out]; rfl⟩
          case measure => simp [intOf]; omega
      · obtain rfl : k = n := by omega
        have hge := stepTo_ge gs S t k
        have hst := stepTo_lt gs S t k hS h1
        have HD := Lib.hid (show R = if stepTo gs S t k = t then t else reachN gs S f (stepTo gs S t k) from by rw [h3.out, reachN, HN.out])
        obtain ⟨x, hx⟩ : ∃ x, stepTo gs S t k = x := ⟨_, rfl⟩
        rw [hx] at hge hst HD ⊢
        clear hx
        by_cases he : x = t
        · subst he
          rw [if_pos rfl] at HD
          have HQ := Lib.hid (show ((x : Int) == (x : Int)) = true from by simp)
          go_wp2
          go_ret
          rw [HD.out]
          exact ⟨rfl, HB.out⟩
        · rw [if_neg he] at HD
          have HQ := Lib.hid (show ((x : Int) == (t : Int)) = false from by simp; omega)
          go_wp2
          go_roundw
          case rel => exact ⟨trivial, x, f, rfl, hst, by omega, HD⟩
          case measure => simp [intOf]; omega

/-- Whether there is a way past a third node. -/
def connB (gs : List Nat) (x y z : Nat) : Bool := (reachOf gs ((2 ^ gs.length - 1) &&& (65535 - gs[z]?.getD 0)) x).testBit y
set_option maxRecDepth 100000 in
set_option maxHeartbeats 2000000 in
theorem connects_any (a : Option Addr) (n cap x y z : Nat) (gs : List Nat) (w : World) (hn : gs.length = n) (hm : n ≤ 12) (hx : x < n) (hy : y < n) (hz : z < n) (hg : ∀ i, i < n → gs[i]?.getD 0 < 65536) (hs : Sets w a gs) :
    Calls Tryd.prog 71 #[.slice a n cap, .int .i64 x, .int .i64 y, .int .i64 z] w fun e w' => e = .returned (.bool (connB gs x y z)) ∧ Below w.heap.size w w' := by
  have hgz := hg z hz
  have hnn : 2 ^ n - 1 < 65536 := Nat.lt_of_le_of_lt (Nat.sub_le _ _) (Nat.pow_lt_pow_right (m := n) (n := 16) (by omega) (by omega))
  obtain ⟨b, off, rfl, hc⟩ := (Sets.at hs).resolve_left (fun h => by subst h; simp at hn; omega)
  have c0 := hc z (by omega)
  have HND := Lib.hid (fun wx => nodes_any (some ⟨b, off, none⟩) n cap wx hm)
  have HE : Hid (bits .andNot .u16 ((2 ^ n - 1 : Nat) : Int) ((gs[z]?.getD 0 : Nat) : Int) = (((2 ^ n - 1) &&& (65535 - gs[z]?.getD 0) : Nat) : Int)) := Lib.hid (u16_andNot_nat _ _ hnn hgz)
  have hww : (2 ^ n - 1) &&& (65535 - gs[z]?.getD 0) < 65536 := Nat.lt_of_le_of_lt Nat.and_le_left hnn
  have HCB : Hid (connB gs x y z = (reachOf gs ((2 ^ n - 1) &&& (65535 - gs[z]?.getD 0)) x).testBit y) := Lib.hid (by rw [connB, hn])
  obtain ⟨gz, hgz2⟩ : ∃ gz, gs[z]?.getD 0 = gz := ⟨_, rfl⟩
  rw [hgz2] at c0 HE hww HCB
  obtain ⟨N, hN⟩ : ∃ N, 2 ^ n - 1 = N := ⟨_, rfl⟩
  rw [hN] at HND HE hww HCB
  obtain ⟨S, hS⟩ : ∃ S, N &&& (65535 - gz) = S := ⟨_, rfl⟩
  rw [hS] at HE hww HCB
  have HRE := Lib.hid (fun (wx : World) (hb : Below w.heap.size w wx) => reached_any (some ⟨b, off, none⟩) n cap x S gs wx hn hm hx hww hg (hs.below hb))
  obtain ⟨R, hR⟩ : ∃ R, reachOf gs S x = R := ⟨_, rfl⟩
  have hRl : R < 65536 := by rw [← hR]; exact reachN_lt hww _ _ (Nat.lt_of_le_of_lt Nat.and_le_right hww)
  rw [hR] at HRE HCB
  have HHA := Lib.hid (fun wx => has_any R y wx hRl (by omega))
  rw [HCB.out]
  clear hs hg hn hc hgz hnn hgz2 hN hS hww hR HCB hRl
  go_enter Tryd.func71, Tryd.ntmps71
  go_wp2
  go_region_law (first
    | (go_simp; go_at_call 35; refine (HND.out _).mono ?_; rintro e w' ⟨rfl, rfl⟩)
    | (go_simp; go_at_call 86; rw [HE.out]; refine (HRE.out _ (by first | exact (Below.refl _ _).drew | exact Below.refl _ _)).mono ?_; rintro e w1 ⟨rfl, hb1⟩; have H1 := Lib.hid (show Below w.heap.size w w1 from by first | exact (Below.refl _ _).drew.trans (hb1.mono (by simp)) | exact hb1); clear hb1)
    | (go_simp; go_at_call 58; refine (HHA.out _).mono ?_; rintro e w' ⟨rfl, rfl⟩))
  all_goals
    go_simp
    go_wp2
    go_ret
    exact ⟨rfl, H1.out⟩
end

section
open Go.RowKit Go.Sort

def tripB (gs : List Nat) (x y z : Nat) : Bool := connB gs x y z && connB gs x z y && connB gs y z x
/-- Nothing is found before a place. -/
def NoTrip (gs : List Nat) (x y z : Nat) : Prop := ∀ i j k, i < j → j < k → k < gs.length → i < x ∨ (i = x ∧ (j < y ∨ (j = y ∧ k < z))) → tripB gs i j k = false
/-- What 'triple' hands back. -/
def TripV (gs : List Nat) (w : World) (e : Ending) (w' : World) : Prop := Below w.heap.size w w' ∧
  ((e = .returned (.tuple #[.slice none 0 0, .bool false]) ∧ NoTrip gs gs.length 0 0) ∨
   ∃ x y z g : Nat, x < y ∧ y < z ∧ z < gs.length ∧ tripB gs x y z = true ∧ NoTrip gs x y z ∧ w.heap.size ≤ g ∧ e = .returned (.tuple #[.slice (some ⟨g, 0, none⟩) 3 3, .bool true]) ∧ w'.heap[g]? = some (.cells #[.int .i64 x, .int .i64 y, .int .i64 z] 3 (0, 0)))
theorem NoTrip.z {gs : List Nat} {x y z : Nat} (h : NoTrip gs x y z) (hf : tripB gs x y z = false) : NoTrip gs x y (z + 1) := fun i j k h1 h2 h3 h4 => by
  by_cases he : i = x ∧ j = y ∧ k = z
  · obtain ⟨rfl, rfl, rfl⟩ := he; exact hf
  · exact h i j k h1 h2 h3 (by omega)
theorem NoTrip.y {gs : List Nat} {x y n : Nat} (h : NoTrip gs x y n) (hn : gs.length = n) : NoTrip gs x (y + 1) (y + 2) := fun i j k h1 h2 h3 h4 => h i j k h1 h2 h3 (by omega)
theorem NoTrip.x {gs : List Nat} {x z n : Nat} (h : NoTrip gs x n z) (hn : gs.length = n) : NoTrip gs (x + 1) (x + 2) (x + 3) := fun i j k h1 h2 h3 h4 => h i j k h1 h2 h3 (by omega)

set_option maxRecDepth 100000 in
set_option maxHeartbeats 2000000 in
theorem triple_any (a : Option Addr) (n cap : Nat) (gs : List Nat) (w : World) (hn : gs.length = n) (hm : n ≤ 12) (hg : ∀ i, i < n → gs[i]?.getD 0 < 65536) (hs : Sets w a gs) :
    Calls Tryd.prog 51 #[.slice a n cap] w (TripV gs w) := by
  have HN := Lib.hid hn
  have HC := Lib.hid (fun (x y z : Nat) (wx : World) (hx : x < n) (hy : y < n) (hz : z < n) (hb : Below w.heap.size w wx) => connects_any a n cap x y z gs wx hn hm hx hy hz hg (hs.below hb))
  clear hn hg hs
  go_enter Tryd.func51, Tryd.ntmps51
  go_wp2
  go_loopw [9] (fun i wr => ∃ x : Nat, x ≤ n ∧ i = .int .i64 x ∧ Hid (NoTrip gs x (x + 1) (x + 2) ∧ Below w.heap.size w wr)) (fun i _ => n - (intOf i).toNat)
  case atStart => exact ⟨0, Nat.zero_le _, rfl, Lib.hid ⟨fun i j k h1 h2 h3 h4 => by omega, Below.refl _ _⟩⟩
  case round =>
    obtain ⟨x, hx, rfl, H0⟩ := hrel
    by_cases hlt : x < n
    · go_wp2
      rename World => w6
      go_loopw [5] (fun i wr => ∃ y : Nat, x < y ∧ y ≤ n ∧ i = .int .i64 y ∧ Hid (NoTrip gs x y (y + 1) ∧ Below w.heap.size w wr)) (fun i _ => n - (intOf i).toNat)
      case atStart => exact ⟨x + 1, by omega, by omega, by go_num, H0⟩
      case round =>
        obtain ⟨y, h1, h2, rfl, H1⟩ := hrel
        by_cases hlt2 : y < n
        · go_wp2
          rename World => w7
          go_loopw [6] (fun i wr => ∃ z : Nat, y < z ∧ z ≤ n ∧ i = .int .i64 z ∧ Hid (NoTrip gs x y z ∧ Below w.heap.size w wr)) (fun i _ => n - (intOf i).toNat)
          case atStart => exact ⟨y + 1, by omega, by omega, by go_num, H1⟩
          case round =>
            obtain ⟨z, h3, h4, rfl, H2⟩ := hrel
            by_cases hlt3 : z < n
            · have K1 := Lib.hid (fun wx hb => HC.out x y z wx (by omega) (by omega) (by omega) hb)
              have K2 := Lib.hid (fun wx hb => HC.out x z y wx (by omega) (by omega) (by omega) hb)
              have K3 := Lib.hid (fun wx hb => HC.out y z x wx (by omega) (by omega) (by omega) hb)
              have HT := Lib.hid (show tripB gs x y z = (connB gs x y z && connB gs x z y && connB gs y z x) from rfl)
              generalize connB gs x y z = c1 at K1 HT
              generalize connB gs x z y = c2 at K2 HT
              generalize connB gs y z x = c3 at K3 HT
              cases c1 with
              | false =>
                have H3 := Lib.hid (H2.out.1.z HT.out)
                go_wp2_with (go_at_call 71; refine (K1.out _ H2.out.2).mono ?_; rintro e w1 ⟨rfl, hb1⟩; have B1 := Lib.hid (Below.trans H2.out.2 (hb1.mono (Below.size H2.out.2))); clear hb1)
                go_roundw
                case rel => exact ⟨z + 1, by omega, by omega, by go_num, Lib.hid ⟨H3.out, B1.out⟩⟩
                case measure => simp [intOf]; omega
              | true =>
                cases c2 with
                | false =>
                  have H3 := Lib.hid (H2.out.1.z HT.out)
                  go_wp2_with (first | (go_at_call 71; refine (K2.out _ B1.out).mono ?_; rintro e w2 ⟨rfl, hb1⟩; have B2 := Lib.hid (Below.trans B1.out (hb1.mono (Below.size B1.out))); clear hb1) | (go_at_call 71; refine (K1.out _ H2.out.2).mono ?_; rintro e w1 ⟨rfl, hb1⟩; have B1 := Lib.hid (Below.trans H2.out.2 (hb1.mono (Below.size H2.out.2))); clear hb1))
                  go_roundw
                  case rel => exact ⟨z + 1, by omega, by omega, by go_num, Lib.hid ⟨H3.out, B2.out⟩⟩
                  case measure => simp [intOf]; omega
                | true =>
                  cases c3 with
                  | false =>
                    have H3 := Lib.hid (H2.out.1.z HT.out)
                    go_wp2_with (first | (go_at_call 71; refine (K3.out _ B2.out).mono ?_; rintro e w3 ⟨rfl, hb1⟩; have B3 := Lib.hid (Below.trans B2.out (hb1.mono (Below.size B2.out))); clear hb1) | (go_at_call 71; refine (K2.out _ B1.out).mono ?_; rintro e w2 ⟨rfl, hb1⟩; have B2 := Lib.hid (Below.trans B1.out (hb1.mono (Below.size B1.out))); clear hb1) | (go_at_call 71; refine (K1.out _ H2.out.2).mono ?_; rintro e w1 ⟨rfl, hb1⟩; have B1 := Lib.hid (Below.trans H2.out.2 (hb1.mono (Below.size H2.out.2))); clear hb1))
                    go_roundw
                    case rel => exact ⟨z + 1, by omega, by omega, by go_num, Lib.hid ⟨H3.out, B3.out⟩⟩
                    case measure => simp [intOf]; omega
                  | true =>
                    go_wp2_with (first | (go_at_call 71; refine (K3.out _ B2.out).mono ?_; rintro e w3 ⟨rfl, hb1⟩; have B3 := Lib.hid (Below.trans B2.out (hb1.mono (Below.size B2.out))); clear hb1) | (go_at_call 71; refine (K2.out _ B1.out).mono ?_; rintro e w2 ⟨rfl, hb1⟩; have B2 := Lib.hid (Below.trans B1.out (hb1.mono (Below.size B1.out))); clear hb1) | (go_at_call 71; refine (K1.out _ H2.out.2).mono ?_; rintro e w1 ⟨rfl, hb1⟩; have B1 := Lib.hid (Below.trans H2.out.2 (hb1.mono (Below.size H2.out.2))); clear hb1))
                    go_ret2
                    exact ⟨B3.out.alloc B3.out.size _, .inr ⟨x, y, z, w3.heap.size, h1, h3, by have := HN.out; omega, HT.out, H2.out.1, B3.out.size, rfl, heap_alloc_new w3 _⟩⟩
            · obtain rfl : z = n := by omega
              go_wp2
              go_roundw
              case rel => exact ⟨y + 1, by omega, by omega, by go_num, Lib.hid ⟨H2.out.1.y HN.out, H2.out.2⟩⟩
              case measure => simp [intOf]; omega
        · obtain rfl : y = n := by omega
          go_wp2
          go_roundw
          case rel => exact ⟨x + 1, by omega, by go_num, Lib.hid ⟨H1.out.1.x HN.out, H1.out.2⟩⟩
          case measure => simp [intOf]; omega
    · obtain rfl : x = n := by omega
      go_wp2
      go_ret2
      exact ⟨H0.out.2, .inl ⟨rfl, fun i j k g1 g2 g3 g4 => H0.out.1 i j k g1 g2 g3 (by have := HN.out; omega)⟩⟩
end

section
open Go.RowKit Go.Sort

/-- What 'Triple' hands back of a valid graph. -/
def TripleV (gs : List Nat) (w : World) (e : Ending) (w' : World) : Prop := Below w.heap.size w w' ∧
  ((e = .returned (.tuple #[.slice none 0 0, .int .i64 5]) ∧ NoTrip gs gs.length 0 0) ∨
   ∃ x y z g : Nat, x < y ∧ y < z ∧ z < gs.length ∧ tripB gs x y z = true ∧ NoTrip gs x y z ∧ w.heap.size ≤ g ∧ e = .returned (.tuple #[.slice (some ⟨g, 0, none⟩) 3 3, .int .i64 0]) ∧ w'.heap[g]? = some (.cells #[.int .i64 x, .int .i64 y, .int .i64 z] 3 (0, 0)))
set_option maxRecDepth 100000 in
set_option maxHeartbeats 2000000 in
theorem Triple_any (N : Int) (a : Option Addr) (m cap : Nat) (es : List (Int × Int)) (n : Nat) (gs : List Nat) (w : World) (hN : N = n) (h2 : n ≤ 12) (hadj : Adj n gs es)
    (hcall : Calls Tryd.prog 33 #[.int .i64 N, .slice a m cap] w (GoodG n gs w)) :
    Calls Tryd.prog 25 #[.int .i64 N, .slice a m cap] w (TripleV gs w) := by
  have HC := Lib.hid hcall
  have HT := Lib.hid (fun (wx : World) (g : Nat) (hr : RowG wx g gs) => triple_any (some ⟨g, 0, none⟩) n n gs wx hadj.len h2 (fun i _ => hadj.lt16 h2 i) hr.sets)
  subst hN
  clear hadj hcall
  go_enter Tryd.func25, Tryd.ntmps25
  go_wp2_with (go_at_call 33; refine HC.out.mono ?_; rintro e w1 ⟨g, rfl, hr, hge, hb⟩; have HR := Lib.hid (And.intro hr (And.intro hge hb)); clear hr hge hb)
  refine (HT.out _ g HR.out.1).mono ?_
  rintro e w2 ⟨hb2, hv⟩
  have HB := Lib.hid (HR.out.2.2.trans (hb2.mono HR.out.2.2.size))
  have hge := HR.out.2.2.size
  clear hb2
  rcases hv with ⟨rfl, hno⟩ | ⟨x, y, z, g2, h1, h2, h3, h4, h5, h6, rfl, h7⟩
  · have HNO := Lib.hid hno
    go_wp2
    go_ret2
    exact ⟨HB.out, .inl ⟨rfl, HNO.out⟩⟩
  · have HX := Lib.hid (And.intro h4 (And.intro h5 h7))
    go_wp2
    go_ret2
    exact ⟨HB.out, .inr ⟨x, y, z, g2, h1, h2, h3, HX.out.1, HX.out.2.1, by omega, rfl, HX.out.2.2⟩⟩

set_option maxRecDepth 100000 in
set_option maxHeartbeats 2000000 in
theorem Triple_bad {N : Int} {es : List (Int × Int)} (h : graphR N es = false) (a : Option Addr) (m cap : Nat) (w : World) (hl : es.length = m) (hm : m ≤ 1000) (he : Edges w a es) :
    Calls Tryd.prog 25 #[.int .i64 N, .slice a m cap] w (Gives2 (.slice none 0 0) (.int .i64 1) w) := by
  have HC := Lib.hid (graphOf_wrong h a m cap w hl hm he)
  clear h hl hm he
  go_enter Tryd.func25, Tryd.ntmps25
  go_wp2_with (go_at_call 33; refine HC.out.mono ?_; rintro e w1 ⟨rfl, hb⟩; have HB := Lib.hid hb; clear hb)
  go_ret2
  exact ⟨rfl, HB.out⟩
end

end Go.Proofs.YthlbedhjekbfpaaDoor
