/-
  The walks of 'TrailingZeros16', 'least', 'isChordal', 'around', 'ring' and 'Ring'.
-/
import Derived.Test.YthlbedhjekbfpaaDoorWe
namespace Go.Proofs.YthlbedhjekbfpaaDoor
open Go.RowKit Go.Sort

/-- The table holds what its initialiser lays. -/
def TabW (w : World) : Prop := ∀ i, i < 32 → w.cell? ⟨0, i, none⟩ = some (.int .u8 (tab32[i]?.getD 0))
theorem TabW.below {B : Nat} {w w' : World} (h : TabW w) (hb : Below B w w') (hB : 0 < B) : TabW w' := fun i hi => (hb.cell (p := ⟨0, i, none⟩) hB).trans (h i hi)
theorem TabW.lt {w : World} (h : TabW w) : 0 < w.heap.size := World.block_lt_of_cell? w _ (h 0 (by omega))
theorem TabW.next {w w' : World} (h : TabW w) (hb : Below w.heap.size w w') : TabW w' := h.below hb h.lt

set_option maxRecDepth 100000 in
set_option maxHeartbeats 2000000 in
theorem TrailingZeros16_any (s : Nat) (w : World) (hs : s < 65536) (hT : TabW w) :
    Calls Tryd.prog 81 #[.int .u16 s] w fun e w' => e = .returned (.int .i64 (tzN s)) ∧ w = w' := by
  by_cases h0 : s = 0
  · subst h0
    go_enter Tryd.func81, Tryd.ntmps81
    go_wp2
    go_ret
    exact ⟨rfl, rfl⟩
  · have hne : ((s : Int) == 0) = false := by rw [beq_eq_false_iff_ne]; omega
    have hneg : IntKind.u16.wrap (-(s : Int)) = ((65536 - s : Nat) : Int) := by
      have e1 : (-(s : Int)) % 2 ^ 16 = ((65536 - s : Nat) : Int) := by omega
      show (if (false && decide ((-(s : Int)) % 2 ^ 16 ≥ 2 ^ (16 - 1))) = true then (-(s : Int)) % 2 ^ 16 - 2 ^ 16 else (-(s : Int)) % 2 ^ 16) = _
      rw [Bool.false_and, if_neg (by simp), e1]
    have HAND : Hid (bits .and .u16 (s : Int) ((65536 - s : Nat) : Int) = ((s &&& (65536 - s) : Nat) : Int)) := Lib.hid (u16_and_nat _ _ hs (by omega))
    have hc := hT (tzAt s) (tzAt_lt s)
    rw [tz_at hs h0] at hc
    have hidx : (bits .and .u16 (s : Int) ((65536 - s : Nat) : Int) % 4294967296 * 125613361 % 4294967296 / 134217728).toNat = tzAt s := by
      have : s &&& (65536 - s) ≤ s := Nat.and_le_left
      rw [HAND.out]; unfold tzAt
      obtain ⟨y, hy⟩ : ∃ y, s &&& (65536 - s) = y := ⟨_, rfl⟩
      rw [hy] at this ⊢
      rw [show (y : Int) % 4294967296 = (y : Int) by omega, show (y : Int) * 125613361 % 4294967296 / 134217728 = ((y * 125613361 % 4294967296 / 134217728 : Nat) : Int) by simp [Int.natCast_ediv, Int.natCast_emod], Int.toNat_natCast]
    rw [← hidx] at hc
    have hlt := tzAt_lt s
    rw [← hidx] at hlt
    have htz := (tzN_bit hs h0).2
    clear hidx hT HAND
    obtain ⟨z, hz⟩ : ∃ z, tzN s = z := ⟨_, rfl⟩
    rw [hz] at hc htz ⊢
    clear hz
    go_enter Tryd.func81, Tryd.ntmps81
    go_wp2
    go_ret
    exact ⟨rfl, rfl⟩

theorem least_any (s : Nat) (w : World) (hs : s < 65536) (hT : TabW w) :
    Calls Tryd.prog 62 #[.int .u16 s] w fun e w' => e = .returned (.int .i64 (tzN s)) ∧ w = w' := by
  have H1 := Lib.hid (TrailingZeros16_any s w hs hT)
  go_enter Tryd.func62, Tryd.ntmps62
  go_wp2_with (go_at_call 81; refine H1.out.mono ?_; rintro e w' ⟨rfl, rfl⟩)
  go_ret
  exact ⟨rfl, rfl⟩

theorem elimAll_len (gs : List Nat) : ∀ (f left : Nat), (elimAll gs f left).length ≤ f
  | 0, left => by simp [elimAll]
  | f + 1, left => by
    rw [elimAll]
    cases elimOf gs left with
    | none => simp
    | some v =>
      simp only [List.length_cons]; have := elimAll_len gs f (left &&& (65535 - 2 ^ v)); omega

set_option maxRecDepth 100000 in
set_option maxHeartbeats 2000000 in
theorem isChordal_any (a : Option Addr) (n cap s : Nat) (gs : List Nat) (w : World) (hn : gs.length = n) (hm : n ≤ 12) (hs : s < 65536) (hg : ∀ i, i < n → gs[i]?.getD 0 < 65536) (hz : Sets w a gs) :
    Calls Tryd.prog 34 #[.slice a n cap, .int .u16 s] w fun e w' => e = .returned (.bool (chdB gs s)) ∧ Below w.heap.size w w' := by
  have H1 := Lib.hid (eliminated_any a n cap s gs w hn hm hs hg hz)
  have H2 := Lib.hid (fun wx => count_any s wx hs)
  have hl := elimAll_len gs (s + 1) s
  have hc := cnt_le s
  have HV : Hid (chdB gs s = decide (((elimAll gs (s + 1) s).map fun (x : Nat) => (x : Int)).length = cntN s)) := Lib.hid (by rw [chdB, List.length_map])
  have hl2 : ((elimAll gs (s + 1) s).map fun (x : Nat) => (x : Int)).length ≤ 65536 := by rw [List.length_map]; omega
  obtain ⟨L, hL⟩ : ∃ L, (elimAll gs (s + 1) s).map (fun (x : Nat) => (x : Int)) = L := ⟨_, rfl⟩
  rw [hL] at H1 HV hl2
  unfold GivesN at H1
  obtain ⟨q, hq⟩ : ∃ q, L.length = q := ⟨_, rfl⟩
  rw [hq] at H1 HV hl2
  obtain ⟨c, hcc⟩ : ∃ c, cntN s = c := ⟨_, rfl⟩
  rw [hcc] at H2 HV hc
  obtain ⟨r, hr⟩ : ∃ r, chdB gs s = r := ⟨_, rfl⟩
  rw [hr] at HV ⊢
  clear hn hg hz hl hL hq hcc hr
  go_enter Tryd.func34, Tryd.ntmps34
  go_wp2_with (first
    | (go_at_call 56; refine H1.out.mono ?_; rintro e w1 ⟨a1, c1, rfl, hc1⟩; have HB1 := Lib.hid hc1.1; clear hc1)
    | (go_at_call 59; refine (H2.out _).mono ?_; rintro e w2 ⟨rfl, hb2⟩))
  go_ret
  refine ⟨ret_bool ?_, HB1.out.trans (hb2.mono HB1.out.size)⟩
  rw [HV.out, Bool.eq_iff_iff]
  simp
  omega

set_option maxRecDepth 100000 in
set_option maxHeartbeats 2000000 in
theorem around_any (a : Option Addr) (n cap F : Nat) (gs : List Nat) (w : World) (hn : gs.length = n) (hm : n ≤ 12) (hs : F < 2 ^ n) (hg : ∀ i, i < n → gs[i]?.getD 0 < 65536) (hz : Sets w a gs) (hT : TabW w) :
    Calls Tryd.prog 60 #[.slice a n cap, .int .u16 F] w (GivesN ((aroundN gs (F + 1) F F).map fun (x : Nat) => (x : Int)) w) := by
  have h16 : 2 ^ n ≤ 4096 := Nat.le_trans (Nat.pow_le_pow_right (by omega) hm) (by decide)
  have HZ := Lib.hid hz
  have HZA := Lib.hid hz.at
  have HN := Lib.hid hn
  have HG := Lib.hid hg
  have HT := Lib.hid hT
  obtain ⟨R, hR⟩ : ∃ R, aroundN gs (F + 1) F F = R := ⟨_, rfl⟩
  rw [hR]
  have HR := Lib.hid hR
  have HSUB0 : Hid (Sub F F) := Lib.hid (Sub.refl F)
  have HF := Lib.hid hs
  have hF16 : F < 65536 := by omega
  clear hz hn hg hR hT hs
  go_enter Tryd.func60, Tryd.ntmps60
  go_wp2
  go_loopw [1, 5, 6] (fun s v x wr => ∃ left nx f q : Nat, ∃ L : List Nat, s = .int .u16 left ∧ x = .int .u16 nx ∧ left < 2 ^ n ∧ Hid (Sub nx left) ∧ left < f ∧ q + left ≤ F ∧ Hid (R = L ++ aroundN gs f left nx) ∧ CollN w (L.map fun (x : Nat) => (x : Int)) q v wr) (fun s _ _ _ => (intOf s).toNat)
  case atStart => exact ⟨F, F, F + 1, 0, [], rfl, rfl, HF.out, HSUB0, Nat.lt_succ_self _, by omega, Lib.hid (by rw [HR.out]; rfl), CollN.start w⟩
  case round =>
    obtain ⟨left, nx, f, q, L, rfl, rfl, hlf, hsub, hff, hq, hE, hC⟩ := hrel
    obtain ⟨f, rfl⟩ : ∃ f', f = f' + 1 := ⟨f - 1, by omega⟩
    have hsz := hC.1.size
    have HC := Lib.hid hC
    clear hC
    obtain ⟨a0, cp0, rfl⟩ := HC.out.slice
    have hnxle := hsub.out.le
    by_cases h0 : nx = 0
    · have HD : Hid (R = L) := Lib.hid (by rw [hE.out, aroundN, if_pos h0]; simp)
      subst h0
      go_wp2
      go_ret
      rw [HD.out]
      exact HC.out.gives
    · have hne : ((nx : Int) != 0) = true := by rw [bne_iff_ne]; omega
      have H1 := Lib.hid (least_any nx wr (by omega) (HT.out.next HC.out.1))
      obtain ⟨hb, hv16⟩ := tzN_bit (s := nx) (by omega) h0
      have hvl := hsub.out _ hb
      have HD0 : Hid (R = L ++ tzN nx :: aroundN gs f (left &&& (65535 - 2 ^ tzN nx)) ((gs[tzN nx]?.getD 0) &&& (left &&& (65535 - 2 ^ tzN nx)))) := Lib.hid (by rw [hE.out, aroundN, if_neg h0])
      obtain ⟨v, hv⟩ : ∃ v, tzN nx = v := ⟨_, rfl⟩
      rw [hv] at H1 hv16 hvl HD0
      have hvn : v < n := bit_lt hlf hvl
      have hlt := less_without (left := left) (v := v) hv16 hvl
      have hp2 : 2 ^ v < 65536 := Nat.pow_lt_pow_right (m := v) (n := 16) (by omega) (by omega)
      have HS1 := Lib.hid (fun (wx : World) => setOf_any (some ⟨wx.heap.size, 0, none⟩) 1 1 [v] (wx.alloc (.cells #[.int .i64 (v : Int)] 3)) rfl (by omega) (by simp; omega) (fun i hi => ⟨wx.heap.size, 0, rfl, by
        have : i = 0 := by simpa using hi
        subst this
        exact World.cell?_alloc_at _ _ _ _ rfl⟩))
      have HAN : Hid (bits .andNot .u16 (left : Int) ((setN' [v] : Nat) : Int) = ((left &&& (65535 - 2 ^ v) : Nat) : Int)) := Lib.hid (by
        have e : setN' [v] = 2 ^ v := by simp [setN']
        rw [e, u16_andNot_nat _ _ (by omega) hp2])
      rcases HZA.out with h | ⟨bg, og, rfl, hcg⟩
      · have := HN.out; subst h; simp at this; omega
      have cg := hcg v (by rw [HN.out]; exact hvn)
      have hgv := HG.out v hvn
      obtain ⟨y, hy⟩ : ∃ y, gs[v]?.getD 0 = y := ⟨_, rfl⟩
      rw [hy] at cg hgv HD0
      have HCG := Lib.hid cg
      obtain ⟨nl, hnl⟩ : ∃ nl, left &&& (65535 - 2 ^ v) = nl := ⟨_, rfl⟩
      rw [hnl] at HAN hlt HD0
      have HD : Hid (R = (L ++ [v]) ++ aroundN gs f nl (y &&& nl)) := Lib.hid (by rw [HD0.out]; simp)
      have HA : Hid (bits .and .u16 (y : Int) (nl : Int) = ((y &&& nl : Nat) : Int)) := Lib.hid (u16_and_nat _ _ hgv (by omega))
      have HSN : Hid (Sub (y &&& nl) nl) := Lib.hid (fun b hb => by rw [Nat.testBit_and, Bool.and_eq_true] at hb; exact hb.2)
      clear h0 hb hv hp2 hvl hcg hy hnl HD0 cg
      have hvN' : (v : Int) < (n : Int) := by omega
      go_wp2_with (first
        | (go_at_call 62; refine H1.out.mono ?_; rintro e w1 ⟨rfl, rfl⟩)
        | (go_at_call 57; refine (HS1.out _).mono ?_; rintro e w' ⟨rfl, rfl⟩)
        | (at_builtin; refine wpList_app_int rfl (.tmp 13) (.tmp 15) rfl w.heap.size _ _ _ rfl (v : Int) _ rfl rfl HC.out.2.2 (by omega) hsz ?_; intro g cp w2 hr2 hg2 hat2 _; have H2 := Lib.hid (HC.out.next hr2 hg2); clear hr2 hg2 hat2; have cg2 := (H2.out.1.cell (p := ⟨bg, og + v, none⟩) (World.block_lt_of_cell? w _ HCG.out)).trans HCG.out; have hbg2 : bg < w2.heap.size := World.block_lt_of_cell? w2 _ cg2))
      go_roundw
      case rel => exact ⟨nl, y &&& nl, f, q + 1, L ++ [v], by rw [HAN.out], by rw [HAN.out, HA.out], by omega, HSN, by omega, by omega, HD, by rw [List.map_append]; exact H2.out.alloc _⟩
      case measure => simp [intOf, HAN.out]; omega

/-- The nodes of the ring, as integers. -/
def ringI (n : Nat) (gs : List Nat) : List Int := (ringOf n gs).map fun (x : Nat) => (x : Int)
set_option maxRecDepth 100000 in
set_option maxHeartbeats 2000000 in
theorem ring_any (a : Option Addr) (n cap : Nat) (gs : List Nat) (w : World) (hn : gs.length = n) (hm : n ≤ 12) (hg : ∀ i, i < n → gs[i]?.getD 0 < 65536) (hz : Sets w a gs) (hT : TabW w) :
    Calls Tryd.prog 36 #[.slice a n cap] w (GivesN (ringI n gs) w) := by
  have H3 := Lib.hid (nodes_any a n cap w hm)
  have HCH := Lib.hid (fun (s : Nat) (wx : World) (hs : s < 65536) (hb : Below w.heap.size w wx) => isChordal_any a n cap s gs wx hn hm hs hg (hz.below hb))
  have HAR := Lib.hid (fun (wx : World) (hb : Below w.heap.size w wx) => around_any a n cap (ringTo gs (2 ^ n - 1) n) gs wx hn hm (Nat.lt_of_le_of_lt (ringTo_le gs _ n) (full_lt n)) hg (hz.below hb) (hT.next hb))
  have hF := pow_small hm
  have HR : Hid (ringI n gs = (aroundN gs (ringTo gs (2 ^ n - 1) n + 1) (ringTo gs (2 ^ n - 1) n) (ringTo gs (2 ^ n - 1) n)).map fun (x : Nat) => (x : Int)) := Lib.hid rfl
  rw [← HR.out] at HAR
  have HLE := Lib.hid (ringTo_le gs (2 ^ n - 1))
  have HST := Lib.hid (ringTo_succ gs (2 ^ n - 1))
  have HZ0 : Hid (ringTo gs (2 ^ n - 1) 0 = 2 ^ n - 1) := Lib.hid rfl
  obtain ⟨R, hR⟩ : ∃ R, ringI n gs = R := ⟨_, rfl⟩
  rw [hR] at HAR ⊢
  obtain ⟨F, hFF⟩ : ∃ F, 2 ^ n - 1 = F := ⟨_, rfl⟩
  rw [hFF] at H3 HAR HLE HST HZ0 hF
  clear hn hg hz hT HR hR hFF
  go_enter Tryd.func36, Tryd.ntmps36
  go_wp2_with (go_at_call 35; refine H3.out.mono ?_; rintro e w' ⟨rfl, rfl⟩)
  go_loopw [10, 3, 4, 5] (fun i s _ _ wr => ∃ k L : Nat, k ≤ n ∧ i = .int .i64 k ∧ s = .int .u16 L ∧ L ≤ F ∧ Hid (L = ringTo gs F k) ∧ Below w.heap.size w wr) (fun i _ _ _ _ => n - (intOf i).toNat)
  case atStart => exact ⟨0, F, Nat.zero_le _, rfl, rfl, Nat.le_refl _, Lib.hid HZ0.out.symm, Below.refl _ _⟩
  case round =>
    obtain ⟨k, L, hk, rfl, rfl, hLF, HL, hb⟩ := hrel
    have HB := Lib.hid hb
    clear hb
    by_cases hlt : k < n
    · have hp2 : 2 ^ k < 65536 := Nat.pow_lt_pow_right (m := k) (n := 16) (by omega) (by omega)
      have hS : Calls Tryd.prog 57 #[.slice (some ⟨wr.heap.size, 0, none⟩) 1 1] (wr.alloc (.cells #[.int .i64 (k : Int)] 3)) fun e w' => e = .returned (.int .u16 (2 ^ k : Nat)) ∧ wr.alloc (.cells #[.int .i64 (k : Int)] 3) = w' := by
        have := setOf_any (some ⟨wr.heap.size, 0, none⟩) 1 1 [k] (wr.alloc (.cells #[.int .i64 (k : Int)] 3)) rfl (by omega) (by simp; omega) (fun i hi => ⟨wr.heap.size, 0, rfl, by
          have : i = 0 := by simpa using hi
          subst this
          exact World.cell?_alloc_at _ _ _ _ rfl⟩)
        rwa [show setN' [k] = 2 ^ k by simp [setN']] at this
      have HAN : Hid (bits .andNot .u16 (L : Int) ((2 ^ k : Nat) : Int) = ((L &&& (65535 - 2 ^ k) : Nat) : Int)) := Lib.hid (u16_andNot_nat _ _ (by omega) hp2)
      have hle : L &&& (65535 - 2 ^ k) ≤ L := Nat.and_le_left
      have HNX : Hid (ringTo gs F (k + 1) = if chdB gs (L &&& (65535 - 2 ^ k)) = true then L else L &&& (65535 - 2 ^ k)) := Lib.hid (by rw [HST.out, ← HL.out, dropB])
      obtain ⟨M, hM⟩ : ∃ M, L &&& (65535 - 2 ^ k) = M := ⟨_, rfl⟩
      rw [hM] at HAN hle HNX
      obtain ⟨P, hP⟩ : ∃ P, 2 ^ k = P := ⟨_, rfl⟩
      rw [hP] at HAN hS
      have HS1 := Lib.hid hS
      have HC := Lib.hid (fun (wx : World) (hb : Below w.heap.size w wx) => HCH.out M wx (by omega) hb)
      obtain ⟨b, hb⟩ : ∃ b, chdB gs M = b := ⟨_, rfl⟩
      rw [hb] at HC HNX
      clear hM hP hS hp2 hb
      have hkn : (k : Int) < (n : Int) := by omega
      cases b with
      | true =>
        rw [if_pos rfl] at HNX
        go_wp2_with (first
          | (go_at_call 57; refine HS1.out.mono ?_; rintro e w' ⟨rfl, rfl⟩)
          | (go_at_call 34; rw [HAN.out]; refine (HC.out _ (HB.out.alloc HB.out.size _)).mono ?_; rintro e w' ⟨rfl, hb2⟩; have HB2 := Lib.hid ((HB.out.alloc HB.out.size _).trans (hb2.mono (HB.out.alloc HB.out.size _).size)); clear hb2))
        go_roundw
        case rel => exact ⟨k + 1, L, by omega, by go_num, rfl, hLF, Lib.hid HNX.out.symm, HB2.out⟩
        case measure => simp [intOf]; omega
      | false =>
        rw [if_neg (by simp)] at HNX
        go_wp2_with (first
          | (go_at_call 57; refine HS1.out.mono ?_; rintro e w' ⟨rfl, rfl⟩)
          | (go_at_call 34; rw [HAN.out]; refine (HC.out _ (HB.out.alloc HB.out.size _)).mono ?_; rintro e w' ⟨rfl, hb2⟩; have HB2 := Lib.hid ((HB.out.alloc HB.out.size _).trans (hb2.mono (HB.out.alloc HB.out.size _).size)); clear hb2))
        go_roundw
        case rel => exact ⟨k + 1, M, by omega, by go_num, rfl, by omega, Lib.hid HNX.out.symm, HB2.out⟩
        case measure => simp [intOf]; omega
    · obtain rfl : k = n := by omega
      have HA := Lib.hid (HAR.out _ HB.out)
      rw [← HL.out] at HA
      go_wp2_with (go_at_call 60; refine HA.out.mono ?_; rintro e w' ⟨a1, c1, rfl, hc1⟩; have HC1 := Lib.hid hc1; clear hc1)
      go_ret
      exact ⟨a1, c1, rfl, HB.out.trans (HC1.out.1.mono HB.out.size), rfl, ownsRow_weaken HC1.out.2.2 HB.out.size⟩

/-- What 'Ring' hands back of a valid graph. -/
def RingV (n : Nat) (gs : List Nat) (w : World) (e : Ending) (w' : World) : Prop := Below w.heap.size w w' ∧
  (if chdB gs (2 ^ n - 1) = true then e = .returned (.tuple #[.slice none 0 0, .int .i64 5])
   else ∃ a c, e = .returned (.tuple #[.slice a (ringI n gs).length c, .int .i64 0]) ∧ w'.ownsRow w.heap.size 3 1 (.slice a (ringI n gs).length c) (ringI n gs).length ((ringI n gs).map (Value.int .i64)))
set_option maxRecDepth 100000 in
set_option maxHeartbeats 2000000 in
theorem Ring_any (N : Int) (a : Option Addr) (m cap : Nat) (es : List (Int × Int)) (n : Nat) (gs : List Nat) (w : World) (hN : N = n) (h2 : n ≤ 12) (hadj : Adj n gs es) (hT : TabW w)
    (hcall : Calls Tryd.prog 33 #[.int .i64 N, .slice a m cap] w (GoodG n gs w)) :
    Calls Tryd.prog 9 #[.int .i64 N, .slice a m cap] w (RingV n gs w) := by
  have HC := Lib.hid hcall
  have H3 := Lib.hid (fun (wx : World) (g : Nat) => nodes_any (some ⟨g, 0, none⟩) n n wx h2)
  have HQ := Lib.hid (fun (wx : World) (g : Nat) (hr : RowG wx g gs) => isChordal_any (some ⟨g, 0, none⟩) n n (2 ^ n - 1) gs wx hadj.len h2 (pow_small h2) (fun i _ => hadj.lt16 h2 i) hr.sets)
  have HR := Lib.hid (fun (wx : World) (g : Nat) (hr : RowG wx g gs) (ht : TabW wx) => ring_any (some ⟨g, 0, none⟩) n n gs wx hadj.len h2 (fun i _ => hadj.lt16 h2 i) hr.sets ht)
  have HT := Lib.hid hT
  unfold RingV
  obtain ⟨R, hR⟩ : ∃ R, ringI n gs = R := ⟨_, rfl⟩
  rw [hR] at HR ⊢
  obtain ⟨F, hF⟩ : ∃ F, 2 ^ n - 1 = F := ⟨_, rfl⟩
  rw [hF] at H3 HQ ⊢
  obtain ⟨b, hb⟩ : ∃ b, chdB gs F = b := ⟨_, rfl⟩
  rw [hb] at HQ ⊢
  subst hN
  clear hadj hcall hF hT hb hR
  cases b with
  | true =>
    go_enter Tryd.func9, Tryd.ntmps9
    go_wp2_with (first
      | (go_at_call 33; refine HC.out.mono ?_; rintro e w1 ⟨g, rfl, hr, hge, hb⟩; have HG := Lib.hid (And.intro hr (And.intro hge hb)); clear hr hge hb)
      | (go_at_call 35; refine (H3.out _ g).mono ?_; rintro e w2 ⟨rfl, rfl⟩)
      | (go_at_call 34; refine (HQ.out _ g HG.out.1).mono ?_; rintro e w3 ⟨rfl, hb3⟩; have HB3 := Lib.hid (HG.out.2.2.trans (hb3.mono HG.out.2.2.size)); clear hb3))
    go_ret2
    exact ⟨HB3.out, rfl⟩
  | false =>
    go_enter Tryd.func9, Tryd.ntmps9
    go_wp2_with (first
      | (go_at_call 33; refine HC.out.mono ?_; rintro e w1 ⟨g, rfl, hr, hge, hb⟩; have HG := Lib.hid (And.intro hr (And.intro hge hb)); clear hr hge hb)
      | (go_at_call 35; refine (H3.out _ g).mono ?_; rintro e w2 ⟨rfl, rfl⟩)
      | (go_at_call 34; refine (HQ.out _ g HG.out.1).mono ?_; rintro e w3 ⟨rfl, hb3⟩; have HB3 := Lib.hid (And.intro (HG.out.2.2.trans (hb3.mono HG.out.2.2.size)) (HG.out.1.below hb3 (lt_of_row HG.out.1))); clear hb3)
      | (go_at_call 36; refine (HR.out _ g HB3.out.2 (HT.out.next HB3.out.1)).mono ?_; rintro e w4 ⟨a1, c1, rfl, hc1⟩; have HC1 := Lib.hid hc1; clear hc1))
    go_ret2
    exact ⟨HB3.out.1.trans (HC1.out.1.mono HB3.out.1.size), a1, c1, rfl, ownsRow_weaken HC1.out.2.2 HB3.out.1.size⟩

set_option maxRecDepth 100000 in
set_option maxHeartbeats 2000000 in
theorem Ring_bad {N : Int} {es : List (Int × Int)} (h : graphR N es = false) (a : Option Addr) (m cap : Nat) (w : World) (hl : es.length = m) (hm : m ≤ 1000) (he : Edges w a es) :
    Calls Tryd.prog 9 #[.int .i64 N, .slice a m cap] w (Gives2 (.slice none 0 0) (.int .i64 1) w) := by
  have HC := Lib.hid (graphOf_wrong h a m cap w hl hm he)
  clear h hl he
  go_enter Tryd.func9, Tryd.ntmps9
  go_wp2_with (go_at_call 33; refine HC.out.mono ?_; rintro e w1 ⟨rfl, hb⟩; have HB := Lib.hid hb; clear hb)
  go_ret2
  exact ⟨rfl, HB.out⟩

end Go.Proofs.YthlbedhjekbfpaaDoor
