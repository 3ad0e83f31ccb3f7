/-
  'apart' and 'Apart': the walks; other names of the nodes, pure: what stays of a graph; the edges under other names.
-/
import Derived.Test.YthlbedhjekbfpaaDoorRw
import Derived.Test.YthlbedhjekbfpaaDoorXa
import Derived.Test.YthlbedhjekbfpaaDoorYa
namespace Go.Proofs.YthlbedhjekbfpaaDoor

section
open Go.RowKit Go.Sort

theorem CollL.slice {w wr : World} {ls : List (List Int)} {k : Nat} {v : Value} (h : CollL w ls k v wr) : ∃ a cap, v = .slice a k cap := by
  obtain ⟨_, _, _, h3, _⟩ := h
  exact ownsRow_slice h3

/-- One node of the order: what is taken, what is left, and the cover. -/
def apStep (gs : List Nat) (s : Nat × Nat × List Nat) (v : Nat) : Nat × Nat × List Nat :=
  if s.2.1.testBit v then (s.1 ||| 2 ^ v, s.2.1 &&& (65535 - gs[v]?.getD 0), s.2.2 ++ [gs[v]?.getD 0 &&& s.2.1]) else s
def apTo (gs : List Nat) (L : List Nat) : Nat × Nat × List Nat := L.foldl (apStep gs) (0, 2 ^ gs.length - 1, [])
theorem apTo_snoc (gs L : List Nat) (v : Nat) : apTo gs (L ++ [v]) = apStep gs (apTo gs L) v := by simp [apTo, List.foldl_append]
theorem apTo_lt (gs : List Nat) (hn : gs.length ≤ 12) (L : List Nat) (hL : ∀ v ∈ L, v < 16) : (apTo gs L).1 < 65536 ∧ (apTo gs L).2.1 < 65536 ∧ (apTo gs L).2.2.length ≤ L.length := by
  have key : ∀ (L : List Nat) (s : Nat × Nat × List Nat), (∀ v ∈ L, v < 16) → s.1 < 65536 → s.2.1 < 65536 → (L.foldl (apStep gs) s).1 < 65536 ∧ (L.foldl (apStep gs) s).2.1 < 65536 ∧ (L.foldl (apStep gs) s).2.2.length ≤ s.2.2.length + L.length := by
    intro L
    induction L with
    | nil => exact fun s _ h1 h2 => ⟨h1, h2, by simp⟩
    | cons v L ih =>
      intro s h h1 h2
      have hv : v < 16 := h v (by simp)
      rw [List.foldl_cons]
      by_cases hb : s.2.1.testBit v = true
      · obtain ⟨p1, p2, p3⟩ := ih (s.1 ||| 2 ^ v, s.2.1 &&& (65535 - gs[v]?.getD 0), s.2.2 ++ [gs[v]?.getD 0 &&& s.2.1]) (fun x hx => h x (by simp [hx])) (Nat.or_lt_two_pow (n := 16) h1 (Nat.pow_lt_pow_right (by omega) hv)) (Nat.lt_of_le_of_lt Nat.and_le_left h2)
        rw [apStep, if_pos hb]
        exact ⟨p1, p2, by simp at p3 ⊢; omega⟩
      · obtain ⟨p1, p2, p3⟩ := ih s (fun x hx => h x (by simp [hx])) h1 h2
        rw [apStep, if_neg hb]
        exact ⟨p1, p2, by simp at p3 ⊢; omega⟩
  have := key L (0, 2 ^ gs.length - 1, []) hL (by simp) (Nat.lt_of_le_of_lt (Nat.sub_le _ _) (Nat.pow_lt_pow_right (m := gs.length) (n := 16) (by omega) (by omega)))
  simpa [apTo] using this
/-- What 'apart' hands back. -/
def ApartV (gs L : List Nat) (w : World) (e : Ending) (w' : World) : Prop := ∃ u c v, e = .returned (.tuple #[.slice u (listI (apTo gs L).1).length c, v]) ∧ w'.ownsRow w.heap.size 3 1 (.slice u (listI (apTo gs L).1).length c) (listI (apTo gs L).1).length ((listI (apTo gs L).1).map (Value.int .i64)) ∧ GivesL ((apTo gs L).2.2.map listI) w v w'

set_option maxRecDepth 100000 in
set_option maxHeartbeats 4000000 in
theorem apart_any (a : Option Addr) (n cap : Nat) (gs : List Nat) (aL : Option Addr) (q cL : Nat) (L : List Nat) (w : World) (hn : gs.length = n) (hm : n ≤ 12) (hg : ∀ i, i < n → gs[i]?.getD 0 < 65536) (hs : Sets w a gs) (hq : L.length = q) (hqm : q ≤ 1000) (hL : ∀ v ∈ L, v < n) (hz : Ints w aL (L.map fun (x : Nat) => (x : Int))) :
    Calls Tryd.prog 43 #[.slice a n cap, .slice aL q cL] w (ApartV gs L w) := by
  have HN := Lib.hid hn
  have HG := Lib.hid hg
  have HZ := Lib.hid hs
  have HX := Lib.hid hz.at
  have HQ := Lib.hid hq
  have HLT := Lib.hid hL
  have HND := Lib.hid (fun wx => nodes_any a n cap wx hm)
  have HB := Lib.hid (fun k => apTo_lt gs (by omega) (L.take k) (fun v hv => by have := hL v (List.mem_of_mem_take hv); omega))
  have H0 := Lib.hid (show apTo gs [] = (0, 2 ^ n - 1, []) from by rw [apTo, hn]; rfl)
  obtain ⟨F, hF⟩ : ∃ F, 2 ^ n - 1 = F := ⟨_, rfl⟩
  rw [hF] at HND H0
  clear hn hg hs hz hq hL hF
  go_enter Tryd.func43, Tryd.ntmps43
  go_wp2_with (go_at_call 35; refine (HND.out _).mono ?_; rintro e w' ⟨rfl, rfl⟩)
  go_loopw [15, 6, 7, 8] (fun i s v l wr => ∃ k : Nat, k ≤ q ∧ i = .int .i64 k ∧ s = .int .u16 (apTo gs (L.take k)).1 ∧ l = .int .u16 (apTo gs (L.take k)).2.1 ∧ Hid (CollL w ((apTo gs (L.take k)).2.2.map listI) (apTo gs (L.take k)).2.2.length v wr)) (fun i _ _ _ _ => q - (intOf i).toNat)
  case atStart => exact ⟨0, Nat.zero_le _, rfl, by rw [List.take_zero, H0.out]; rfl, by rw [List.take_zero, H0.out], by rw [List.take_zero, H0.out]; exact Lib.hid (CollL.start w)⟩
  case round =>
    obtain ⟨k, hk, rfl, rfl, rfl, HC⟩ := hrel
    by_cases hlt : k < q
    · have hkL : k < L.length := by rw [HQ.out]; exact hlt
      rcases HX.out with h | ⟨b, off, rfl, hc⟩
      · have := congrArg List.length h; rw [List.length_map] at this; simp at this; subst this; simp at hkL
      have ck := hc k (by simpa using hkL)
      have ek : ((L.map fun (x : Nat) => (x : Int))[k]?.getD 0) = ((L[k]?.getD 0 : Nat) : Int) := by simp [hkL]
      rw [ek] at ck
      have hvn : L[k]?.getD 0 < n := by rw [List.getElem?_eq_getElem hkL]; exact HLT.out _ (List.getElem_mem hkL)
      have HT : Hid (apTo gs (L.take (k + 1)) = apStep gs (apTo gs (L.take k)) (L[k]?.getD 0)) := Lib.hid (by rw [List.take_succ_eq_append_getElem hkL, apTo_snoc, List.getElem?_eq_getElem hkL]; rfl)
      obtain ⟨hb1, hb2, hb3⟩ := HB.out k
      rw [List.length_take] at hb3
      obtain ⟨v, hv⟩ : ∃ v, L[k]?.getD 0 = v := ⟨_, rfl⟩
      rw [hv] at ck hvn HT
      obtain ⟨s0, hs0⟩ : ∃ s0, apTo gs (L.take k) = s0 := ⟨_, rfl⟩
      rw [hs0] at HT HC hb1 hb2 hb3 ⊢
      obtain ⟨i0, l0, c0⟩ := s0
      simp only at HT HC hb1 hb2 hb3 ⊢
      have hsz := HC.out.1.size
      have hgv := HG.out v hvn
      obtain ⟨b', off', e1, cg⟩ := (Sets.at HZ.out).resolve_left (fun h => by have h5 := HN.out; rw [h] at h5; simp at h5; omega)
      have cgv := cg v (by rw [HN.out]; exact hvn)
      have cc := (HC.out.1.cell (p := ⟨b, off + k, none⟩) (World.block_lt_of_cell? w _ ck)).trans ck
      have c2 := (HC.out.1.cell (p := ⟨b', off' + v, none⟩) (World.block_lt_of_cell? w _ cgv)).trans cgv
      subst e1
      have hblt := World.block_lt_of_cell? wr _ c2
      have H1 := Lib.hid (fun wx => has_any l0 v wx hb2 (by omega))
      have HP := Lib.hid (show apStep gs (i0, l0, c0) v = if l0.testBit v then (i0 ||| 2 ^ v, l0 &&& (65535 - gs[v]?.getD 0), c0 ++ [gs[v]?.getD 0 &&& l0]) else (i0, l0, c0) from rfl)
      obtain ⟨y, hy⟩ : ∃ y, gs[v]?.getD 0 = y := ⟨_, rfl⟩
      rw [hy] at hgv c2 HP cgv
      have cw := cgv
      obtain ⟨vv, hvv⟩ := HC.out.slice
      obtain ⟨cv, rfl⟩ := hvv
      clear ck hc ek cg cgv hs0 hy hkL hv
      cases hb : l0.testBit v with
      | false =>
        rw [hb] at H1 HP
        clear hb
        go_wp2_with (go_at_call 58; refine (H1.out _).mono ?_; rintro e w' ⟨rfl, rfl⟩)
        go_roundw
        case rel => exact ⟨k + 1, by omega, by go_num, by rw [HT.out, HP.out]; rfl, by rw [HT.out, HP.out]; rfl, by rw [HT.out, HP.out]; exact HC⟩
        case measure => simp [intOf]; omega
      | true =>
        rw [hb] at H1 HP
        clear hb
        have hp2 : 2 ^ v < 65536 := Nat.pow_lt_pow_right (m := v) (n := 16) (by omega) (by omega)
        have hyl : y &&& l0 < 65536 := Nat.lt_of_le_of_lt Nat.and_le_left hgv
        have HE1 : Hid (bits .or .u16 (i0 : Int) ((setN' [v] : Nat) : Int) = ((i0 ||| 2 ^ v : Nat) : Int)) := Lib.hid (by
          have e : setN' [v] = 2 ^ v := by simp [setN']
          rw [e, u16_or_nat _ _ hb1 hp2])
        have HE2 : Hid (bits .and .u16 (y : Int) (l0 : Int) = ((y &&& l0 : Nat) : Int)) := Lib.hid (u16_and_nat _ _ hgv hb2)
        have HE3 : Hid (bits .andNot .u16 (l0 : Int) (y : Int) = ((l0 &&& (65535 - y) : Nat) : Int)) := Lib.hid (u16_andNot_nat _ _ hb2 hgv)
        have HS1 := Lib.hid (fun (wx : World) => setOf_any (some ⟨wx.heap.size, 0, none⟩) 1 1 [v] (wx.alloc (.cells #[.int .i64 (v : Int)] 3)) rfl (by omega) (by simp; omega) (fun i hi => ⟨wx.heap.size, 0, rfl, by
          have : i = 0 := by simpa using hi
          subst this
          exact World.cell?_alloc_at _ _ _ _ rfl⟩))
        have HLI := Lib.hid (fun wx => list_any (y &&& l0) wx hyl)
        have HC1 := Lib.hid (HC.out.kept ((Below.refl _ wr).alloc (Nat.le_refl _) (.cells #[.int .i64 (v : Int)] 3)))
        have c3 : (wr.alloc (.cells #[.int .i64 (v : Int)] 3)).cell? ⟨b', off' + v, none⟩ = some (.int .u16 (y : Int)) := by
          rw [← c2]; exact ((Below.refl wr.heap.size wr).alloc (Nat.le_refl _) _).cell (p := ⟨b', off' + v, none⟩) hblt
        clear hp2 hyl hgv hb1 hb2
        obtain ⟨t, ht⟩ : ∃ t, y &&& l0 = t := ⟨_, rfl⟩
        rw [ht] at HE2 HLI HP
        clear ht
        go_wp2_with (first
          | (go_at_call 58; refine (H1.out _).mono ?_; rintro e w' ⟨rfl, rfl⟩)
          | (go_at_call 57; refine (HS1.out _).mono ?_; rintro e w' ⟨rfl, rfl⟩))
        rw [HE2.out]
        refine (HLI.out _).mono ?_
        rintro e w3 ⟨a3, c3', rfl, hc3⟩
        have c4 := (hc3.1.cell (p := ⟨b', off' + v, none⟩) (World.block_lt_of_cell? _ _ c3)).trans c3
        have HLS : Hid ((listN t).map (fun (x : Nat) => (x : Int)) = listI t) := Lib.hid rfl
        rw [HLS.out] at hc3 ⊢
        have HC3 := Lib.hid (HC1.out.kept hc3.1)
        obtain ⟨hb3', hl3, vs3, hr3, he3⟩ := HC3.out
        have HU : Hid (w3.ownsRow w.heap.size 3 1 (.slice a3 (listI t).length c3') (listI t).length ((listI t).map (Value.int .i64))) := Lib.hid (ownsRow_weaken hc3.2.2 HC1.out.1.size)
        have HX3 := Lib.hid (And.intro hb3' (And.intro hl3 (And.intro hr3 he3)))
        have hsz3 := hb3'.size
        have hl4 : c0.length ≤ 1000000 := by omega
        have hblt3 := World.block_lt_of_cell? w3 _ c4
        clear hc3 hb3' hl3 hr3 he3 HC1 HC3 c3 c2 cc
        go_wp2_with (at_builtin; refine wpList_app_row rfl (.tmp 27) (.tmp 35) rfl w.heap.size _ c0.length vs3 rfl (.slice a3 (listI t).length c3') rfl _ rfl rfl HX3.out.2.2.1 hl4 hsz3 ?_; intro g4 cp4 w4 hr4 hg4; have H4 := Lib.hid (CollL.next HX3.out HU.out hr4 hg4); have c5 : w4.cell? ⟨b', off' + v, none⟩ = some (.int .u16 (y : Int)) := (H4.out.1.cell (p := ⟨b', off' + v, none⟩) (World.block_lt_of_cell? w _ cw)).trans cw; clear hr4 hg4)
        refine ⟨⟨k + 1, by omega, by go_num, by rw [HT.out, HP.out, if_pos trivial, HE1.out], by rw [HT.out, HP.out, if_pos trivial, HE3.out], ?_⟩, by simp [intOf]; omega⟩
        rw [HT.out, HP.out, if_pos trivial, List.map_append, List.length_append]
        exact H4
    · obtain rfl : k = q := by omega
      have htk : L.take k = L := List.take_of_length_le (by rw [HQ.out]; exact Nat.le_refl _)
      rw [htk] at HC ⊢
      obtain ⟨hb1, hb2, hb3⟩ := HB.out k
      rw [htk] at hb1
      have HAV : Hid (∀ e w', ApartV gs L w e w' ↔ ApartV gs L w e w') := Lib.hid fun _ _ => Iff.rfl
      obtain ⟨s0, hs0⟩ : ∃ s0, apTo gs L = s0 := ⟨_, rfl⟩
      have HS0 := Lib.hid hs0
      rw [hs0] at HC hb1 ⊢
      obtain ⟨i0, l0, c0⟩ := s0
      simp only at HC hb1 ⊢
      have HLI := Lib.hid (fun wx => list_any i0 wx hb1)
      have HLS : Hid ((listN i0).map (fun (x : Nat) => (x : Int)) = listI i0) := Lib.hid rfl
      obtain ⟨vv, cv, rfl⟩ := HC.out.slice
      clear hs0 htk hb2 hb3
      go_wp2_with (go_at_call 52; refine (HLI.out _).mono ?_; rintro e w3 ⟨a3, c3, rfl, hc3⟩; rw [HLS.out] at hc3 ⊢; have H3 := Lib.hid hc3; clear hc3)
      go_ret2
      unfold ApartV
      rw [HS0.out]
      exact ⟨_, _, _, rfl, ownsRow_weaken H3.out.2.2 HC.out.1.size, ((HC.out.kept H3.out.1)).gives (Below.refl _ _)⟩

/-- What 'Apart' hands back of a valid graph. -/
def ApV (n : Nat) (gs : List Nat) (w : World) (e : Ending) (w' : World) : Prop := Below w.heap.size w w' ∧
  (if (ordI n gs).length < n then e = .returned (.tuple #[.slice none 0 0, .slice none 0 0, .int .i64 5])
   else ∃ u c v, e = .returned (.tuple #[.slice u (listI (apTo gs (ordN n gs)).1).length c, v, .int .i64 0]) ∧ w'.ownsRow w.heap.size 3 1 (.slice u (listI (apTo gs (ordN n gs)).1).length c) (listI (apTo gs (ordN n gs)).1).length ((listI (apTo gs (ordN n gs)).1).map (Value.int .i64)) ∧ GivesL ((apTo gs (ordN n gs)).2.2.map listI) w v w')
set_option maxRecDepth 100000 in
set_option maxHeartbeats 2000000 in
theorem Apart_any (N : Int) (a : Option Addr) (m cap : Nat) (es : List (Int × Int)) (n : Nat) (gs : List Nat) (w : World) (hN : N = n) (h2 : n ≤ 12) (hadj : Adj n gs es)
    (hcall : Calls Tryd.prog 33 #[.int .i64 N, .slice a m cap] w (GoodG n gs w)) (hord : ∀ v ∈ ordN n gs, v < n) (hlen : (ordN n gs).length ≤ 1000) :
    Calls Tryd.prog 16 #[.int .i64 N, .slice a m cap] w (ApV n gs w) := by
  have HC := Lib.hid (chordalOf_any N a m cap es n gs w hN h2 hadj hcall)
  have HA := Lib.hid (fun (wx : World) (g : Nat) (b : Option Addr) (c q : Nat) (hr : RowG wx g gs) (hq : (ordN n gs).length = q) (hz : Ints wx b (ordI n gs)) => apart_any (some ⟨g, 0, none⟩) n n gs b q c (ordN n gs) wx hadj.len h2 (fun i _ => hadj.lt16 h2 i) hr.sets hq (by omega) hord hz)
  have HOL : Hid ((ordN n gs).length = (ordI n gs).length) := Lib.hid (by rw [ordI, List.length_map])
  subst hN
  clear hadj hcall hord hlen
  by_cases hlt : (ordI n gs).length < n
  · have HLT := Lib.hid hlt
    clear hlt
    go_enter Tryd.func16, Tryd.ntmps16
    go_wp2_with (go_at_call 32; refine HC.out.mono ?_; rintro e w1 ⟨hb, h⟩; rw [if_pos HLT.out] at h; subst h)
    go_ret3
    exact ⟨hb, by rw [if_pos HLT.out]; rfl⟩
  · have HLT := Lib.hid hlt
    clear hlt
    go_enter Tryd.func16, Tryd.ntmps16
    go_wp2_with (first
      | (go_at_call 32; refine HC.out.mono ?_; rintro e w1 ⟨hb, h⟩; rw [if_neg HLT.out] at h; obtain ⟨g, a1, c1, rfl, hr, hge, hown⟩ := h; have HO := Lib.hid (And.intro hb (And.intro hr hown)); clear hb hown hr hge)
      | (go_at_call 43; refine (HA.out w1 g a1 c1 _ HO.out.2.1 HOL.out (Ints.of_owns HO.out.2.2)).mono ?_; rintro e w2 ⟨u, c, v, rfl, hu, hv⟩; have H2 := Lib.hid (And.intro hu hv); clear hu hv))
    go_ret3
    obtain ⟨b2, c2, vs2, rfl, k1, k2, k3⟩ := H2.out.2
    have hsz := HO.out.1.size
    refine ⟨HO.out.1.trans (k3.mono hsz), ?_⟩
    rw [if_neg HLT.out]
    exact ⟨_, _, _, rfl, ownsRow_weaken H2.out.1 hsz, b2, c2, vs2, rfl, ownsRow_weaken k1 hsz, fun i hi => ownsRow_weaken (k2 i hi) hsz, HO.out.1.trans (k3.mono hsz)⟩
end

section
section
/-- Two graphs that differ only in the names of their nodes. -/
structure Ren (es fs : List (Int × Int)) (n : Nat) (p q : Nat → Nat) : Prop where
  lt : ∀ a, a < n → p a < n
  lt' : ∀ a, a < n → q a < n
  qp : ∀ a, a < n → q (p a) = a
  pq : ∀ a, a < n → p (q a) = a
  near : ∀ a b, a < n → b < n → (nearE fs (p a) (p b) ↔ nearE es a b)
theorem Ren.symm {es fs : List (Int × Int)} {n : Nat} {p q : Nat → Nat} (r : Ren es fs n p q) : Ren fs es n q p where
  lt := r.lt'
  lt' := r.lt
  qp := r.pq
  pq := r.qp
  near a b ha hb := by rw [← r.near _ _ (r.lt' a ha) (r.lt' b hb), r.pq a ha, r.pq b hb]
theorem Ren.chd {es fs : List (Int × Int)} {n : Nat} {p q : Nat → Nat} (r : Ren es fs n p q) (h : Chd (nearE es) n (2 ^ n - 1)) : Chd (nearE fs) n (2 ^ n - 1) := by
  intro T hT h0 _
  have bit : ∀ a, (maskP (fun a => T.testBit (p a)) n).testBit a = true ↔ a < n ∧ T.testBit (p a) = true := fun a => by
    rw [maskP_bit, Bool.and_eq_true, decide_eq_true_iff]
  have bup : ∀ b, T.testBit b = true → (maskP (fun a => T.testBit (p a)) n).testBit (q b) = true := fun b hb => (bit _).2 ⟨r.lt' b (bit_lt hT hb), by rw [r.pq b (bit_lt hT hb)]; exact hb⟩
  obtain ⟨b0, hb0⟩ := some_bit h0
  obtain ⟨s, hs1, hs2⟩ := h _ (maskP_lt _ _) (not_zero (bup b0 hb0)) (fun b hb => by rw [full_bits, decide_eq_true_iff]; exact ((bit b).1 hb).1)
  obtain ⟨hsn, hsT⟩ := (bit s).1 hs1
  refine ⟨p s, hsT, fun a b ha hb h1 h2 hab => ?_⟩
  have han := bit_lt hT ha
  have hbn := bit_lt hT hb
  rw [← r.symm.near _ _ (r.lt s hsn) han, r.qp s hsn] at h1
  rw [← r.symm.near _ _ (r.lt s hsn) hbn, r.qp s hsn] at h2
  rw [← r.symm.near _ _ han hbn]
  exact hs2 _ _ (bup a ha) (bup b hb) h1 h2 fun e => hab (by rw [← r.pq a han, ← r.pq b hbn, e])
theorem Ren.rep {es fs : List (Int × Int)} {n : Nat} {p q : Nat → Nat} (r : Ren es fs n p q) {L H : Nat → Int} (h : Rep es n L H) : Rep fs n (fun a => L (q a)) (fun a => H (q a)) where
  le a ha := h.le _ (r.lt' a ha)
  near a b ha hb hab := by
    rw [← r.symm.near a b ha hb]
    exact h.near _ _ (r.lt' a ha) (r.lt' b hb) fun e => hab (by rw [← r.pq a ha, ← r.pq b hb, e])
theorem Ren.errO {es fs : List (Int × Int)} {n : Nat} {p q : Nat → Nat} {gs hs : List Nat} (r : Ren es fs n p q) (hg : Adj n gs es) (hh : Adj n hs fs) (hn : n ≤ 12) : errO n gs = errO n hs := by
  have h1 : Go.Proofs.YthlbedhjekbfpaaDoor.errO n gs = 0 ↔ Go.Proofs.YthlbedhjekbfpaaDoor.errO n hs = 0 := by rw [errO_chd hg hn, errO_chd hh hn]; exact ⟨r.chd, r.symm.chd⟩
  have h2 := errO_le n gs
  have h3 := errO_le n hs
  omega
theorem Ren.errS {es fs : List (Int × Int)} {n : Nat} {p q : Nat → Nat} {gs hs : List Nat} (r : Ren es fs n p q) (hg : Adj n gs es) (hh : Adj n hs fs) (h1 : 1 ≤ n) (hn : n ≤ 12) : errS n gs = errS n hs := by
  have h1 : Go.Proofs.YthlbedhjekbfpaaDoor.errS n gs = 0 ↔ Go.Proofs.YthlbedhjekbfpaaDoor.errS n hs = 0 := by
    rw [errS_rep hg h1 hn, errS_rep hh h1 hn]
    exact ⟨fun ⟨L, H, h⟩ => ⟨_, _, r.rep h⟩, fun ⟨L, H, h⟩ => ⟨_, _, r.symm.rep h⟩⟩
  have h2 := errS_le n gs
  have h3 := errS_le n hs
  omega
theorem clique_iff {n : Nat} {gs : List Nat} {es : List (Int × Int)} (h : Adj n gs es) (hn : n ≤ 12) {C : Nat} : C ∈ cliquesN gs ↔ C < 2 ^ n ∧ ∀ v, v < n → (C.testBit v = true ↔ ∀ b, C.testBit b = true → v = b ∨ nearE es v b) := by
  constructor
  · exact fun hC => ⟨clique_lt h hC, fun v hv => clique_max h hn hC hv⟩
  · rintro ⟨hC, hm⟩
    unfold cliquesN clsTo
    rw [List.mem_filter, List.mem_range, h.len, maxAt, List.all_eq_true, h.len]
    refine ⟨hC, fun v hv => ?_⟩
    have hv := List.mem_range.1 hv
    have h16 : 2 ^ n ≤ 65536 := Nat.le_trans (Nat.pow_le_pow_right (by omega) hn) (by decide)
    rw [maxB, beq_iff_eq, Bool.eq_iff_iff, hm v hv, subB_iff (h.lt16 hn v) (by omega)]
    refine forall_congr' fun b => imp_congr_right fun _ => ?_
    rw [h.bit v b hv, Bool.or_eq_true, decide_eq_true_iff]; rfl
theorem Ren.cliques_le {es fs : List (Int × Int)} {n : Nat} {p q : Nat → Nat} {gs hs : List Nat} (r : Ren es fs n p q) (hg : Adj n gs es) (hh : Adj n hs fs) (hn : n ≤ 12) : (cliquesN gs).length ≤ (cliquesN hs).length := by
  have bit : ∀ s b : Nat, (maskP (fun b => s.testBit (q b)) n).testBit b = true ↔ b < n ∧ s.testBit (q b) = true := fun s b => by
    rw [maskP_bit, Bool.and_eq_true, decide_eq_true_iff]
  have hnd : (cliquesN gs).Nodup := List.nodup_range.sublist List.filter_sublist
  have h1 : ((cliquesN gs).map fun s => maskP (fun b => s.testBit (q b)) n).Nodup := by
    refine List.pairwise_map.2 (hnd.imp_of_mem fun {s t} hs' ht' hne e => hne (Nat.eq_of_testBit_eq fun a => ?_))
    rw [Bool.eq_iff_iff]
    have hsl := clique_lt hg hs'
    have htl := clique_lt hg ht'
    have key : ∀ a, a < n → (s.testBit a = true ↔ t.testBit a = true) := fun a ha => by
      have h1 := bit s (p a)
      have h2 := bit t (p a)
      rw [r.qp a ha] at h1 h2
      rw [e] at h1
      have h3 := h1.symm.trans h2
      exact ⟨fun h => (h3.1 ⟨r.lt a ha, h⟩).2, fun h => (h3.2 ⟨r.lt a ha, h⟩).2⟩
    exact ⟨fun h => (key a (bit_lt hsl h)).1 h, fun h => (key a (bit_lt htl h)).2 h⟩
  have := List.Nodup.length_le_of_subset h1 (l₂ := cliquesN hs) fun x hx => by
    obtain ⟨s, hs', rfl⟩ := List.mem_map.1 hx
    obtain ⟨hsl, hm⟩ := (clique_iff hg hn).1 hs'
    refine (clique_iff hh hn).2 ⟨maskP_lt _ _, fun v hv => ?_⟩
    rw [bit]
    constructor
    · rintro ⟨_, h2⟩ b hb
      obtain ⟨hbn, hb2⟩ := (bit s b).1 hb
      rcases (hm _ (r.lt' v hv)).1 h2 _ hb2 with e | e
      · exact .inl (by rw [← r.pq v hv, ← r.pq b hbn, e])
      · exact .inr ((r.symm.near v b hv hbn).1 e)
    · intro h2
      refine ⟨hv, (hm _ (r.lt' v hv)).2 fun a ha => ?_⟩
      have han := bit_lt hsl ha
      rcases h2 (p a) ((bit s (p a)).2 ⟨r.lt a han, by rw [r.qp a han]; exact ha⟩) with e | e
      · exact .inl (by rw [e, r.qp a han])
      · rw [← r.symm.near v (p a) hv (r.lt a han), r.qp a han] at e
        exact .inr e
  simpa using this
theorem Ren.cliques {es fs : List (Int × Int)} {n : Nat} {p q : Nat → Nat} {gs hs : List Nat} (r : Ren es fs n p q) (hg : Adj n gs es) (hh : Adj n hs fs) (hn : n ≤ 12) : (cliquesN gs).length = (cliquesN hs).length := Nat.le_antisymm (r.cliques_le hg hh hn) (r.symm.cliques_le hh hg hn)
end

section
/-- There is a path within a set. -/
inductive Wy (E : Nat → Nat → Prop) (W : Nat → Prop) : Nat → Nat → Prop
  | start {x : Nat} : W x → Wy E W x x
  | step {x u v : Nat} : Wy E W x u → E u v → W v → Wy E W x v
theorem Wy.fst {E : Nat → Nat → Prop} {W : Nat → Prop} {x y : Nat} (h : Wy E W x y) : W x := by
  induction h with
  | start h => exact h
  | step _ _ _ ih => exact ih
theorem Wy.snd {E : Nat → Nat → Prop} {W : Nat → Prop} {x y : Nat} (h : Wy E W x y) : W y := by
  cases h with
  | start h => exact h
  | step _ _ h => exact h
theorem Wy.trans {E : Nat → Nat → Prop} {W : Nat → Prop} {x y z : Nat} (h : Wy E W x y) (k : Wy E W y z) : Wy E W x z := by
  induction k with
  | start _ => exact h
  | step _ h1 h2 ih => exact .step ih h1 h2
theorem Wy.symm {E : Nat → Nat → Prop} (hs : ∀ a b, E a b → E b a) {W : Nat → Prop} {x y : Nat} (h : Wy E W x y) : Wy E W y x := by
  induction h with
  | start h => exact .start h
  | step h1 h2 h3 ih => exact (Wy.step (.start h3) (hs _ _ h2) h1.snd).trans ih
/-- What is apart from a node. -/
def Past (es : List (Int × Int)) (n z : Nat) (u : Nat) : Prop := u < n ∧ z ≠ u ∧ ¬ nearE es z u
theorem conn_iff {n : Nat} {gs : List Nat} {es : List (Int × Int)} (h : Adj n gs es) (hn : n ≤ 12) {x y z : Nat} (_hx : x < n) (hz : z < n) : connB gs x y z = true ↔ Wy (nearE es) (Past es n z) x y := by
  have h16 : 2 ^ n - 1 < 65536 := Nat.lt_of_le_of_lt (Nat.sub_le _ _) (Nat.pow_lt_pow_right (m := n) (n := 16) (by omega) (by omega))
  have hW : (2 ^ n - 1) &&& (65535 - gs[z]?.getD 0) < 65536 := Nat.lt_of_le_of_lt Nat.and_le_left h16
  have wbit : ∀ u, ((2 ^ n - 1) &&& (65535 - gs[z]?.getD 0)).testBit u = true ↔ Past es n z u := fun u => by
    rw [Nat.testBit_and, full_bits, testBit_comp (h.lt16 hn z), Bool.and_eq_true, Bool.and_eq_true, decide_eq_true_iff, decide_eq_true_iff, h.bit z u hz, Bool.not_or, Bool.and_eq_true, Bool.not_eq_true', Bool.not_eq_true', decide_eq_false_iff_not, Past]
    unfold nearE
    rw [Bool.not_eq_true]
    exact ⟨fun ⟨a, _, b, c⟩ => ⟨a, b, c⟩, fun ⟨a, b, c⟩ => ⟨a, by omega, b, c⟩⟩
  have gbit : ∀ v i, v < n → ((gs[v]?.getD 0).testBit i = true ↔ v = i ∨ nearE es v i) := fun v i hv => by
    rw [h.bit v i hv, Bool.or_eq_true, decide_eq_true_iff]; rfl
  have hr : 2 ^ x &&& ((2 ^ n - 1) &&& (65535 - gs[z]?.getD 0)) < 65536 := Nat.lt_of_le_of_lt Nat.and_le_right hW
  have rbit : ∀ i, (2 ^ x &&& ((2 ^ n - 1) &&& (65535 - gs[z]?.getD 0))).testBit i = true ↔ x = i ∧ Past es n z i := fun i => by
    rw [Nat.testBit_and, Bool.and_eq_true, wbit, Nat.testBit_two_pow, decide_eq_true_iff]
  rw [connB, h.len, reachOf]
  obtain ⟨p1, p2, _, p4⟩ := reachN_spec (gs := gs) hW 65536 _ hr (by omega)
  rw [stepTo_eq, h.len] at p1
  constructor
  · intro hy
    refine p4 (fun u => Wy (nearE es) (Past es n z) x u) (fun i hi => ?_) (fun v i hv hS hb hw => ?_) y hy
    · obtain ⟨rfl, h2⟩ := (rbit i).1 hi
      exact .start h2
    · rw [h.len] at hv
      rcases (gbit v i hv).1 hb with rfl | h2
      · exact hS
      · exact .step hS h2 ((wbit i).1 hw)
  · intro hy
    generalize reachN gs ((2 ^ n - 1) &&& (65535 - gs[z]?.getD 0)) 65536 (2 ^ x &&& ((2 ^ n - 1) &&& (65535 - gs[z]?.getD 0))) = R at p1 p2
    induction hy with
    | start h1 => exact p2 _ ((rbit _).2 ⟨rfl, h1⟩)
    | step h1 h2 h3 ih => exact p1 _ _ h1.snd.1 ih ((gbit _ _ h1.snd.1).2 (.inr h2)) ((wbit _).2 h3)
/-- An asteroidal triple. -/
def Trip (es : List (Int × Int)) (n x y z : Nat) : Prop := Wy (nearE es) (Past es n z) x y ∧ Wy (nearE es) (Past es n y) x z ∧ Wy (nearE es) (Past es n x) y z
theorem trip_iff {n : Nat} {gs : List Nat} {es : List (Int × Int)} (h : Adj n gs es) (hn : n ≤ 12) {x y z : Nat} (hx : x < n) (hy : y < n) (hz : z < n) : tripB gs x y z = true ↔ Trip es n x y z := by
  rw [tripB, Bool.and_eq_true, Bool.and_eq_true, conn_iff h hn hx hz, conn_iff h hn hx hy, conn_iff h hn hy hx, Trip, and_assoc]
theorem Trip.swap {es : List (Int × Int)} {n x y z : Nat} (h : Trip es n x y z) : Trip es n y x z := ⟨h.1.symm (nearE_sym es), h.2.2, h.2.1⟩
theorem Trip.turn {es : List (Int × Int)} {n x y z : Nat} (h : Trip es n x y z) : Trip es n x z y := ⟨h.2.1, h.1, h.2.2.symm (nearE_sym es)⟩
/-- In any order. -/
theorem Trip.sorted {es : List (Int × Int)} {n x y z : Nat} (h : Trip es n x y z) (hxy : x ≠ y) (hxz : x ≠ z) (hyz : y ≠ z) (hx : x < n) (hy : y < n) (hz : z < n) : ∃ i j k, i < j ∧ j < k ∧ k < n ∧ Trip es n i j k := by
  rcases Nat.lt_or_gt_of_ne hxy with h1 | h1 <;> rcases Nat.lt_or_gt_of_ne hxz with h2 | h2 <;> rcases Nat.lt_or_gt_of_ne hyz with h3 | h3
  · exact ⟨x, y, z, h1, h3, hz, h⟩
  · exact ⟨x, z, y, h2, h3, hy, h.turn⟩
  · omega
  · exact ⟨z, x, y, h2, h1, hy, h.turn.swap⟩
  · exact ⟨y, x, z, h1, h2, hz, h.swap⟩
  · omega
  · exact ⟨y, z, x, h3, h2, hx, h.swap.turn⟩
  · exact ⟨z, y, x, h3, h1, hx, h.swap.turn.swap⟩
open Classical in
/-- The error of Triple of a valid graph. -/
noncomputable def errT (es : List (Int × Int)) (n : Nat) : Int := if ∃ i j k, i < j ∧ j < k ∧ k < n ∧ Trip es n i j k then 0 else 5
theorem TripleV.err {n : Nat} {gs : List Nat} {es : List (Int × Int)} (h : Adj n gs es) (hn : n ≤ 12) {w w' : World} {e : Ending} (hv : TripleV gs w e w') : ∃ v, e = .returned (.tuple #[v, .int .i64 (errT es n)]) ∧ RowKit.Below w.heap.size w w' := by
  obtain ⟨hb, ⟨rfl, hno⟩ | ⟨x, y, z, g, h1, h2, h3, h4, _, _, rfl, _⟩⟩ := hv
  · refine ⟨.slice none 0 0, ?_, hb⟩
    rw [errT, if_neg]
    rintro ⟨i, j, k, g1, g2, g3, g4⟩
    have := hno i j k g1 g2 (by rw [h.len]; exact g3) (.inl (by rw [h.len]; omega))
    rw [(trip_iff h hn (by omega) (by omega) g3).2 g4] at this
    cases this
  · rw [h.len] at h3
    refine ⟨.slice (some ⟨g, 0, none⟩) 3 3, ?_, hb⟩
    rw [errT, if_pos ⟨x, y, z, h1, h2, h3, (trip_iff h hn (by omega) (by omega) h3).1 h4⟩]
theorem Ren.wy {es fs : List (Int × Int)} {n : Nat} {p q : Nat → Nat} (r : Ren es fs n p q) {x y z : Nat} (hz : z < n) (h : Wy (nearE es) (Past es n z) x y) : Wy (nearE fs) (Past fs n (p z)) (p x) (p y) := by
  have past : ∀ u, Past es n z u → Past fs n (p z) (p u) := fun u hu =>
    ⟨r.lt u hu.1, fun e => hu.2.1 (by rw [← r.qp z hz, ← r.qp u hu.1, e]), fun e => hu.2.2 ((r.near z u hz hu.1).1 e)⟩
  induction h with
  | start h => exact .start (past _ h)
  | step h1 h2 h3 ih => exact .step ih ((r.near _ _ h1.snd.1 h3.1).2 h2) (past _ h3)
theorem Ren.trip {es fs : List (Int × Int)} {n : Nat} {p q : Nat → Nat} (r : Ren es fs n p q) (h : ∃ i j k, i < j ∧ j < k ∧ k < n ∧ Trip es n i j k) : ∃ i j k, i < j ∧ j < k ∧ k < n ∧ Trip fs n i j k := by
  obtain ⟨i, j, k, h1, h2, h3, h4⟩ := h
  have inj : ∀ a b, a < n → b < n → a ≠ b → p a ≠ p b := fun a b ha hb hab e => hab (by rw [← r.qp a ha, ← r.qp b hb, e])
  exact Trip.sorted (x := p i) (y := p j) (z := p k) ⟨r.wy h3 h4.1, r.wy (by omega) h4.2.1, r.wy (by omega) h4.2.2⟩ (inj _ _ (by omega) (by omega) (by omega)) (inj _ _ (by omega) (by omega) (by omega)) (inj _ _ (by omega) (by omega) (by omega)) (r.lt _ (by omega)) (r.lt _ (by omega)) (r.lt _ h3)
theorem Ren.errT {es fs : List (Int × Int)} {n : Nat} {p q : Nat → Nat} (r : Ren es fs n p q) : errT es n = errT fs n := by
  have h1 : (∃ i j k, i < j ∧ j < k ∧ k < n ∧ Trip es n i j k) ↔ ∃ i j k, i < j ∧ j < k ∧ k < n ∧ Trip fs n i j k := ⟨r.trip, r.symm.trip⟩
  unfold Go.Proofs.YthlbedhjekbfpaaDoor.errT
  by_cases h : ∃ i j k, i < j ∧ j < k ∧ k < n ∧ Trip es n i j k
  · rw [if_pos h, if_pos (h1.1 h)]
  · rw [if_neg h, if_neg fun k => h (h1.2 k)]
end

section
structure ApI (es : List (Int × Int)) (n : Nat) (s : Nat × Nat × List Nat) : Prop where
  lt : s.1 < 2 ^ n
  lt2 : s.2.1 < 2 ^ n
  ind : ∀ a b, s.1.testBit a = true → s.1.testBit b = true → ¬ nearE es a b
  far : ∀ a b, s.1.testBit a = true → s.2.1.testBit b = true → a ≠ b ∧ ¬ nearE es a b
  clq : ∀ C ∈ s.2.2, ∀ a b, C.testBit a = true → C.testBit b = true → a ≠ b → nearE es a b
  cov : ∀ b, b < n → s.2.1.testBit b = true ∨ ∃ C ∈ s.2.2, C.testBit b = true
  cnt : cntN s.1 = s.2.2.length
theorem ap_inv {n : Nat} {gs : List Nat} {es : List (Int × Int)} (h : Adj n gs es) (hn : n ≤ 12) : ∀ (O : List Nat) (rem : Nat) (s : Nat × Nat × List Nat), rem < 2 ^ n → (∀ b, rem.testBit b = true → b ∈ O) → (∀ v ∈ O, v < n) → elimFrom gs rem O = true → ApI es n s → (∀ b, s.2.1.testBit b = true → rem.testBit b = true) →
    ApI es n (O.foldl (apStep gs) s) ∧ ∀ b, (O.foldl (apStep gs) s).2.1.testBit b = false := by
  have h16 : 2 ^ n ≤ 65536 := Nat.le_trans (Nat.pow_le_pow_right (by omega) hn) (by decide)
  intro O
  induction O with
  | nil =>
    intro rem s _ hO _ _ hI hsub
    refine ⟨hI, fun b => Bool.eq_false_iff.2 fun hb => ?_⟩
    have := hO b (hsub b hb)
    simp at this
  | cons v O ih =>
    intro rem s hrem hO hlt hel hI hsub
    have hv : v < n := hlt v (by simp)
    rw [elimFrom, Bool.and_eq_true] at hel
    have hrem16 : rem < 65536 := by omega
    have rbit : ∀ b, (rem &&& (65535 - 2 ^ v)).testBit b = true ↔ rem.testBit b = true ∧ v ≠ b := fun b => by
      rw [without_bit (by omega) hrem16, Bool.and_eq_true, Bool.not_eq_true', decide_eq_false_iff_not]
    have gbit : ∀ i, (gs[v]?.getD 0).testBit i = true ↔ v = i ∨ nearE es v i := fun i => by
      rw [h.bit v i hv, Bool.or_eq_true, decide_eq_true_iff]; rfl
    have hO' : ∀ b, (rem &&& (65535 - 2 ^ v)).testBit b = true → b ∈ O := fun b hb => by
      obtain ⟨h1, h2⟩ := (rbit b).1 hb
      rcases List.mem_cons.1 (hO b h1) with e | e
      · exact absurd e.symm h2
      · exact e
    rw [List.foldl_cons]
    by_cases hb : s.2.1.testBit v = true
    · rw [apStep, if_pos hb]
      have lbit : ∀ b, (s.2.1 &&& (65535 - gs[v]?.getD 0)).testBit b = true ↔ s.2.1.testBit b = true ∧ v ≠ b ∧ ¬ nearE es v b := fun b => by
        rw [Nat.testBit_and, testBit_comp (h.lt16 hn v), Bool.and_eq_true, Bool.and_eq_true, decide_eq_true_iff, Bool.not_eq_true', ← Bool.not_eq_true, gbit, not_or]
        exact ⟨fun ⟨a, _, b⟩ => ⟨a, b⟩, fun ⟨a, b⟩ => ⟨a, by have := bit_lt hI.lt2 a; omega, b⟩⟩
      have obit : ∀ b, (s.1 ||| 2 ^ v).testBit b = true ↔ s.1.testBit b = true ∨ v = b := fun b => by
        rw [Nat.testBit_or, Bool.or_eq_true, Nat.testBit_two_pow, decide_eq_true_iff]
      refine ih (rem &&& (65535 - 2 ^ v)) _ (Nat.lt_of_le_of_lt Nat.and_le_left hrem) hO' (fun x hx => hlt x (by simp [hx])) hel.2 ⟨?_, ?_, ?_, ?_, ?_, ?_, ?_⟩ (fun b hb' => ?_)
      · exact Nat.or_lt_two_pow hI.lt (Nat.pow_lt_pow_right (by omega) hv)
      · exact Nat.lt_of_le_of_lt Nat.and_le_left hI.lt2
      · intro a b ha hb'
        rcases (obit a).1 ha with ha | rfl <;> rcases (obit b).1 hb' with hb' | rfl
        · exact hI.ind a b ha hb'
        · exact (hI.far a _ ha hb).2
        · exact fun k => (hI.far b _ hb' hb).2 (nearE_sym es _ _ k)
        · exact nearE_irr es _
      · intro a b ha hb'
        obtain ⟨k1, k2, k3⟩ := (lbit b).1 hb'
        rcases (obit a).1 ha with ha | rfl
        · exact hI.far a b ha k1
        · exact ⟨k2, k3⟩
      · intro C hC a b ha hb' hab
        rcases List.mem_append.1 hC with hC | hC
        · exact hI.clq C hC a b ha hb' hab
        · obtain rfl := List.mem_singleton.1 hC
          rw [Nat.testBit_and, Bool.and_eq_true] at ha hb'
          have hcl := (cliqueB_iff h hn (s := gs[v]?.getD 0 &&& rem) (by rw [Nat.and_comm]; exact and_lt_pow hrem)).1 hel.1
          exact hcl a b (by rw [Nat.testBit_and, ha.1, hsub a ha.2]; rfl) (by rw [Nat.testBit_and, hb'.1, hsub b hb'.2]; rfl) hab
      · intro b hbn
        rcases hI.cov b hbn with k | ⟨C, k1, k2⟩
        · by_cases hg : (gs[v]?.getD 0).testBit b = true
          · exact .inr ⟨_, List.mem_append.2 (.inr (List.mem_singleton.2 rfl)), by rw [Nat.testBit_and, hg, k]; rfl⟩
          · rw [gbit, not_or] at hg
            exact .inl ((lbit b).2 ⟨k, hg⟩)
        · exact .inr ⟨C, List.mem_append.2 (.inl k1), k2⟩
      · have hvI : s.1.testBit v = false := Bool.eq_false_iff.2 fun k => (hI.far v v k hb).1 rfl
        simp only [List.length_append, List.length_singleton]
        rw [cnt_or (by omega) hvI, hI.cnt]
      · obtain ⟨k1, k2, _⟩ := (lbit b).1 hb'
        exact (rbit b).2 ⟨hsub b k1, k2⟩
    · rw [apStep, if_neg hb]
      exact ih (rem &&& (65535 - 2 ^ v)) s (Nat.lt_of_le_of_lt Nat.and_le_left hrem) hO' (fun x hx => hlt x (by simp [hx])) hel.2 hI fun b hb' => (rbit b).2 ⟨hsub b hb', fun e => hb (e ▸ hb')⟩
theorem ordN_lt {n : Nat} {gs : List Nat} {es : List (Int × Int)} (h : Adj n gs es) (hn : n ≤ 12) : ∀ v ∈ ordN n gs, v < n := fun v hv => bit_lt (full_lt n) ((elimAll_order h hn (2 ^ n - 1 + 1) (2 ^ n - 1) (full_lt n)).2.1 v hv)
theorem apart_good {n : Nat} {gs : List Nat} {es : List (Int × Int)} (h : Adj n gs es) (hn : n ≤ 12) (hc : (ordN n gs).length = n) : ApI es n (apTo gs (ordN n gs)) ∧ ∀ b, b < n → ∃ C ∈ (apTo gs (ordN n gs)).2.2, C.testBit b = true := by
  obtain ⟨h1, _, h3⟩ := elimAll_order h hn (2 ^ n - 1 + 1) (2 ^ n - 1) (full_lt n)
  have hlt := ordN_lt h hn
  have := ap_inv h hn (ordN n gs) (2 ^ n - 1) (0, 2 ^ n - 1, []) (full_lt n) (fun b hb => by
    rw [full_bits, decide_eq_true_iff] at hb
    have hp := nodup_perm h1 (L := List.range n) (fun x hx => List.mem_range.2 (hlt x hx)) (by rw [List.length_range]; exact Nat.le_of_eq hc.symm)
    exact hp.mem_iff.2 (List.mem_range.2 hb)) hlt h3 ⟨Nat.pow_pos (by omega), full_lt n, fun a b ha => by simp at ha, fun a b ha => by simp at ha, fun C hC => by simp at hC, fun b hb => .inl (by simpa using hb), by simp [cntN]⟩ (fun _ hb => hb)
  rw [show (0, 2 ^ n - 1, []) = (0, 2 ^ gs.length - 1, ([] : List Nat)) from by rw [h.len]] at this
  obtain ⟨k1, k2⟩ := this
  exact ⟨k1, fun b hb => (k1.cov b hb).resolve_left fun k => by have h5 := (k2 b).symm.trans k; cases h5⟩
open Classical in
/-- No independent set has more nodes than there are cliques in a cover. -/
theorem alpha_le {es : List (Int × Int)} {n J : Nat} {cov : List Nat} (hJ : J < 2 ^ n) (hi : ∀ a b, J.testBit a = true → J.testBit b = true → ¬ nearE es a b) (hc : ∀ C ∈ cov, ∀ a b, C.testBit a = true → C.testBit b = true → a ≠ b → nearE es a b) (hall : ∀ b, b < n → ∃ C ∈ cov, C.testBit b = true) : (bitsN J n).length ≤ cov.length := by
  have hf : ∀ b, ∃ C, b < n → C ∈ cov ∧ C.testBit b = true := fun b => by
    by_cases hb : b < n
    · obtain ⟨C, h1, h2⟩ := hall b hb; exact ⟨C, fun _ => ⟨h1, h2⟩⟩
    · exact ⟨0, fun k => absurd k hb⟩
  obtain ⟨f, hf⟩ := Classical.axiomOfChoice hf
  have hbn : ∀ b ∈ bitsN J n, b < n ∧ J.testBit b = true := fun b hb => by
    have := (mem_bitsN hJ).1 hb
    exact ⟨bit_lt hJ this, this⟩
  have h1 : ((bitsN J n).map f).Nodup := by
    refine List.pairwise_map.2 ((bitsN_nodup J n).imp_of_mem fun {a b} ha hb hne e => ?_)
    obtain ⟨a1, a2⟩ := hbn a ha
    obtain ⟨b1, b2⟩ := hbn b hb
    refine hi a b a2 b2 (hc _ (hf a a1).1 a b (hf a a1).2 ?_ hne)
    rw [e]; exact (hf b b1).2
  have := List.Nodup.length_le_of_subset h1 (l₂ := cov) fun x hx => by
    obtain ⟨b, hb, rfl⟩ := List.mem_map.1 hx
    exact (hf b (hbn b hb).1).1
  simpa using this
theorem listI_bits {I n : Nat} (hI : I < 2 ^ n) (hn : n ≤ 12) : (listI I).length = (bitsN I n).length := by
  have := filter_more I n hI (12 - n)
  rw [show n + (12 - n) = 12 by omega] at this
  rw [listI, List.length_map, listN]
  exact this
theorem Ren.apart_le {es fs : List (Int × Int)} {n : Nat} {p q : Nat → Nat} {gs hs : List Nat} (r : Ren es fs n p q) (hg : Adj n gs es) (hh : Adj n hs fs) (hn : n ≤ 12) (hc : (ordN n gs).length = n) (hc' : (ordN n hs).length = n) : (listI (apTo gs (ordN n gs)).1).length ≤ (listI (apTo hs (ordN n hs)).1).length := by
  obtain ⟨g1, _⟩ := apart_good hg hn hc
  obtain ⟨k1, k2⟩ := apart_good hh hn hc'
  rw [listI_bits g1.lt hn, listI_bits k1.lt hn, ← cnt_bits k1.lt (by omega), k1.cnt]
  have hI := g1.lt
  have hi := g1.ind
  generalize (apTo gs (ordN n gs)).1 = I at hI hi ⊢
  have bit : ∀ b, (maskP (fun b => I.testBit (q b)) n).testBit b = true ↔ b < n ∧ I.testBit (q b) = true := fun b => by
    rw [maskP_bit, Bool.and_eq_true, decide_eq_true_iff]
  have hJ := maskP_lt (fun b => I.testBit (q b)) n
  generalize maskP (fun b => I.testBit (q b)) n = J at bit hJ
  refine Nat.le_trans ?_ (alpha_le hJ (fun a b ha hb => ?_) k1.clq k2)
  · have h1 : ((bitsN I n).map p).Nodup := by
      refine List.pairwise_map.2 ((bitsN_nodup I n).imp_of_mem fun {a b} ha hb hne e => hne ?_)
      rw [← r.qp a (bit_lt hI ((mem_bitsN hI).1 ha)), ← r.qp b (bit_lt hI ((mem_bitsN hI).1 hb)), e]
    have := List.Nodup.length_le_of_subset h1 (l₂ := bitsN J n) fun x hx => by
      obtain ⟨a, ha, rfl⟩ := List.mem_map.1 hx
      have ha := (mem_bitsN hI).1 ha
      have han := bit_lt hI ha
      exact (mem_bitsN hJ).2 ((bit _).2 ⟨r.lt a han, by rw [r.qp a han]; exact ha⟩)
    simpa using this
  · obtain ⟨a1, a2⟩ := (bit a).1 ha
    obtain ⟨b1, b2⟩ := (bit b).1 hb
    rw [← r.symm.near a b a1 b1]
    exact hi _ _ a2 b2
theorem Ren.apart {es fs : List (Int × Int)} {n : Nat} {p q : Nat → Nat} {gs hs : List Nat} (r : Ren es fs n p q) (hg : Adj n gs es) (hh : Adj n hs fs) (hn : n ≤ 12) (hc : (ordN n gs).length = n) (hc' : (ordN n hs).length = n) : (listI (apTo gs (ordN n gs)).1).length = (listI (apTo hs (ordN n hs)).1).length :=
  Nat.le_antisymm (r.apart_le hg hh hn hc hc') (r.symm.apart_le hh hg hn hc' hc)
end

section
/-- Names of the nodes, each once. -/
def NmI (n : Nat) (p : Nat → Nat) : Prop := (∀ i, i < n → p i < n) ∧ ∀ i j, i < n → j < n → p i = p j → i = j
def swapN (p : Nat → Nat) (a b : Nat) : Nat → Nat := fun i => if i = b then p a else if i = a then p b else p i
theorem NmI.swap {n : Nat} {p : Nat → Nat} (h : NmI n p) {a b : Nat} (ha : a < n) (hb : b < n) : NmI n (swapN p a b) := by
  refine ⟨fun i hi => ?_, fun i j hi hj e => ?_⟩
  · unfold swapN
    split
    · exact h.1 a ha
    · split
      · exact h.1 b hb
      · exact h.1 i hi
  · have k := h.2
    unfold swapN at e
    repeat' (split at e)
    all_goals
      first
        | omega
        | (have := k _ _ ha hb e; omega)
        | (have := k _ _ hb ha e; omega)
        | (have := k _ _ ha hj e; omega)
        | (have := k _ _ hb hj e; omega)
        | (have := k _ _ hi ha e; omega)
        | (have := k _ _ hi hb e; omega)
        | (have := k _ _ hi hj e; omega)
def renE (p : Nat → Nat) (e : Int × Int) : Int × Int := (min (p e.1.toNat : Int) (p e.2.toNat : Int), max (p e.1.toNat : Int) (p e.2.toNat : Int))
/-- Names that each node has, there is an inverse. -/
theorem NmI.inv {n : Nat} {p : Nat → Nat} (h : NmI n p) : ∃ q : Nat → Nat, (∀ a, a < n → q a < n) ∧ (∀ a, a < n → q (p a) = a) ∧ ∀ a, a < n → p (q a) = a := by
  have hsur : ∀ b, b < n → ∃ a, a < n ∧ p a = b := by
    intro b hb
    have h1 : ((List.range n).map p).Nodup := List.pairwise_map.2 ((List.nodup_range (n := n)).imp_of_mem fun {x y} hx hy hne e => hne (h.2 x y (List.mem_range.1 hx) (List.mem_range.1 hy) e))
    have hp := nodup_perm h1 (L := List.range n) (fun x hx => by
      obtain ⟨y, hy, rfl⟩ := List.mem_map.1 hx
      exact List.mem_range.2 (h.1 y (List.mem_range.1 hy))) (by simp)
    have := hp.mem_iff.2 (List.mem_range.2 hb)
    obtain ⟨a, ha, e⟩ := List.mem_map.1 this
    exact ⟨a, List.mem_range.1 ha, e⟩
  have hq : ∀ b, ∃ a, b < n → a < n ∧ p a = b := fun b => by
    by_cases hb : b < n
    · obtain ⟨a, ha⟩ := hsur b hb; exact ⟨a, fun _ => ha⟩
    · exact ⟨0, fun k => absurd k hb⟩
  obtain ⟨q, hq⟩ := Classical.axiomOfChoice hq
  refine ⟨q, fun a ha => (hq a ha).1, fun a ha => ?_, fun a ha => (hq a ha).2⟩
  exact h.2 _ _ (hq (p a) (h.1 a ha)).1 ha (hq (p a) (h.1 a ha)).2
theorem ren_good {n : Nat} {p : Nat → Nat} {es : List (Int × Int)} (hg : graphR n es = true) (h : NmI n p) : graphR n (es.reverse.map (renE p)) = true ∧ ∃ q, Ren es (es.reverse.map (renE p)) n p q := by
  rw [graphR_iff] at hg ⊢
  obtain ⟨h1, h2, h3⟩ := hg
  have mem : ∀ a b, a < n → b < n → (((min (p a : Int) (p b)), (max (p a : Int) (p b))) ∈ es.reverse.map (renE p) ∧ (p a : Int) ≠ p b ↔ ((min (a : Int) b), (max (a : Int) b)) ∈ es ∧ (a : Int) ≠ b) := by
    intro a b ha hb
    constructor
    · rintro ⟨hm, hne⟩
      obtain ⟨e, he, e'⟩ := List.mem_map.1 hm
      have he := List.mem_reverse.1 he
      obtain ⟨r1, r2, r3⟩ := h2 e he
      obtain ⟨u, v⟩ := e
      simp only at r1 r2 r3
      obtain ⟨u, rfl⟩ := Int.eq_ofNat_of_zero_le r1
      obtain ⟨v, rfl⟩ := Int.eq_ofNat_of_zero_le (show 0 ≤ v by omega)
      simp only [renE, Prod.mk.injEq, Int.toNat_natCast] at e'
      have hab : a ≠ b := fun e => hne (by rw [e])
      have hcase : (p u = p a ∧ p v = p b) ∨ (p u = p b ∧ p v = p a) := by omega
      rcases hcase with ⟨k1, k2⟩ | ⟨k1, k2⟩
      · obtain rfl := h.2 _ _ (by omega) ha k1
        obtain rfl := h.2 _ _ (by omega) hb k2
        exact ⟨by rw [Int.min_eq_left (by omega), Int.max_eq_right (by omega)]; exact he, by omega⟩
      · obtain rfl := h.2 _ _ (by omega) hb k1
        obtain rfl := h.2 _ _ (by omega) ha k2
        exact ⟨by rw [Int.min_eq_right (by omega), Int.max_eq_left (by omega)]; exact he, by omega⟩
    · rintro ⟨hm, hne⟩
      have hab : a ≠ b := fun e => hne (by rw [e])
      refine ⟨List.mem_map.2 ⟨_, List.mem_reverse.2 hm, ?_⟩, fun e => hab (h.2 _ _ ha hb (by omega))⟩
      rcases Nat.lt_or_gt_of_ne hab with k | k
      · rw [Int.min_eq_left (show (a : Int) ≤ b by omega), Int.max_eq_right (show (a : Int) ≤ b by omega)]
        simp [renE]
      · rw [Int.min_eq_right (show (b : Int) ≤ a by omega), Int.max_eq_left (show (b : Int) ≤ a by omega)]
        simp only [renE, Int.toNat_natCast]
        rw [Int.min_comm, Int.max_comm]
  refine ⟨⟨h1, fun e he => ?_, ?_⟩, ?_⟩
  · obtain ⟨e0, he0, rfl⟩ := List.mem_map.1 he
    obtain ⟨r1, r2, r3⟩ := h2 e0 (List.mem_reverse.1 he0)
    have k1 := h.1 e0.1.toNat (by omega)
    have k2 := h.1 e0.2.toNat (by omega)
    have k3 : p e0.1.toNat ≠ p e0.2.toNat := fun e => by have := h.2 _ _ (by omega) (by omega) e; omega
    simp only [renE]
    omega
  · refine List.pairwise_map.2 ((List.pairwise_reverse.2 (h3.imp fun hne => hne.symm)).imp_of_mem fun {e e'} he he' hne heq => hne ?_)
    obtain ⟨r1, r2, r3⟩ := h2 e (List.mem_reverse.1 he)
    obtain ⟨s1, s2, s3⟩ := h2 e' (List.mem_reverse.1 he')
    simp only [renE, Prod.mk.injEq] at heq
    have hcase : (p e.1.toNat = p e'.1.toNat ∧ p e.2.toNat = p e'.2.toNat) ∨ (p e.1.toNat = p e'.2.toNat ∧ p e.2.toNat = p e'.1.toNat) := by omega
    rcases hcase with ⟨k1, k2⟩ | ⟨k1, k2⟩
    · have m1 := h.2 _ _ (by omega) (by omega) k1
      have m2 := h.2 _ _ (by omega) (by omega) k2
      exact Prod.ext (by omega) (by omega)
    · have m1 := h.2 _ _ (by omega) (by omega) k1
      have m2 := h.2 _ _ (by omega) (by omega) k2
      omega
  · obtain ⟨q, q1, q2, q3⟩ := h.inv
    refine ⟨q, h.1, q1, q2, q3, fun a b ha hb => ?_⟩
    unfold nearE
    rw [nearB_iff, nearB_iff]
    exact mem a b ha hb
end
end

end Go.Proofs.YthlbedhjekbfpaaDoor
