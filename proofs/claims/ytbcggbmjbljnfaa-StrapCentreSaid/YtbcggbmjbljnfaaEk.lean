/-
  strap: the law of the centre: the walk.
-/
import Derived.Test.YtbcggbmjbljnfaaEj
namespace Go.Proofs.Ytbcggbmjbljnfaa
open Go.RowKit Go.Sort
open Gar (Let)

/-- Words in a new row, joined. -/
theorem joined_new (vs : List Value) (ls : List (List Int)) (m K : Nat) (w : World) (hvs : vs.length = m) (hls : ls.length = m) (hm : m ≤ 10) (hs : ∀ l ∈ ls, l.length ≤ 1000) (hK : ls.flatten.length = K)
    (h : ∀ i, i < m → ∃ a c, vs[i]? = some (.slice a (ls[i]?.getD []).length c) ∧ Ints w a (ls[i]?.getD []) ∧ (a = none → c = 0)) :
    Calls Try.prog 43 #[.slice (some ⟨w.heap.size, 0, none⟩) m m] (w.alloc (.cells vs.toArray 22)) (fun e w' => ∃ a c, e = .returned (.slice a K c) ∧ Ints w' a ls.flatten ∧ Below w.heap.size w w') := by
  have hb : Below w.heap.size w (w.alloc (.cells vs.toArray 22)) := (Below.refl _ w).alloc (Nat.le_refl _) _
  have hr := heap_alloc_new w (.cells vs.toArray 22)
  have hW : Words (w.alloc (.cells vs.toArray 22)) w.heap.size ls := fun i hi => by
    obtain ⟨a, c, hv, hz, hn⟩ := h i (by omega)
    refine ⟨a, c, ?_, hz.below hb, hn⟩
    simp only [World.cell?, hr]
    simpa using hv
  refine (joined_any w.heap.size m m ls _ hls hm hs hW).mono ?_
  rintro e w' ⟨a, c, rfl, hz, hb'⟩
  exact ⟨a, c, by rw [hK], hz, hb.trans (hb'.mono hb.size)⟩

set_option maxRecDepth 100000 in
set_option maxHeartbeats 4000000 in
theorem StrapCentre_any (u : Int) (a : Option Addr) (m cap : Nat) (zs : List Int) (w : World) (hu : 0 ≤ u ∧ u ≤ 255) (hl : zs.length = m) (hm : m ≤ 9223372036854775807) (hz : Ints8 w a zs) :
    Calls Try.prog 10 #[.int .u8 u, .slice a m cap] w fun e w' => e = .returned (.bool true) ∧ Below w.heap.size w w' := by
  obtain ⟨n, hn⟩ : ∃ n : Nat, u % 5 + 2 = (n : Int) := ⟨(u % 5 + 2).toNat, by omega⟩
  have hn8 : 2 ≤ n ∧ n ≤ 6 := by omega
  have HST : Hid (∀ wx, Calls Try.prog 40 #[.int .u8 u, .int .i64 6] wx fun e w' => e = .returned (.int .i64 (n : Int)) ∧ wx = w') := Lib.hid (fun wx => by
    have h := strands_any u 6 wx hu (by omega)
    simp only [show (6 : Int) - 1 = 5 by omega, hn] at h
    exact h)
  have HWD := Lib.hid (word_any n 24 m cap a zs w (by omega) (by omega) (by omega) hl hm hz)
  have hlen := wordN_len n (zs.take 24)
  rw [List.length_take] at hlen
  have hlet : ∀ z ∈ wordN n (zs.take 24), Let n z := wordN_let (by omega)
  obtain ⟨ws, hws⟩ : ∃ ws, wordN n (zs.take 24) = ws := ⟨_, rfl⟩
  rw [hws] at HWD hlen hlet
  obtain ⟨L, hL⟩ : ∃ L, ws.length = L := ⟨_, rfl⟩
  unfold GivesI at HWD
  simp only [hL] at HWD
  obtain ⟨ks, k1, k2, k3, k4⟩ := half_word (n := n) (by omega)
  have hK15 : ks.length ≤ 15 := by
    rw [k3]
    have h5 : n = 2 ∨ n = 3 ∨ n = 4 ∨ n = 5 ∨ n = 6 := by omega
    rcases h5 with rfl | rfl | rfl | rfl | rfl <;> decide
  have HHA := Lib.hid (fun wx => refHalf_any n wx (by omega))
  have HSI := Lib.hid (fun (g c : Nat) (wx : World) (hx : Nats wx (some ⟨g, 0, none⟩) (halfN n)) => refSimple_any (some ⟨g, 0, none⟩) n c (n * n + 1) (halfN n) ks wx (halfN_in n).1 (by omega) (by omega) hx k1 (by omega))
  have HC1 := Lib.hid (centre1 (letsN_let k2) hlet k4)
  have HC2 := Lib.hid (centre2 (letsN_let k2) hlet k4)
  have HHL := Lib.hid (letsN_let k2)
  obtain ⟨h, hh⟩ : ∃ h, letsN ks = h := ⟨_, rfl⟩
  obtain ⟨K, hK⟩ : ∃ K, h.length = K := ⟨_, rfl⟩
  have hKk : K = ks.length := by rw [← hK, ← hh]; simp [letsN]
  rw [hh] at HSI HC1 HC2 HHL
  unfold GivesI at HSI
  simp only [hK] at HSI
  have HK := Lib.hid hK
  have HLET := Lib.hid hlet
  have HL := Lib.hid hL
  have hL24 : L ≤ 24 := by omega
  have hK' : K ≤ 15 := by omega
  have HLV := Lib.hid (fun wx => lives_any wx)
  have HN := Lib.hid hn8
  clear hl hz hlet hlen hws hL hn k1 k2 k3 k4 hK15 hh hK hKk ks
  go_enter Try.func10, Try.ntmps10
  go_wp2_with (fail)
  refine (HST.out w).mono ?_
  rintro e w' ⟨rfl, rfl⟩
  go_wp2_with (fail)
  refine HWD.out.mono ?_
  rintro e w1 ⟨gw, cw, rfl, hLc, hgw, hzw, hb1⟩
  have H1 := Lib.hid (And.intro hzw hb1)
  clear hzw hb1
  go_wp2_with (fail)
  refine (HHA.out w1).mono ?_
  rintro e w2 ⟨g2, c2, rfl, hz2, hb2⟩
  have H2 := Lib.hid (And.intro hz2 (And.intro (H1.out.1.below hb2) (H1.out.2.trans (hb2.mono H1.out.2.size))))
  clear hz2 hb2
  go_wp2_with (fail)
  refine (HSI.out g2 c2 w2 H2.out.1).mono ?_
  rintro e w3 ⟨gh, ch, rfl, hKc, hgh, hzh, hb3⟩
  have H3 := Lib.hid (And.intro hzh (And.intro (H2.out.2.1.below hb3) (H2.out.2.2.trans (hb3.mono H2.out.2.2.size))))
  clear hzh hb3
  have HI : Hid (CollI w3 ((ws.take 0).map (turnZ n)) 0 (.slice (some ⟨w3.heap.size, 0, none⟩) 0 0) (w3.alloc (.cells #[] 3))) := Lib.hid (CollI.start w3)
  go_wp2_with (fail)
  go_loopw [9, 8, 10] (fun v v3 v10 wr => ∃ k g c : Nat, k ≤ L ∧ v = .int .i64 k ∧ v3 = .slice (some ⟨g, 0, none⟩) k c ∧ Hid (CollI w3 ((ws.take k).map (turnZ n)) k (.slice (some ⟨g, 0, none⟩) k c) wr)) (fun v _ _ _ => L - (intOf v).toNat)
  case atStart => exact ⟨0, _, 0, Nat.zero_le _, rfl, rfl, HI⟩
  case round =>
    clear HI
    obtain ⟨k, g, c, hk, rfl, rfl, HR⟩ := hrel
    by_cases hlt : k < L
    · have hkI : (k : Int) < (L : Int) := by omega
      obtain ⟨b', off', eb, hck⟩ := (H3.out.2.1.below HR.out.1) k (by rw [HL.out]; exact hlt)
      cases eb
      rw [Nat.zero_add] at hck
      obtain ⟨z, hzk⟩ : ∃ z, ws[k]?.getD 0 = z := ⟨_, rfl⟩
      rw [hzk] at hck
      have hzl : Let n z := by
        rw [← hzk, List.getElem?_eq_getElem (by rw [HL.out]; exact hlt), Option.getD_some]
        exact HLET.out _ (List.getElem_mem _)
      have HSN : Hid ((ws.take (k + 1)).map (turnZ n) = (ws.take k).map (turnZ n) ++ [turnZ n z]) := Lib.hid (by
        rw [List.take_add_one, List.map_append, ← hzk, List.getElem?_eq_getElem (by rw [HL.out]; exact hlt)]
        rfl)
      obtain ⟨z0, z1, z2⟩ := hzl
      have hn6 := HN.out.2
      clear hzk
      by_cases hp : 0 < z
      · have hmx : ¬ z < -z := by omega
        have hnn : ¬ z < 0 := by omega
        have HT : Hid (turnZ n z = (n : Int) - z) := Lib.hid (by unfold turnZ; rw [if_neg hnn]; omega)
        go_wp2_with (fail)
        go_quiet (fail)
        have hb7 := below_drewN (Below.refl wr.heap.size wr) nq
        have HR7 : Hid (CollI w3 ((ws.take k).map (turnZ n)) k (.slice (some ⟨g, 0, none⟩) k c) (wr.drewN nq)) := Lib.hid ⟨HR.out.1.trans (hb7.mono HR.out.1.size), HR.out.2.1, g, c, rfl, ownsRow_kept HR.out.owns hb7⟩
        have hck7 := (hb7.cell (p := ⟨gw, k, none⟩) (World.block_lt_of_cell? _ _ hck)).trans hck
        generalize wr.drewN nq = w7 at HR7 hck7 ⊢
        have hown := HR7.out.owns
        have hsz := HR7.out.1.size
        clear hb7 hck HR
        go_wp2_with (at_builtin; refine wpList_app_int rfl (.tmp 45) (.tmp 47) rfl w3.heap.size _ k _ rfl ((n : Int) - z) w7.heap.size rfl rfl hown (by omega) hsz ?_; intro g8 c8 w8 hr8 hg8 _ _; have H8 := Lib.hid (HR7.out.next hr8 hg8); clear hr8 hg8)
        exact ⟨⟨k + 1, g8, c8, by omega, by go_num, rfl, Lib.hid (by rw [HSN.out, HT.out]; exact H8.out)⟩, by simp [intOf]; omega⟩
      · have hmx : z < -z := by omega
        have hnn : z < 0 := by omega
        have HT : Hid (turnZ n z = -((n : Int) + z)) := Lib.hid (by unfold turnZ; rw [if_pos hnn]; omega)
        go_wp2_with (fail)
        go_quiet (fail)
        have hb7 := below_drewN (Below.refl wr.heap.size wr) nq
        have HR7 : Hid (CollI w3 ((ws.take k).map (turnZ n)) k (.slice (some ⟨g, 0, none⟩) k c) (wr.drewN nq)) := Lib.hid ⟨HR.out.1.trans (hb7.mono HR.out.1.size), HR.out.2.1, g, c, rfl, ownsRow_kept HR.out.owns hb7⟩
        have hck7 := (hb7.cell (p := ⟨gw, k, none⟩) (World.block_lt_of_cell? _ _ hck)).trans hck
        generalize wr.drewN nq = w7 at HR7 hck7 ⊢
        have hown := HR7.out.owns
        have hsz := HR7.out.1.size
        clear hb7 hck HR
        go_wp2_with (at_builtin; refine wpList_app_int rfl (.tmp 45) (.tmp 47) rfl w3.heap.size _ k _ rfl (-((n : Int) + z)) w7.heap.size rfl rfl hown (by omega) hsz ?_; intro g8 c8 w8 hr8 hg8 _ _; have H8 := Lib.hid (HR7.out.next hr8 hg8); clear hr8 hg8)
        exact ⟨⟨k + 1, g8, c8, by omega, by go_num, rfl, Lib.hid (by rw [HSN.out, HT.out]; exact H8.out)⟩, by simp [intOf]; omega⟩
    · obtain rfl : k = L := by omega
      have ht : ws.take k = ws := List.take_of_length_le (by have := HL.out; omega)
      have HT := HR.out
      rw [ht] at HT
      have HU := Lib.hid (And.intro (Ints.of_owns HT.owns) (And.intro (H3.out.1.below HT.1) (And.intro (H3.out.2.1.below HT.1) (H3.out.2.2.trans (HT.1.mono H3.out.2.2.size)))))
      clear HT ht HR
      have HJ3 : Hid (∀ (wx : World) (a1 a2 a3 : Option Addr) (n1 n2 n3 c1 c2 c3 : Nat) (l1 l2 l3 : List Int), l1.length = n1 → l2.length = n2 → l3.length = n3 → n1 ≤ 100 → n2 ≤ 100 → n3 ≤ 100 → Ints wx a1 l1 → Ints wx a2 l2 → Ints wx a3 l3 → (a1 = none → c1 = 0) → (a2 = none → c2 = 0) → (a3 = none → c3 = 0) → Calls Try.prog 43 #[.slice (some ⟨wx.heap.size, 0, none⟩) 3 3] (wx.alloc (.cells #[.slice a1 n1 c1, .slice a2 n2 c2, .slice a3 n3 c3] 22)) (fun e w' => ∃ a c, e = .returned (.slice a (n1 + n2 + n3) c) ∧ Ints w' a (l1 ++ l2 ++ l3) ∧ Below wx.heap.size wx w')) := Lib.hid (fun wx a1 a2 a3 n1 n2 n3 c1 c2 c3 l1 l2 l3 e1 e2 e3 b1 b2 b3 z1 z2 z3 q1 q2 q3 => by
        subst e1 e2 e3
        have h := joined_new [.slice a1 l1.length c1, .slice a2 l2.length c2, .slice a3 l3.length c3] [l1, l2, l3] 3 (l1.length + l2.length + l3.length) wx rfl rfl (by omega) (fun l hl => by simp only [List.mem_cons, List.not_mem_nil, or_false] at hl; rcases hl with rfl | rfl | rfl <;> omega) (by simp; omega) (fun i hi => by
          match i, hi with
          | 0, _ => exact ⟨a1, c1, rfl, z1, q1⟩
          | 1, _ => exact ⟨a2, c2, rfl, z2, q2⟩
          | 2, _ => exact ⟨a3, c3, rfl, z3, q3⟩)
        refine Calls.mono h fun e w' ⟨a, c, e1, e2, e3⟩ => ⟨a, c, e1, ?_, e3⟩
        have ef : [l1, l2, l3].flatten = l1 ++ l2 ++ l3 := by simp
        rw [← ef]; exact e2)
      have HJ2 : Hid (∀ (wx : World) (a1 a2 : Option Addr) (n1 n2 c1 c2 : Nat) (l1 l2 : List Int), l1.length = n1 → l2.length = n2 → n1 ≤ 100 → n2 ≤ 100 → Ints wx a1 l1 → Ints wx a2 l2 → (a1 = none → c1 = 0) → (a2 = none → c2 = 0) → Calls Try.prog 43 #[.slice (some ⟨wx.heap.size, 0, none⟩) 2 2] (wx.alloc (.cells #[.slice a1 n1 c1, .slice a2 n2 c2] 22)) (fun e w' => ∃ a c, e = .returned (.slice a (n1 + n2) c) ∧ Ints w' a (l1 ++ l2) ∧ Below wx.heap.size wx w')) := Lib.hid (fun wx a1 a2 n1 n2 c1 c2 l1 l2 e1 e2 b1 b2 z1 z2 q1 q2 => by
        subst e1 e2
        have h := joined_new [.slice a1 l1.length c1, .slice a2 l2.length c2] [l1, l2] 2 (l1.length + l2.length) wx rfl rfl (by omega) (fun l hl => by simp only [List.mem_cons, List.not_mem_nil, or_false] at hl; rcases hl with rfl | rfl <;> omega) (by simp) (fun i hi => by
          match i, hi with
          | 0, _ => exact ⟨a1, c1, rfl, z1, q1⟩
          | 1, _ => exact ⟨a2, c2, rfl, z2, q2⟩)
        refine Calls.mono h fun e w' ⟨a, c, e1, e2, e3⟩ => ⟨a, c, e1, ?_, e3⟩
        have ef : [l1, l2].flatten = l1 ++ l2 := by simp
        rw [← ef]; exact e2)
      have HWT : Hid (∀ z ∈ ws.map (turnZ n), Let n z) := Lib.hid (fun z hz => by
        obtain ⟨y, hy, rfl⟩ := List.mem_map.1 hz
        exact turnZ_let (HLET.out y hy))
      have HTL : Hid ((ws.map (turnZ n)).length = k) := Lib.hid (by rw [List.length_map]; exact HL.out)
      have HB0 := Lib.hid (Below.refl wr.heap.size wr)
      go_wp2_with (fail)
      refine (HJ3.out wr (some ⟨gh, 0, none⟩) (some ⟨gh, 0, none⟩) (some ⟨gw, 0, none⟩) K K k ch ch cw h h ws HK.out HK.out HL.out (by omega) (by omega) (by omega) HU.out.2.1 HU.out.2.1 HU.out.2.2.1 (fun h => by cases h) (fun h => by cases h) (fun h => by cases h)).mono ?_
      rintro e w4 ⟨a4, c4, rfl, hz4, hb4⟩
      have H4 := Lib.hid (And.intro hz4 hb4)
      clear hz4 hb4
      go_wp2_with (fail)
      refine (HJ3.out w4 (some ⟨gw, 0, none⟩) (some ⟨gh, 0, none⟩) (some ⟨gh, 0, none⟩) k K K cw ch ch ws h h HL.out HK.out HK.out (by omega) (by omega) (by omega) (HU.out.2.2.1.below H4.out.2) (HU.out.2.1.below H4.out.2) (HU.out.2.1.below H4.out.2) (fun h => by cases h) (fun h => by cases h) (fun h => by cases h)).mono ?_
      rintro e w5 ⟨a5, c5, rfl, hz5, hb5⟩
      have H5 := Lib.hid (And.intro (H4.out.1.below hb5) (And.intro hz5 (H4.out.2.trans (hb5.mono H4.out.2.size))))
      clear hz5 hb5
      go_wp2_with (fail)
      refine (same_yes n (K + K + k) (k + K + K) c4 c5 a4 a5 (h ++ h ++ ws) (ws ++ h ++ h) w5 (by omega) (by omega) (by omega) (by omega) (by simp only [List.length_append, HK.out, HL.out]) (by simp only [List.length_append, HK.out, HL.out]) H5.out.1 H5.out.2.1 (mem_app (mem_app HHL.out HHL.out) HLET.out) (mem_app (mem_app HLET.out HHL.out) HHL.out) HC1.out).mono ?_
      rintro e w6 ⟨rfl, hb6⟩
      have H6 := Lib.hid (H5.out.2.2.trans (hb6.mono H5.out.2.2.size))
      clear hb6
      go_wp2_with (fail)
      refine (HJ2.out w6 (some ⟨gw, 0, none⟩) (some ⟨gh, 0, none⟩) k K cw ch ws h HL.out HK.out (by omega) (by omega) (HU.out.2.2.1.below H6.out) (HU.out.2.1.below H6.out) (fun h => by cases h) (fun h => by cases h)).mono ?_
      rintro e w7 ⟨a7, c7, rfl, hz7, hb7⟩
      have H7 := Lib.hid (And.intro hz7 (H6.out.trans (hb7.mono H6.out.size)))
      clear hz7 hb7
      go_wp2_with (fail)
      refine (HJ2.out w7 (some ⟨gh, 0, none⟩) (some ⟨g, 0, none⟩) K k ch c h (ws.map (turnZ n)) HK.out HTL.out (by omega) (by omega) (HU.out.2.1.below H7.out.2) (HU.out.1.below H7.out.2) (fun h => by cases h) (fun h => by cases h)).mono ?_
      rintro e w8 ⟨a8, c8, rfl, hz8, hb8⟩
      have H8 := Lib.hid (And.intro (H7.out.1.below hb8) (And.intro hz8 (H7.out.2.trans (hb8.mono H7.out.2.size))))
      clear hz8 hb8
      go_wp2_with (fail)
      refine (same_yes n (k + K) (K + k) c7 c8 a7 a8 (ws ++ h) (h ++ ws.map (turnZ n)) w8 (by omega) (by omega) (by omega) (by omega) (by simp only [List.length_append, HK.out, HL.out]) (by simp only [List.length_append, HK.out, HTL.out]) H8.out.1 H8.out.2.1 (mem_app HLET.out HHL.out) (mem_app HHL.out HWT.out) HC2.out).mono ?_
      rintro e w9 ⟨rfl, hb9⟩
      have H9 := Lib.hid (H8.out.2.2.trans (hb9.mono H8.out.2.2.size))
      clear hb9
      go_wp2_with (fail)
      refine (HLV.out w9).mono ?_
      rintro e w10 ⟨rfl, hb10⟩
      have H10 := Lib.hid (H9.out.trans (hb10.mono H9.out.size))
      clear hb10
      go_wp2_with (fail)
      go_ret
      exact ⟨rfl, HU.out.2.2.2.trans (H10.out.mono HU.out.2.2.2.size)⟩

end Go.Proofs.Ytbcggbmjbljnfaa
