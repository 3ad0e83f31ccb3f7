/-
  Proved: StrapPerms returns true for every number and every word: Perm returns the permutation of a word, and Loops how many cycles it has, or the errors that the document names. No condition.
-/
import Derived.Test.YtbcggbmjbljnfaaDh
namespace Go.Proofs.Ytbcggbmjbljnfaa
open Go.RowKit Go.Sort

theorem checkZ_pos {n : Int} {ws : List Int} {most : Int} (h : checkZ n ws most = 0) : 2 ≤ n ∧ n ≤ 8 := by
  unfold checkZ at h
  split at h
  · rename_i h1
    simpa using h1
  · cases h
set_option maxRecDepth 100000 in
set_option maxHeartbeats 1000000 in
theorem StrapPerms_any (n : Int) (a : Option Addr) (m cap : Nat) (zs : List Int) (w : World) (hn : zs.length = m) (hm : m ≤ 9223372036854775807) (hcap : m ≤ cap) (hnone : a = none → cap = 0) (hz : Ints w a zs) :
    Calls Try.prog 3 #[.int .i64 n, .slice a m cap] w fun e w' => e = .returned (.bool true) ∧ Below w.heap.size w w' := by
  have HCU := Lib.hid (cut60_any a m cap zs w hn hm hcap hnone hz)
  have hl61 : (zs.take 61).length ≤ 61 := by rw [List.length_take]; omega
  obtain ⟨ws, hws⟩ : ∃ ws, zs.take 61 = ws := ⟨_, rfl⟩
  rw [hws] at HCU hl61
  obtain ⟨L, hL⟩ : ∃ L, ws.length = L := ⟨_, rfl⟩
  unfold CutV at HCU
  rw [hL] at HCU hl61
  clear hws hz hn hcap hnone
  have HLV := Lib.hid (fun wx => lives_any wx)
  by_cases hck : checkZ n ws 60 = 0
  · obtain ⟨n2, n8⟩ := checkZ_pos hck
    obtain ⟨k, rfl⟩ : ∃ k : Nat, n = (k : Int) := ⟨n.toNat, by omega⟩
    obtain ⟨_, _, hwl, hm60⟩ := checkZ_good hck
    have hpi := permK_in (n := k) hwl (k := L) (by omega)
    have HPG := Lib.hid (fun (b : Option Addr) (c : Nat) (wx : World) (hx : Ints wx b ws) => Perm_good k b L c ws wx hL hx hck)
    have HLG := Lib.hid (fun (b : Option Addr) (c : Nat) (wx : World) (hx : Ints wx b ws) => Loops_good k b L c ws wx hL hx hck)
    have HCK := Lib.hid (fun (b : Option Addr) (c : Nat) (wx : World) (hx : Ints wx b ws) => refCheck_any k 60 b L c ws wx hL (by omega) hx)
    rw [hck] at HCK
    have HRP := Lib.hid (fun (b : Option Addr) (c : Nat) (wx : World) (hx : Ints wx b ws) => refPerm_any k b L c ws wx hL (by omega) (by omega) hx hwl)
    obtain ⟨p, hp⟩ : ∃ p, permK k ws L = p := ⟨_, rfl⟩
    rw [hp] at HPG HLG HRP hpi
    have HSA := Lib.hid (fun (g1 g2 c : Nat) (wx : World) (h1 : Nats wx (some ⟨g1, 0, none⟩) p) (h2 : Nats wx (some ⟨g2, 0, none⟩) p) => same_any (some ⟨g1, 0, none⟩) (some ⟨g2, 0, none⟩) k k k c _ _ wx (by rw [List.length_map]; exact hpi.1) (by rw [List.length_map]; exact hpi.1) (by omega) (by omega) h1.ints h2.ints)
    simp only [decide_true] at HSA
    have HRL := Lib.hid (fun (g2 c : Nat) (wx : World) (h2 : Nats wx (some ⟨g2, 0, none⟩) p) => refLoops_any (some ⟨g2, 0, none⟩) k c p wx hpi (by omega) h2)
    clear hck hwl hpi hp hL hm60
    go_enter Try.func3, Try.ntmps3
    go_wp2_with (fail)
    refine HCU.out.mono ?_
    rintro e w1 ⟨b, c, rfl, hi1, hb1⟩
    have H1 := Lib.hid (And.intro hi1 hb1)
    clear hi1 hb1
    go_wp2_with (fail)
    refine (HPG.out b c w1 H1.out.1).mono ?_
    rintro e w2 ⟨g2, rfl, hn2, hb2⟩
    have H2 := Lib.hid (And.intro (H1.out.1.below hb2) (And.intro hn2 (H1.out.2.trans (hb2.mono H1.out.2.size))))
    clear hn2 hb2
    go_wp2_with (fail)
    refine (HLG.out b c w2 H2.out.1).mono ?_
    rintro e w3 ⟨rfl, hb3⟩
    have H3 := Lib.hid (And.intro (H2.out.1.below hb3) (And.intro (H2.out.2.1.below hb3) (H2.out.2.2.trans (hb3.mono H2.out.2.2.size))))
    clear hb3
    go_wp2_with (fail)
    refine (HCK.out b c w3 H3.out.1).mono ?_
    rintro e w' ⟨rfl, rfl⟩
    go_wp2_with (fail)
    refine (HRP.out b c w3 H3.out.1).mono ?_
    rintro e w4 ⟨g4, c4, rfl, hn4, hb4⟩
    have H4 := Lib.hid (And.intro (H3.out.2.1.below hb4) (And.intro hn4 (H3.out.2.2.trans (hb4.mono H3.out.2.2.size))))
    clear hn4 hb4
    go_wp2_with (fail)
    refine (HSA.out g2 g4 c4 w4 H4.out.1 H4.out.2.1).mono ?_
    rintro e w5 ⟨rfl, hb5⟩
    have H5 := Lib.hid (And.intro (H4.out.2.1.below hb5) (H4.out.2.2.trans (hb5.mono H4.out.2.2.size)))
    clear hb5
    go_wp2_with (fail)
    refine (HRL.out g4 c4 w5 H5.out.1).mono ?_
    rintro e w6 ⟨rfl, hb6⟩
    have H6 := Lib.hid (H5.out.2.trans (hb6.mono H5.out.2.size))
    clear hb6
    go_wp2_with (fail)
    refine (HLV.out w6).mono ?_
    rintro e w7 ⟨rfl, hb7⟩
    have H7 := Lib.hid (H6.out.trans (hb7.mono H6.out.size))
    clear hb7
    go_wp2_with (fail)
    go_ret
    exact ⟨rfl, H7.out⟩
  · obtain ⟨e0, he0⟩ : ∃ e0, checkZ n ws 60 = e0 := ⟨_, rfl⟩
    rw [he0] at hck
    have HPB := Lib.hid (fun (b : Option Addr) (c : Nat) (wx : World) (hx : Ints wx b ws) => Perm_bad n e0 b L c ws wx hL (by omega) hx he0 hck)
    have HLB := Lib.hid (fun (b : Option Addr) (c : Nat) (wx : World) (hx : Ints wx b ws) => Loops_bad n e0 b L c ws wx hL (by omega) hx he0 hck)
    have HCK := Lib.hid (fun (b : Option Addr) (c : Nat) (wx : World) (hx : Ints wx b ws) => refCheck_any n 60 b L c ws wx hL (by omega) hx)
    rw [he0] at HCK
    clear he0 hL
    go_enter Try.func3, Try.ntmps3
    go_wp2_with (fail)
    refine HCU.out.mono ?_
    rintro e w1 ⟨b, c, rfl, hi1, hb1⟩
    have H1 := Lib.hid (And.intro hi1 hb1)
    clear hi1 hb1
    go_wp2_with (fail)
    refine (HPB.out b c w1 H1.out.1).mono ?_
    rintro e w2 ⟨rfl, hb2⟩
    have H2 := Lib.hid (And.intro (H1.out.1.below hb2) (H1.out.2.trans (hb2.mono H1.out.2.size)))
    clear hb2
    go_wp2_with (fail)
    refine (HLB.out b c w2 H2.out.1).mono ?_
    rintro e w3 ⟨rfl, hb3⟩
    have H3 := Lib.hid (And.intro (H2.out.1.below hb3) (H2.out.2.trans (hb3.mono H2.out.2.size)))
    clear hb3
    go_wp2_with (fail)
    refine (HCK.out b c w3 H3.out.1).mono ?_
    rintro e w' ⟨rfl, rfl⟩
    go_wp2_with (fail)
    refine (HLV.out w3).mono ?_
    rintro e w7 ⟨rfl, hb7⟩
    have H7 := Lib.hid (H3.out.2.trans (hb7.mono H3.out.2.size))
    clear hb7
    go_wp2_with (fail)
    go_ret
    exact ⟨rfl, H7.out⟩

end Go.Proofs.Ytbcggbmjbljnfaa
