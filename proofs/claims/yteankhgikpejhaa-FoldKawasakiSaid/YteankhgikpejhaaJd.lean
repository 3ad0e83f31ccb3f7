/-
  The walk of 'FoldCounts'.
-/
import Derived.Test.YteankhgikpejhaaJc
import Derived.Test.YteankhgikpejhaaIg
namespace Go.Proofs.Yteankhgikpejhaa
open Go.RowKit Go.Sort Go.Shelf

theorem At_neg (a : Option Addr) (n cap m : Nat) (zs : List Int) (r : Int) (w : World) (hn : zs.length = n) (hz : Ints w a zs) (hs : stripB zs = true) (h1 : r < 0) :
    CallsIn Fence.wide m Try.prog 32 #[.slice a n cap, .int .i64 r] w (Gives2 (.slice none 0 0) (.int .i64 5) w) := by
  refine (At_good a n cap m zs r w hn hz hs).mono ?_
  rintro e w' ⟨v, err, rfl, hb, hm⟩
  rw [atZ, if_neg (by omega)] at hm
  obtain ⟨rfl, rfl⟩ := hm
  exact ⟨rfl, hb⟩

set_option maxRecDepth 200000 in
set_option maxHeartbeats 8000000 in
theorem FoldCounts_any (n cap : Nat) (a : Option Addr) (zs : List Int) (rank : Int) (w : World) (hn : zs.length = n) (hm : n ≤ 9223372036854775807) (hcap : n ≤ cap) (hnone : a = none → cap = 0) (hz : Ints w a zs)
    (hr0 : -9223372036854775808 ≤ rank) (hr1 : rank ≤ 9223372036854775807) :
    Calls Try.prog 5 #[.slice a n cap, .int .i64 rank] w fun e w' => e = .returned (.bool true) ∧ Below w.heap.size w w' := by
  have hct := Lib.hid (cut_any a n cap 6 9 zs w hn hm hcap hnone (by omega) (by omega) (by omega) hz)
  obtain ⟨l, hl⟩ : ∃ l, cutZ zs 6 9 = l := ⟨_, rfl⟩
  have hl10 : l.length ≤ 10 := by
    rw [← hl, cutZ, List.length_take]
    split <;> omega
  rw [hl] at hct
  clear hl hz hn hm hcap hnone
  have HV := Lib.hid lives_any
  rcases Bool.eq_false_or_eq_true (stripB l) with hs | hs
  · have HG := Lib.hid hs
    obtain ⟨p1, p9, _⟩ := strip_parts hs
    clear hs
    go_enter Try.func5, Try.ntmps5
    go_wp2_with fail
    refine hct.out.mono ?_
    rintro e w1 ⟨v, rfl, ⟨a1, c1, rfl, hI1⟩, hb1⟩
    have hat := hI1.at
    obtain ⟨bL, oL, rfl⟩ : ∃ b o, a1 = some ⟨b, o, none⟩ := by
      rcases hat with h | ⟨b, o, h, _⟩
      · subst h; simp at p1
      · exact ⟨b, o, h⟩
    have H1 := Lib.hid (And.intro hI1 hb1)
    clear hI1 hb1 hct hat
    go_wp2_with fail
    refine ((callsIn_wide (n := 0)).1 (Count_good _ l.length c1 _ l w1 rfl H1.out.1 HG.out)).mono ?_
    obtain ⟨cnt, hcnt⟩ : ∃ cnt : Nat, countOf l = cnt := ⟨_, rfl⟩
    have HCN := Lib.hid hcnt
    rw [hcnt]
    clear hcnt
    rintro e w2 ⟨rfl, hb2⟩
    have H2 := Lib.hid (And.intro (H1.out.1.below hb2) (H1.out.2.trans (hb2.mono H1.out.2.size)))
    clear hb2 H1
    rcases (by omega : rank < 0 ∨ (0 ≤ rank ∧ (cnt : Int) ≤ rank) ∨ (0 ≤ rank ∧ rank < (cnt : Int))) with hr | ⟨hr, hr2⟩ | ⟨hr, hr2⟩
    · go_wp2_with fail
      refine ((callsIn_wide (n := 0)).1 (At_neg _ l.length c1 _ l rank w2 rfl H2.out.1 HG.out hr)).mono ?_
      rintro e w3 ⟨rfl, hb3⟩
      have H3 := Lib.hid (And.intro (H2.out.1.below hb3) (H2.out.2.trans (hb3.mono H2.out.2.size)))
      clear hb3 H2
      go_wp2_with fail
      refine (Strip_any _ l.length c1 l w3 rfl (by omega) H3.out.1).mono ?_
      rw [HG.out]
      rintro e w4 ⟨rfl, rfl⟩
      go_wp2_with fail
      refine (All_any bL oL l.length c1 l w3 rfl HG.out H3.out.1).mono ?_
      rintro e w5 ⟨v, rfl, hL, hb5⟩
      obtain ⟨gA, cA, vsA, rfl, hrA, heA⟩ := hL
      have H5 := Lib.hid (H3.out.2.trans (hb5.mono H3.out.2.size))
      have hcount : (ordersOf (layCl l) l.length).length = cnt := HCN.out
      rw [hcount]
      clear hb5 hrA heA hcount
      go_wp2_with fail
      refine ((callsIn_wide (n := 0)).1 (HV.out _ _)).mono ?_
      rintro e w6 ⟨rfl, hb6⟩
      have H6 := Lib.hid (H5.out.trans (hb6.mono H5.out.size))
      clear hb6
      go_wp2
      go_ret
      exact ⟨rfl, H6.out⟩
    · go_wp2_with fail
      refine ((callsIn_wide (n := 0)).1 (At_out _ l.length c1 _ l rank w2 rfl H2.out.1 HG.out (by rw [HCN.out]; exact hr2))).mono ?_
      rintro e w3 ⟨rfl, hb3⟩
      have H3 := Lib.hid (And.intro (H2.out.1.below hb3) (H2.out.2.trans (hb3.mono H2.out.2.size)))
      clear hb3 H2
      go_wp2_with fail
      refine (Strip_any _ l.length c1 l w3 rfl (by omega) H3.out.1).mono ?_
      rw [HG.out]
      rintro e w4 ⟨rfl, rfl⟩
      go_wp2_with fail
      refine (All_any bL oL l.length c1 l w3 rfl HG.out H3.out.1).mono ?_
      rintro e w5 ⟨v, rfl, hL, hb5⟩
      obtain ⟨gA, cA, vsA, rfl, hrA, heA⟩ := hL
      have H5 := Lib.hid (H3.out.2.trans (hb5.mono H3.out.2.size))
      have hcount : (ordersOf (layCl l) l.length).length = cnt := HCN.out
      rw [hcount]
      clear hb5 hrA heA hcount
      go_wp2_with fail
      refine ((callsIn_wide (n := 0)).1 (HV.out _ _)).mono ?_
      rintro e w6 ⟨rfl, hb6⟩
      have H6 := Lib.hid (H5.out.trans (hb6.mono H5.out.size))
      clear hb6
      go_wp2
      go_ret
      exact ⟨rfl, H6.out⟩
    · go_wp2_with fail
      refine ((callsIn_wide (n := 0)).1 (At_num _ l.length c1 _ l rank w2 rfl H2.out.1 HG.out hr (by rw [HCN.out]; exact hr2))).mono ?_
      rintro e w3 ⟨O, g3, c3, hO, rfl, hI3, hb3⟩
      have HO := Lib.hid (And.intro hO (mem_orders.1 (List.mem_of_getElem? hO)))
      have H3 := Lib.hid (And.intro (H2.out.1.below hb3) (And.intro hI3 (H2.out.2.trans (hb3.mono H2.out.2.size))))
      clear hb3 hI3 hO H2
      go_wp2_with fail
      refine (Strip_any _ l.length c1 l w3 rfl (by omega) H3.out.1).mono ?_
      rw [HG.out]
      rintro e w4 ⟨rfl, rfl⟩
      go_wp2_with fail
      refine (All_any bL oL l.length c1 l w3 rfl HG.out H3.out.1).mono ?_
      rintro e w5 ⟨v, rfl, hL, hb5⟩
      obtain ⟨gA, cA, vsA, rfl, hrA, heA⟩ := hL
      have hcount : (ordersOf (layCl l) l.length).length = cnt := HCN.out
      rw [hcount] at hrA heA ⊢
      have HE := Lib.hid (And.intro hrA heA)
      have H5 := Lib.hid (And.intro (H3.out.2.1.below hb5) (H3.out.2.2.trans (hb5.mono H3.out.2.2.size)))
      clear hb5 hrA heA hcount
      go_wp2_with fail
      refine ((callsIn_wide (n := 0)).1 (HV.out _ _)).mono ?_
      rintro e w6 ⟨rfl, hb6⟩
      obtain ⟨r, rfl⟩ : ∃ r : Nat, rank = r := ⟨rank.toNat, by omega⟩
      have hrA := ownsRow_kept HE.out.1 hb6
      have heA := (HE.out.2 r (by omega)).kept hb6
      have hvl : vsA.length = cnt := by simpa using HE.out.1.1
      have cell := hrA.cellAt r (by omega)
      have hO := HO.out.1
      rw [Int.toNat_natCast] at hO
      rw [hO, Option.getD_some, List.getElem?_eq_getElem (by omega : r < vsA.length), Option.getD_some] at heA
      rw [List.getElem?_eq_getElem (by omega : r < vsA.length)] at cell
      obtain ⟨eb, ec, ee, er⟩ := heA
      rw [ee] at cell er
      have hol : O.length = l.length := HO.out.2.2.2.1
      rw [hol] at cell er
      have H6 := Lib.hid (And.intro (H5.out.1.below hb6) (And.intro (Ints.of_nats er) (H5.out.2.trans (hb6.mono H5.out.2.size))))
      clear hb6 hrA hvl hO ee er
      have HOL := Lib.hid (show (O.map fun (x : Nat) => (x : Int)).length = l.length by rw [List.length_map]; exact hol)
      clear hol
      go_wp2_with fail
      refine (same_any _ _ l.length l.length c3 ec (O.map fun (x : Nat) => (x : Int)) (O.map fun (x : Nat) => (x : Int)) w6 HOL.out HOL.out (by omega) (by omega) H6.out.1 H6.out.2.1).mono ?_
      rintro e w7 ⟨rfl, hb7⟩
      rw [decide_eq_true rfl]
      have H7 := Lib.hid (H6.out.2.2.trans (hb7.mono H6.out.2.2.size))
      clear hb7
      go_wp2
      go_ret
      exact ⟨rfl, H7.out⟩
  · have HG := Lib.hid hs
    clear hs
    go_enter Try.func5, Try.ntmps5
    go_wp2_with fail
    refine hct.out.mono ?_
    rintro e w1 ⟨v, rfl, ⟨a1, c1, rfl, hI1⟩, hb1⟩
    have H1 := Lib.hid (And.intro hI1 hb1)
    clear hI1 hb1 hct
    go_wp2_with fail
    refine (Count_bad a1 l.length c1 l w1 rfl (by omega) H1.out.1 HG.out).mono ?_
    rintro e w2 ⟨rfl, hb2⟩
    have H2 := Lib.hid (And.intro (H1.out.1.below hb2) (H1.out.2.trans (hb2.mono H1.out.2.size)))
    clear hb2 H1
    go_wp2_with fail
    refine (At_bad a1 l.length c1 l rank w2 rfl (by omega) H2.out.1 HG.out).mono ?_
    rintro e w3 ⟨rfl, hb3⟩
    have H3 := Lib.hid (And.intro (H2.out.1.below hb3) (H2.out.2.trans (hb3.mono H2.out.2.size)))
    clear hb3 H2
    go_wp2_with fail
    refine (Strip_any a1 l.length c1 l w3 rfl (by omega) H3.out.1).mono ?_
    rw [HG.out]
    rintro e w4 ⟨rfl, rfl⟩
    go_wp2_with fail
    refine ((callsIn_wide (n := 0)).1 (HV.out _ _)).mono ?_
    rintro e w5 ⟨rfl, hb5⟩
    have H5 := Lib.hid (H3.out.2.trans (hb5.mono H3.out.2.size))
    clear hb5
    go_wp2
    go_ret
    exact ⟨rfl, H5.out⟩

end Go.Proofs.Yteankhgikpejhaa
