/-
  The reference: the walk of 'All' at a vertex.
-/
import Derived.Test.YteankhgikpejhaaJb
import Derived.Test.YteankhgikpejhaaOa
import Derived.Test.YteankhgikpejhaaOd
namespace Go.Proofs.Yteankhgikpejhaa
open Go.RowKit Go.Sort

def okV (zs : List Int) (O : List Nat) : Bool := closesB zs && okFrom (vtxCl zs) zs.length O 0
/-- All orders that fold a vertex. -/
def allV (zs : List Int) : List (List Nat) := if closesB zs = true then ordersOf (vtxCl zs) zs.length else []
theorem allV_eq (zs : List Int) : allV zs = (permsAll zs.length zs.length []).filter (okV zs) := by
  unfold allV
  split
  · rename_i h
    rw [ordersOf, orders_filter]
    exact List.filter_congr fun P _ => by rw [okV, h, Bool.true_and]
  · rename_i h
    rw [Bool.not_eq_true] at h
    symm
    rw [List.filter_eq_nil_iff]
    intro P _
    rw [okV, h, Bool.false_and]
    exact Bool.false_ne_true

set_option maxRecDepth 100000 in
set_option maxHeartbeats 8000000 in
theorem AllV_any (b off n cap : Nat) (zs : List Int) (w : World) (hn : zs.length = n) (hg : vertexB zs = true) (hz : Ints w (some ⟨b, off, none⟩) zs) :
    Calls Try.prog 23 #[.slice (some ⟨b, off, none⟩) n cap, .bool true] w (Gives (fun v w' => ListsV w' w.heap.size (allV zs) v) w) := by
  obtain ⟨p1, p9, ps⟩ := vertex_parts hg
  have h1 : 1 ≤ n := by omega
  have h9 : n ≤ 9 := by omega
  have HOr := Lib.hid (orders_ref n h1 h9 n [] 0)
  have HZ := Lib.hid (And.intro hz (And.intro hn hg))
  have HF : Hid (∀ (O : List Nat) (wx : World) (aO : Option Addr) (cO : Nat), Ints wx (some ⟨b, off, none⟩) zs → O ∈ permsAll n n [] → Ints wx aO (O.map fun (x : Nat) => (x : Int)) →
      Calls Try.prog 22 #[.slice (some ⟨b, off, none⟩) n cap, .slice aO n cO, .bool true] wx fun e w' => e = .returned (.bool (okV zs O)) ∧ Below wx.heap.size wx w') := Lib.hid fun O wx aO cO h1' hO h2' => by
    obtain ⟨e1, e2, e3, _⟩ := permsAll_ok n n [] List.nodup_nil (by simp) O hO
    rcases Bool.eq_false_or_eq_true (closesB zs) with hc | hc
    · have hcz : posAt zs zs.length = 0 := by simp [closesB] at hc; exact hc.2
      have e := refBv_ok (vtx_fair p1 hcz) e2 (by rw [hn]; exact e3) (by rw [hn]; simpa using e1)
      rw [okV, hc, Bool.true_and, ← e]
      exact refFoldsV_any _ aO n n cap cO (vtxCl zs).crs zs O wx hn hg hc rfl (by rw [vtx_length]; omega) (by omega) h1' (by simpa using e1) e3 h2'
    · rw [okV, hc, Bool.false_and]
      exact refFoldsV_open _ aO n cap cO zs wx hn hg hc h1'
  have HLE := Lib.hid (show (permsAll n n []).length ≤ 387420489 from Nat.le_trans (permsAll_le n n []) (pow_bound h9 h9))
  have HEQ : Hid (allV zs = (permsAll n n []).filter (okV zs)) := Lib.hid (by rw [allV_eq, hn])
  clear hz hn hg p1 p9 ps
  go_enter Try.func23, Try.ntmps23
  go_wp2_with fail
  refine (HOr.out _ _ 0 _ List.nodup_nil (by simp) rfl (by omega) (fun i hi => by simp at hi)).mono ?_
  rintro e w1 ⟨v1, rfl, hL, hb1⟩
  have hL' := hL.weaken (show w.heap.size ≤ ((w.alloc (.cells #[] 22)).alloc (.cells #[] 3)).heap.size by simp; omega)
  obtain ⟨gA, cA, vsA, rfl, hrA, _⟩ := hL
  have hneA : w.heap.size + 2 ≤ gA := by have := (hrA.lt gA rfl).1; simpa using this
  have hltA := (hrA.lt gA rfl).2
  have hrow0 := row_below (heap_alloc_new w (.cells #[] 22)) (show Below (w.heap.size + 1) (w.alloc (.cells #[] 22)) w1 from ((Below.refl _ _).alloc (by simp) _).trans (hb1.mono (by simp))) (by omega)
  have hbw : Below w.heap.size w w1 := (((Below.refl _ w).alloc (Nat.le_refl _) _).alloc (by simp) _).trans (hb1.mono (by simp; omega))
  have H1 := Lib.hid (And.intro hL' (And.intro hbw hrow0))
  clear hL' hrA hb1 HOr hrow0 hbw
  go_wp2
  go_loopw [5, 7] (fun v i wr => ∃ k : Nat, k ≤ (permsAll n n []).length ∧ i = .int .i64 k ∧ Below w.heap.size w wr ∧ ListsV wr w.heap.size (((permsAll n n []).take k).filter (okV zs)) v ∧ ListsV wr w.heap.size (permsAll n n []) (.slice (some ⟨gA, 0, none⟩) (permsAll n n []).length cA) ∧ some gA ≠ v.ownBlock ∧ gA < wr.heap.size) (fun _ i _ => (permsAll n n []).length - (intOf i).toNat)
  case atStart =>
    refine ⟨0, Nat.zero_le _, rfl, H1.out.2.1, ⟨w.heap.size, 0, [], rfl, ⟨rfl, .inr ⟨w.heap.size, 0, #[], rfl, Nat.le_refl _, H1.out.2.2, Nat.le_refl _, by unfold maxLen; omega, rfl, rfl⟩⟩, fun i hi => by simp at hi⟩, H1.out.1, ?_, hltA⟩
    simp [Value.ownBlock]; omega
  case round =>
    obtain ⟨k, hk, rfl, hb, hL, hA, hgv, hgs⟩ := hrel
    have HB := Lib.hid hb
    have HL := Lib.hid hL
    have HA := Lib.hid hA
    have HG := Lib.hid hgv
    clear hb hL hA hgv
    have hlen := HLE.out
    obtain ⟨PL, hPL⟩ : ∃ PL, permsAll n n [] = PL := ⟨_, rfl⟩
    rw [hPL] at hk hlen HL HA ⊢
    have HPL := Lib.hid hPL
    clear hPL
    by_cases hlt : k < PL.length
    · obtain ⟨gB, cB, vsB, eB, hrB, heB⟩ := HA.out
      obtain ⟨gv, cv, vsv, rfl, _, _⟩ := HL.out
      have hvl : vsB.length = PL.length := by simpa using hrB.1
      cases eB
      have cell := hrB.cellAt k (by omega)
      rw [List.getElem?_eq_getElem (by omega)] at cell
      have hel := heB k hlt
      rw [List.getElem?_eq_getElem hlt, List.getElem?_eq_getElem (by omega : k < vsB.length), Option.getD_some, Option.getD_some] at hel
      obtain ⟨eb, ec, ee, er⟩ := hel
      rw [ee] at cell er
      have hO := List.getElem_mem hlt
      have HT : Hid ((PL.take (k + 1)).filter (okV zs) = (PL.take k).filter (okV zs) ++ (if okV zs PL[k] = true then [PL[k]] else [])) := Lib.hid (by
        rw [List.take_succ_eq_append_getElem hlt, List.filter_append]
        cases h : okV zs PL[k] <;> simp [h])
      have hOl : PL[k].length = n := by
        have := permsAll_ok n n [] List.nodup_nil (by simp) PL[k] (by rw [HPL.out]; exact hO)
        simpa using this.1
      rw [hOl] at cell er
      have hI : Ints wr (some ⟨eb, 0, none⟩) (PL[k].map fun (x : Nat) => (x : Int)) := Ints.of_nats (by have := er; exact this)
      have HFo := Lib.hid (HF.out PL[k] wr (some ⟨eb, 0, none⟩) ec (HZ.out.1.below HB.out) (by rw [HPL.out]; exact hO) hI)
      have HEl : Hid (ElemR wr w.heap.size PL[k] (.slice (some ⟨eb, 0, none⟩) n ec)) := Lib.hid ⟨eb, ec, by rw [hOl], by rw [hOl]; exact er⟩
      generalize PL[k] = O at *
      clear hrB heB hvl ee er hO hI hOl
      rcases Bool.eq_false_or_eq_true (okV zs O) with hok | hok
      · rw [hok, if_pos rfl] at HT
        rw [hok] at HFo
        clear hok
        go_wp2_with fail
        refine HFo.out.mono ?_
        rintro e w3 ⟨rfl, hb3⟩
        have cell3 := (hb3.cell (p := ⟨gA, k, none⟩) hgs).trans cell
        have hgs3 : gA < w3.heap.size := Nat.lt_of_lt_of_le hgs hb3.size
        have HB3 := Lib.hid (HB.out.trans (hb3.mono HB.out.size))
        have HL3 := Lib.hid (HL.out.kept hb3)
        have HA3 := Lib.hid (HA.out.kept hb3)
        have HE3 := Lib.hid (HEl.out.kept hb3)
        have hfl : Hid (((PL.take k).filter (okV zs)).length ≤ 1000000000) := Lib.hid (by
          have := List.length_filter_le (okV zs) (PL.take k)
          rw [List.length_take] at this
          omega)
        clear cell hb3 HFo
        go_wp2_with (at_builtin; refine wpList_app_list1 rfl (.tmp 26) (.tmp 31) rfl w.heap.size _ _ ((PL.take k).filter (okV zs)) O rfl _ rfl rfl HL3.out HE3.out hfl.out HB3.out.size ?_; intro v5 w5 hL5 hb5 hg5 hk5; have H5 := Lib.hid (And.intro hL5 (And.intro (HB3.out.trans hb5) (And.intro (hk5 _ _ HA3.out (fun e => HG.out e)) (And.intro (hg5 gA HG.out hgs3) (Nat.lt_of_lt_of_le hgs3 hb5.size))))); clear hL5 hb5 hg5 hk5)
        go_roundw
        case rel => exact ⟨k + 1, by omega, by go_num, H5.out.2.1, by rw [HT.out]; exact H5.out.1, H5.out.2.2.1, H5.out.2.2.2.1, H5.out.2.2.2.2⟩
        case measure => simp [intOf]; omega
      · rw [hok, if_neg Bool.false_ne_true, List.append_nil] at HT
        rw [hok] at HFo
        clear hok
        go_wp2_with fail
        refine HFo.out.mono ?_
        rintro e w3 ⟨rfl, hb3⟩
        have H3 := Lib.hid (And.intro (HB.out.trans (hb3.mono HB.out.size)) (And.intro (HL.out.kept hb3) (And.intro (HA.out.kept hb3) (Nat.lt_of_lt_of_le hgs hb3.size))))
        clear hb3
        go_wp2
        go_roundw
        case rel => exact ⟨k + 1, by omega, by go_num, H3.out.1, by rw [HT.out]; exact H3.out.2.1, H3.out.2.2.1, HG.out, H3.out.2.2.2⟩
        case measure => simp [intOf]; omega
    · go_wp2
      go_ret
      have hk' : k = PL.length := by omega
      subst hk'
      have hh := HL.out
      rw [List.take_length, ← HPL.out, ← HEQ.out] at hh
      exact ⟨_, rfl, hh, HB.out⟩

end Go.Proofs.Yteankhgikpejhaa
