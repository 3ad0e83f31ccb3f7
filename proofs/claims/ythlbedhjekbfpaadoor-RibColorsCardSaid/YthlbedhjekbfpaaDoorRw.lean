/-
  The walks of the reference's 'Same', of 'chordalOf' and 'Order'.
-/
import Derived.Test.YthlbedhjekbfpaaDoorRv
namespace Go.Proofs.YthlbedhjekbfpaaDoor
open Go.RowKit Go.Sort

theorem take_eq_step {xs ys : List Int} (k : Nat) (hx : k < xs.length) (hy : k < ys.length) (h : xs.take k = ys.take k) (e : xs[k]?.getD 0 = ys[k]?.getD 0) : xs.take (k + 1) = ys.take (k + 1) := by
  rw [List.getElem?_eq_getElem hx, List.getElem?_eq_getElem hy, Option.getD_some, Option.getD_some] at e
  rw [List.take_succ_eq_append_getElem hx, List.take_succ_eq_append_getElem hy, h, e]

set_option maxHeartbeats 1000000 in
theorem same_any (a b : Option Addr) (n m ca cb : Nat) (xs ys : List Int) (w : World) (hx : xs.length = n) (hy : ys.length = m) (hn : n ≤ 9223372036854775807) (hm : m ≤ 9223372036854775807) (ha : Ints w a xs) (hb : Ints w b ys) :
    Calls Tryd.prog 39 #[.slice a n ca, .slice b m cb] w fun e w' => e = .returned (.bool (decide (xs = ys))) ∧ Below w.heap.size w w' := by
  by_cases hnm : n = m
  · subst hnm
    have HA := Lib.hid ha.at
    have HB := Lib.hid hb.at
    have HX := Lib.hid hx
    have HY := Lib.hid hy
    clear ha hb hx hy
    go_enter Tryd.func39, Tryd.ntmps39
    go_wp2
    go_loopw [5] (fun i wr => ∃ k : Nat, k ≤ n ∧ i = .int .i64 k ∧ xs.take k = ys.take k ∧ Below w.heap.size w wr) (fun i _ => n - (intOf i).toNat)
    case atStart => exact ⟨0, Nat.zero_le _, rfl, rfl, Below.refl _ _⟩
    case round =>
      obtain ⟨k, hk, rfl, he, hw⟩ := hrel
      have HE := Lib.hid he
      have HW := Lib.hid hw
      clear he hw
      by_cases hlt : k < n
      · have hkx : k < xs.length := by have := HX.out; omega
        have hky : k < ys.length := by have := HY.out; omega
        rcases HA.out with h | ⟨ba, oa, rfl, hca⟩
        · subst h; simp at hkx
        rcases HB.out with h | ⟨bb, ob, rfl, hcb⟩
        · subst h; simp at hky
        have c0 := (HW.out.cell (p := ⟨ba, oa + k, none⟩) (World.block_lt_of_cell? w _ (hca k hkx))).trans (hca k hkx)
        have c1 := (HW.out.cell (p := ⟨bb, ob + k, none⟩) (World.block_lt_of_cell? w _ (hcb k hky))).trans (hcb k hky)
        clear hca hcb
        have HKX := Lib.hid hkx
        have HKY := Lib.hid hky
        obtain ⟨x, hxk⟩ : ∃ x, xs[k]?.getD 0 = x := ⟨_, rfl⟩
        obtain ⟨y, hyk⟩ : ∃ y, ys[k]?.getD 0 = y := ⟨_, rfl⟩
        rw [hxk] at c0
        rw [hyk] at c1
        have HXK := Lib.hid (And.intro hxk hyk)
        clear hxk hyk hkx hky
        go_wp2
        go_quiet (fail)
        go_wp2
        · go_ret
          have hne : (x != y) = true := by assumption
          refine ⟨ret_bool (Eq.symm (decide_eq_false fun e => ?_)), below_drewN HW.out _⟩
          have h1 := HXK.out.1
          have h2 := HXK.out.2
          subst e
          rw [h1] at h2
          simp [h2] at hne
        · have heq : (x != y) = false := by assumption
          go_roundw
          case rel => exact ⟨k + 1, by omega, by go_num, take_eq_step k HKX.out HKY.out HE.out (by rw [HXK.out.1, HXK.out.2]; simpa using heq), below_drewN HW.out _⟩
          case measure => simp [intOf]; omega
      · go_wp2
        go_ret
        have hk' : k = n := by omega
        subst hk'
        refine ⟨ret_bool (Eq.symm (decide_eq_true ?_)), HW.out⟩
        have h := HE.out
        rwa [List.take_of_length_le (by rw [HX.out]; exact Nat.le_refl _), List.take_of_length_le (by rw [HY.out]; exact Nat.le_refl _)] at h
  · have hne : ((n : Int) != (m : Int)) = true := by rw [bne_iff_ne]; omega
    have HX := Lib.hid (And.intro hx hy)
    clear hx hy ha hb
    go_enter Tryd.func39, Tryd.ntmps39
    go_wp2
    go_ret
    refine ⟨ret_bool (Eq.symm (decide_eq_false fun e => hnm ?_)), Below.refl _ _⟩
    rw [← HX.out.1, ← HX.out.2, e]


theorem lt_of_row {w : World} {g : Nat} {gs : List Nat} (h : RowG w g gs) : g < w.heap.size := (Array.getElem?_eq_some_iff.1 h).1
/-- The order that 'chordalOf' finds. -/
def ordN (n : Nat) (gs : List Nat) : List Nat := elimAll gs (2 ^ n - 1 + 1) (2 ^ n - 1)
def ordI (n : Nat) (gs : List Nat) : List Int := (ordN n gs).map fun (x : Nat) => (x : Int)
/-- What 'chordalOf' hands back of a valid graph. -/
def ChordV (n : Nat) (gs : List Nat) (w : World) (e : Ending) (w' : World) : Prop := Below w.heap.size w w' ∧
  (if (ordI n gs).length < n then e = .returned (.tuple #[.slice none 0 0, .slice none 0 0, .int .i64 5])
   else ∃ g a c, e = .returned (.tuple #[.slice (some ⟨g, 0, none⟩) n n, .slice a (ordI n gs).length c, .int .i64 0]) ∧ RowG w' g gs ∧ w.heap.size ≤ g ∧ w'.ownsRow w.heap.size 3 1 (.slice a (ordI n gs).length c) (ordI n gs).length ((ordI n gs).map (Value.int .i64)))

set_option maxRecDepth 100000 in
set_option maxHeartbeats 2000000 in
theorem chordalOf_any (N : Int) (a : Option Addr) (m cap : Nat) (es : List (Int × Int)) (n : Nat) (gs : List Nat) (w : World) (hN : N = n) (h2 : n ≤ 12) (hadj : Adj n gs es)
    (hcall : Calls Tryd.prog 33 #[.int .i64 N, .slice a m cap] w (GoodG n gs w)) :
    Calls Tryd.prog 32 #[.int .i64 N, .slice a m cap] w (ChordV n gs w) := by
  have HC := Lib.hid hcall
  have H3 := Lib.hid (fun (wx : World) (g : Nat) => nodes_any (some ⟨g, 0, none⟩) n n wx h2)
  have HQ := Lib.hid (fun (wx : World) (g : Nat) (hr : RowG wx g gs) => eliminated_any (some ⟨g, 0, none⟩) n n (2 ^ n - 1) gs wx hadj.len h2 (pow_small h2) (fun i _ => hadj.lt16 h2 i) hr.sets)
  have HO : Hid ((elimAll gs (2 ^ n - 1 + 1) (2 ^ n - 1)).map (fun (x : Nat) => (x : Int)) = ordI n gs) := Lib.hid rfl
  rw [HO.out] at HQ
  obtain ⟨L, hL⟩ : ∃ L, ordI n gs = L := ⟨_, rfl⟩
  have HL := Lib.hid hL
  rw [hL] at HQ
  have hLl : L.length ≤ 65536 := by
    rw [← hL, ordI, List.length_map]
    have key : ∀ (f left : Nat), (elimAll gs f left).length ≤ f := by
      intro f
      induction f with
      | zero => intro left; simp [elimAll]
      | succ f ih =>
        intro left
        rw [elimAll]
        cases elimOf gs left with
        | none => simp
        | some v => simp only [List.length_cons]; have := ih (left &&& (65535 - 2 ^ v)); omega
    have := key (2 ^ n - 1 + 1) (2 ^ n - 1)
    have := pow_small h2
    unfold ordN
    omega
  obtain ⟨F, hF⟩ : ∃ F, 2 ^ n - 1 = F := ⟨_, rfl⟩
  rw [hF] at H3 HQ
  subst hN
  clear hadj hcall HO hL hF
  obtain ⟨q, hq⟩ : ∃ q, L.length = q := ⟨_, rfl⟩
  have HLq := Lib.hid hq
  rw [hq] at hLl
  clear hq
  by_cases hlt : q < n
  · have hltI : (q : Int) < (n : Int) := by omega
    go_enter Tryd.func32, Tryd.ntmps32
    go_wp2_with (go_at_call 33; refine HC.out.mono ?_; rintro e w1 ⟨g, rfl, hr, hge, hb⟩; have HR := Lib.hid (And.intro hr (And.intro hge hb)); clear hr hge hb)
    go_wp2_with (first
      | (go_at_call 35; refine (H3.out _ g).mono ?_; rintro e w2 ⟨rfl, rfl⟩)
      | (go_at_call 56; refine (HQ.out _ g HR.out.1).mono ?_; rintro e w3 ⟨a3, c3, rfl, hc3⟩; rw [HLq.out] at hc3 ⊢; have H4 := Lib.hid hc3; clear hc3))
    go_ret3
    refine ⟨HR.out.2.2.trans (H4.out.1.mono HR.out.2.2.size), ?_⟩
    rw [HL.out, HLq.out, if_pos hlt]
    rfl
  · have hltI : ¬ ((q : Int) < (n : Int)) := by omega
    go_enter Tryd.func32, Tryd.ntmps32
    go_wp2_with (go_at_call 33; refine HC.out.mono ?_; rintro e w1 ⟨g, rfl, hr, hge, hb⟩; have HR := Lib.hid (And.intro hr (And.intro hge hb)); clear hr hge hb)
    go_wp2_with (first
      | (go_at_call 35; refine (H3.out _ g).mono ?_; rintro e w2 ⟨rfl, rfl⟩)
      | (go_at_call 56; refine (HQ.out _ g HR.out.1).mono ?_; rintro e w3 ⟨a3, c3, rfl, hc3⟩; rw [HLq.out] at hc3 ⊢; have H4 := Lib.hid hc3; clear hc3))
    go_ret3
    refine ⟨HR.out.2.2.trans (H4.out.1.mono HR.out.2.2.size), ?_⟩
    rw [HL.out, HLq.out, if_neg hlt]
    exact ⟨g, a3, c3, rfl, row_below HR.out.1 H4.out.1 (lt_of_row HR.out.1), HR.out.2.1, ownsRow_weaken H4.out.2.2 HR.out.2.2.size⟩

/-- What 'Order' hands back of a valid graph. -/
def OrderV (n : Nat) (gs : List Nat) (w : World) (e : Ending) (w' : World) : Prop := Below w.heap.size w w' ∧
  (if (ordI n gs).length < n then e = .returned (.tuple #[.slice none 0 0, .int .i64 5])
   else ∃ a c, e = .returned (.tuple #[.slice a (ordI n gs).length c, .int .i64 0]) ∧ w'.ownsRow w.heap.size 3 1 (.slice a (ordI n gs).length c) (ordI n gs).length ((ordI n gs).map (Value.int .i64)))
set_option maxRecDepth 100000 in
set_option maxHeartbeats 2000000 in
theorem Order_any (N : Int) (a : Option Addr) (m cap : Nat) (es : List (Int × Int)) (n : Nat) (gs : List Nat) (w : World) (hN : N = n) (h2 : n ≤ 12) (hadj : Adj n gs es)
    (hcall : Calls Tryd.prog 33 #[.int .i64 N, .slice a m cap] w (GoodG n gs w)) :
    Calls Tryd.prog 8 #[.int .i64 N, .slice a m cap] w (OrderV n gs w) := by
  have HC := Lib.hid (chordalOf_any N a m cap es n gs w hN h2 hadj hcall)
  subst hN
  clear hadj hcall
  by_cases hlt : (ordI n gs).length < n
  · have HLT := Lib.hid hlt
    clear hlt
    go_enter Tryd.func8, Tryd.ntmps8
    go_wp2_with (go_at_call 32; refine HC.out.mono ?_; rintro e w1 ⟨hb, h⟩; rw [if_pos HLT.out] at h; subst h)
    go_ret2
    exact ⟨hb, by rw [if_pos HLT.out]; rfl⟩
  · have HLT := Lib.hid hlt
    clear hlt
    go_enter Tryd.func8, Tryd.ntmps8
    go_wp2_with (go_at_call 32; refine HC.out.mono ?_; rintro e w1 ⟨hb, h⟩; rw [if_neg HLT.out] at h; obtain ⟨g, a1, c1, rfl, hr, hge, hown⟩ := h; have HO := Lib.hid hown; clear hown hr)
    go_ret2
    exact ⟨hb, by rw [if_neg HLT.out]; exact ⟨_, _, rfl, HO.out⟩⟩

end Go.Proofs.YthlbedhjekbfpaaDoor
