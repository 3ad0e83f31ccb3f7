/-
  The walks of 'list' and 'eliminated': loops that collect ints, from nil.
-/
import Derived.Test.YticafbfijpjbnaaRd
namespace Go.Proofs.Yticafbfijpjbnaa
open Go.RowKit Go.Sort

/-- The word of a loop that collects integers, from nil. -/
def CollN (w : World) (l : List Int) (k : Nat) (v : Value) (wr : World) : Prop := Below w.heap.size w wr ∧ l.length = k ∧ wr.ownsRow w.heap.size 3 1 v k (l.map (Value.int .i64))
theorem CollN.start (w : World) : CollN w [] 0 (.slice none 0 0) w := ⟨Below.refl _ _, rfl, rfl, .inl ⟨rfl, rfl⟩⟩
theorem CollN.next {w wr w2 : World} {l : List Int} {k : Nat} {v : Value} {z : Int} {g cap : Nat} (h : CollN w l k v wr) (hr : w2.ownsRow w.heap.size 3 1 (.slice (some ⟨g, 0, none⟩) (k + 1) cap) (k + 1) (l.map (Value.int .i64) ++ [.int .i64 z])) (hg : wr.grownBy w2 v.ownBlock) : CollN w (l ++ [z]) (k + 1) (.slice (some ⟨g, 0, none⟩) (k + 1) cap) w2 := by
  obtain ⟨hb, hl, h0⟩ := h
  exact ⟨hb.grown hg hb.size (fun q hq => (h0.lt q hq).1), by simp [hl], by simpa using hr⟩
theorem CollN.alloc {w wr : World} {l : List Int} {k : Nat} {v : Value} (h : CollN w l k v wr) (o : Obj) : CollN w l k v (wr.alloc o) := ⟨h.1.alloc h.1.size _, h.2.1, h.2.2.alloc _⟩
theorem CollN.slice {w wr : World} {l : List Int} {k : Nat} {v : Value} (h : CollN w l k v wr) : ∃ a cap, v = .slice a k cap := ownsRow_slice h.2.2
theorem CollN.ints {w wr : World} {l : List Int} {k cap : Nat} {a : Option Addr} (h : CollN w l k (.slice a k cap) wr) : Ints wr a l := Ints.of_owns h.2.2
/-- What a call that collects integers hands back. -/
def GivesN (L : List Int) (w : World) (e : Ending) (w' : World) : Prop := ∃ a cap, e = .returned (.slice a L.length cap) ∧ CollN w L L.length (.slice a L.length cap) w'
theorem CollN.gives {w wr : World} {l : List Int} {k : Nat} {v : Value} (h : CollN w l k v wr) : GivesN l w (.returned v) wr := by
  obtain ⟨a, cap, rfl⟩ := h.slice
  obtain rfl := h.2.1
  exact ⟨a, cap, rfl, h⟩

/-- The numbers of a set, rising. -/
def listN (s : Nat) : List Nat := (List.range 12).filter fun i => s.testBit i
def listTo (s k : Nat) : List Int := ((List.range k).filter fun i => s.testBit i).map fun (x : Nat) => (x : Int)
theorem listTo_yes {s k : Nat} (h : s.testBit k = true) : listTo s (k + 1) = listTo s k ++ [(k : Int)] := by simp [listTo, List.range_succ, h]
theorem listTo_no {s k : Nat} (h : s.testBit k = false) : listTo s (k + 1) = listTo s k := by simp [listTo, List.range_succ, h]
theorem listTo_len (s k : Nat) : (listTo s k).length ≤ k := by
  rw [listTo, List.length_map]; exact Nat.le_trans (List.length_filter_le _ _) (by simp)

set_option maxRecDepth 100000 in
set_option maxHeartbeats 2000000 in
theorem list_any (s : Nat) (w : World) (hs : s < 65536) :
    Calls Try.prog 48 #[.int .u16 s] w (GivesN ((listN s).map fun (x : Nat) => (x : Int)) w) := by
  have HL : Hid ((listN s).map (fun (x : Nat) => (x : Int)) = listTo s 12) := Lib.hid rfl
  go_enter Try.func48, Try.ntmps48
  go_wp2
  go_loopw [3, 5] (fun v i wr => ∃ k q : Nat, k ≤ 12 ∧ q ≤ k ∧ i = .int .i64 k ∧ CollN w (listTo s k) q v wr) (fun _ i _ => 12 - (intOf i).toNat)
  case atStart => exact ⟨0, 0, Nat.zero_le _, Nat.le_refl _, rfl, CollN.start w⟩
  case round =>
    obtain ⟨k, q, hk, hq, rfl, hC⟩ := hrel
    by_cases hlt : k < 12
    · have H1 := Lib.hid (fun wx => has_any s k wx hs (by omega))
      have hsz := hC.1.size
      have HC := Lib.hid hC
      clear hC
      obtain ⟨a0, cp0, rfl⟩ := HC.out.slice
      cases h1 : s.testBit k with
      | false =>
        have HD := Lib.hid (listTo_no h1)
        rw [h1] at H1
        clear h1
        go_wp2_with (go_at_call 67; refine (H1.out _).mono ?_; rintro e w' ⟨rfl, rfl⟩)
        go_roundw
        case rel => exact ⟨k + 1, q, by omega, by omega, by go_num, by rw [HD.out]; exact HC.out⟩
        case measure => simp [intOf]; omega
      | true =>
        have HD := Lib.hid (listTo_yes h1)
        rw [h1] at H1
        clear h1
        go_wp2_with (first
          | (go_at_call 67; refine (H1.out _).mono ?_; rintro e w' ⟨rfl, rfl⟩)
          | (at_builtin; refine wpList_app_int rfl (.tmp 11) (.tmp 13) rfl w.heap.size _ _ _ rfl (k : Int) _ rfl rfl HC.out.2.2 (by omega) hsz ?_; intro g cp w2 hr2 hg2 hat2 _; have H2 := Lib.hid (HC.out.next hr2 hg2); clear hr2 hg2 hat2))
        go_roundw
        case rel => exact ⟨k + 1, q + 1, by omega, by omega, by go_num, by rw [HD.out]; exact H2.out⟩
        case measure => simp [intOf]; omega
    · obtain rfl : k = 12 := by omega
      have HC := Lib.hid hC
      clear hC
      obtain ⟨a0, cp0, rfl⟩ := HC.out.slice
      go_wp2
      go_ret
      rw [HL.out]
      exact HC.out.gives

/-- The nodes of a set that are eliminated, one after the other: at most so many. -/
def elimAll (gs : List Nat) : Nat → Nat → List Nat
  | 0, _ => []
  | f + 1, left => match elimOf gs left with
    | some v => v :: elimAll gs f (left &&& (65535 - 2 ^ v))
    | none => []
theorem elimOf_some {gs : List Nat} {left v : Nat} (h : elimOf gs left = some v) : v < gs.length ∧ left.testBit v = true := by
  have h1 := List.mem_of_find?_eq_some h
  have h2 := List.find?_some h
  simp only [elimAt, Bool.and_eq_true] at h2
  exact ⟨List.mem_range.1 h1, h2.1⟩
theorem less_without {left v : Nat} (hv : v < 16) (h : left.testBit v = true) : left &&& (65535 - 2 ^ v) < left := by
  refine Nat.lt_of_le_of_ne Nat.and_le_left fun e => ?_
  have := congrArg (fun x => Nat.testBit x v) e
  simp only [Nat.testBit_and, h, Bool.true_and] at this
  have e2 : 65535 - 2 ^ v = 2 ^ 16 - (2 ^ v + 1) := by omega
  rw [e2, Nat.testBit_two_pow_sub_succ (Nat.pow_lt_pow_right (by omega) hv)] at this
  simp at this

set_option maxRecDepth 100000 in
set_option maxHeartbeats 2000000 in
theorem eliminated_any (a : Option Addr) (n cap F : Nat) (gs : List Nat) (w : World) (hn : gs.length = n) (hm : n ≤ 12) (hs : F < 65536) (hg : ∀ i, i < n → gs[i]?.getD 0 < 65536) (hz : Sets w a gs) :
    Calls Try.prog 74 #[.slice a n cap, .int .u16 F] w (GivesN ((elimAll gs (F + 1) F).map fun (x : Nat) => (x : Int)) w) := by
  have HZ := Lib.hid hz
  have HN := Lib.hid hn
  have HG := Lib.hid hg
  obtain ⟨R, hR⟩ : ∃ R, elimAll gs (F + 1) F = R := ⟨_, rfl⟩
  rw [hR]
  have HR := Lib.hid hR
  clear hz hn hg hR
  go_enter Try.func74, Try.ntmps74
  go_wp2
  go_loopw [1, 5] (fun s v wr => ∃ left f q : Nat, ∃ L : List Nat, s = .int .u16 left ∧ left < 65536 ∧ left < f ∧ q + left ≤ F ∧ Hid (R = L ++ elimAll gs f left) ∧ CollN w (L.map fun (x : Nat) => (x : Int)) q v wr) (fun s _ _ => (intOf s).toNat)
  case atStart => exact ⟨F, F + 1, 0, [], rfl, hs, Nat.lt_succ_self _, by omega, Lib.hid (by rw [HR.out]; rfl), CollN.start w⟩
  case round =>
    obtain ⟨left, f, q, L, rfl, hlf, hff, hq, hE, hC⟩ := hrel
    obtain ⟨f, rfl⟩ : ∃ f', f = f' + 1 := ⟨f - 1, by omega⟩
    have hsz := hC.1.size
    have HC := Lib.hid hC
    clear hC
    obtain ⟨a0, cp0, rfl⟩ := HC.out.slice
    have H1 := Lib.hid (eliminable_any a n cap left gs wr HN.out hm hlf HG.out (HZ.out.below HC.out.1))
    cases h1 : elimOf gs left with
    | none =>
      have HD : Hid (R = L) := Lib.hid (by rw [hE.out, elimAll, h1]; simp)
      rw [h1, elimVal] at H1
      clear h1
      go_wp2_with (go_at_call 89; refine H1.out.mono ?_; rintro e w' ⟨rfl, rfl⟩)
      go_ret
      rw [HD.out]
      exact HC.out.gives
    | some v =>
      obtain ⟨hv1, hv2⟩ := elimOf_some h1
      have hvn : v < 12 := by have := HN.out; omega
      have hlt := less_without (left := left) (v := v) (by omega) hv2
      have HD : Hid (R = (L ++ [v]) ++ elimAll gs f (left &&& (65535 - 2 ^ v))) := Lib.hid (by rw [hE.out, elimAll, h1]; simp)
      rw [h1, elimVal] at H1
      have hp2 : 2 ^ v < 65536 := Nat.pow_lt_pow_right (m := v) (n := 16) (by omega) (by omega)
      have HS1 := Lib.hid (fun (wx : World) => setOf_any (some ⟨wx.heap.size, 0, none⟩) 1 1 [v] (wx.alloc (.cells #[.int .i64 (v : Int)] 3)) rfl (by omega) (by simp; omega) (fun i hi => ⟨wx.heap.size, 0, rfl, by
        have : i = 0 := by simpa using hi
        subst this
        exact World.cell?_alloc_at _ _ _ _ rfl⟩))
      have HAN : Hid (bits .andNot .u16 (left : Int) ((setN' [v] : Nat) : Int) = ((left &&& (65535 - 2 ^ v) : Nat) : Int)) := Lib.hid (by
        have e : setN' [v] = 2 ^ v := by simp [setN']
        rw [e, u16_andNot_nat _ _ hlf hp2])
      clear h1 hp2 hv2 hv1
      obtain ⟨nl, hnl⟩ : ∃ nl, left &&& (65535 - 2 ^ v) = nl := ⟨_, rfl⟩
      rw [hnl] at HD HAN hlt
      clear hnl
      go_wp2_with (first
        | (go_at_call 89; refine H1.out.mono ?_; rintro e w' ⟨rfl, rfl⟩)
        | (go_at_call 66; refine (HS1.out _).mono ?_; rintro e w' ⟨rfl, rfl⟩)
        | (at_builtin; refine wpList_app_int rfl (.tmp 17) (.tmp 19) rfl w.heap.size _ _ _ rfl (v : Int) _ rfl rfl HC.out.2.2 (by omega) hsz ?_; intro g cp w2 hr2 hg2 hat2 _; have H2 := Lib.hid (HC.out.next hr2 hg2); clear hr2 hg2 hat2))
      go_roundw
      case rel => exact ⟨nl, f, q + 1, L ++ [v], by rw [HAN.out], by omega, by omega, by omega, HD, by rw [List.map_append]; exact H2.out.alloc _⟩
      case measure => simp [intOf, HAN.out]; omega

end Go.Proofs.Yticafbfijpjbnaa
