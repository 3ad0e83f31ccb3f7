/-
  The walk of 'Reduce' at any strip and any letters.
-/
import Derived.Test.YtfgenpailmgkiaaLd
namespace Go.Proofs.Ytfgenpailmgkiaa
open Go.RowKit Go.Sort

theorem redAll_none {zs : List Int} {cs : List UInt8} (h : redZ zs cs = none) : ∀ k, redAll k zs cs = (zs, cs)
  | 0 => rfl
  | k + 1 => by rw [redAll, h]
theorem redZ_two {zs : List Int} {cs : List UInt8} {p : List Int × List UInt8} (h : redZ zs cs = some p) : 2 ≤ zs.length := by
  unfold redZ at h
  split at h
  · cases h
  · omega

/-- What 'Reduce' hands back: what is left, in memory of its own. -/
def RedEnd (w : World) (zs : List Int) (cs : List UInt8) (e : Ending) (w' : World) : Prop :=
  ∃ (g o cap : Nat) (s' : ByteArray), e = .returned (.tuple #[.slice (some ⟨g, o, none⟩) (redAll zs.length zs cs).1.length cap, .string s', .int .i64 0]) ∧ s'.data.toList = (redAll zs.length zs cs).2 ∧ Ints w' (some ⟨g, o, none⟩) (redAll zs.length zs cs).1 ∧ Below w.heap.size w w'

/-- What its loop keeps. -/
def RedJ (w : World) (zs : List Int) (cs : List UInt8) (v p b : Value) (wr : World) : Prop := Below w.heap.size w wr ∧ ∃ (g o cap k : Nat) (ys : List Int) (s : ByteArray) (again : Bool),
  v = .slice (some ⟨g, o, none⟩) ys.length cap ∧ p = .string s ∧ b = .bool again ∧ w.heap.size ≤ g ∧ Win wr g o ys.length cap ys ∧ o + ys.length ≤ 500 ∧ Good 1000000 ys s.data.toList ∧ ys.length ≤ k + 1 ∧ redAll zs.length zs cs = redAll k ys s.data.toList ∧ (again = false → redZ ys s.data.toList = none)

theorem good_of {zs : List Int} {s : ByteArray} (hg : stripB zs = true) (hp : patB s (zs.length - 1) = true) : Good 1000000 zs s.data.toList := by
  obtain ⟨p1, p9, ps⟩ := strip_parts hg
  simp only [patB, Bool.and_eq_true, beq_iff_eq] at hp
  have hle : ∀ zs : List Int, sizesB zs = true → zs.sum ≤ 1000 * zs.length := by
    intro zs
    induction zs with
    | nil => intro _; simp
    | cons a t ih =>
      intro h
      simp only [sizesB, List.all_cons, Bool.and_eq_true] at h
      have := ih h.2
      have h1 := h.1
      simp [sizeB] at h1
      rw [List.sum_cons, List.length_cons]
      omega
  refine ⟨p1, by rw [size_list, hp.1]; omega, fun b hb => ?_, fun z hz => ?_, by have := hle zs ps; omega⟩
  · have := hp.2
    rw [List.all_eq_true] at this
    exact this b hb
  · rw [sizesB, List.all_eq_true] at ps
    have := ps z hz
    simp [sizeB] at this
    exact this.1

theorem clone_ints (b off n cap : Nat) (zs : List Int) (w : World) (hn : zs.length = n) (h1 : 1 ≤ n) (h2 : n ≤ 1000) (hz : Ints w (some ⟨b, off, none⟩) zs) :
    Calls Try.prog 63 #[.slice (some ⟨b, off, none⟩) n cap] w fun e w' => ∃ g c, e = .returned (.slice (some ⟨g, 0, none⟩) n c) ∧ w'.ownsRow w.heap.size 3 1 (.slice (some ⟨g, 0, none⟩) n c) n (zs.map (Value.int .i64)) ∧ Below w.heap.size w w' := by
  refine (Go.Proofs.Try.slices_Clone_int b off n cap zs w (by omega) (by omega) (fun j hj => ?_)).mono ?_
  · obtain ⟨b', o', e, hc⟩ := hz j hj
    cases e
    rw [hc, List.getD_eq_getElem?_getD]
  · rintro e w' ⟨v, rfl, ho, _, hb⟩
    rw [← hn, List.take_length] at ho
    obtain ⟨m, rfl⟩ : ∃ m, n = m + 1 := ⟨n - 1, by omega⟩
    rw [hn] at ho
    obtain ⟨g, c, rfl⟩ := ownsRow_succ' ho
    exact ⟨g, c, rfl, ho, hb⟩

set_option maxRecDepth 100000 in
set_option maxHeartbeats 2000000 in
theorem Reduce_good (b off n cap : Nat) (zs : List Int) (s : ByteArray) (w : World) (hn : zs.length = n) (hz : Ints w (some ⟨b, off, none⟩) zs) (hg : stripB zs = true) (hp : patB s (n - 1) = true) :
    Calls Try.prog 27 #[.slice (some ⟨b, off, none⟩) n cap, .string s] w (RedEnd w zs s.data.toList) := by
  obtain ⟨p1, p9, ps⟩ := strip_parts hg
  have hgd := Lib.hid (good_of hg (by rw [hn]; exact hp))
  have his := Lib.hid (isStrip_any (some ⟨b, off, none⟩) n cap zs w hn (by omega) hz)
  rw [hg] at his
  have hsum : ((n : Int) - 1) = ((n - 1 : Nat) : Int) := by omega
  have hps : s.size = n - 1 := by simp [patB] at hp; exact hp.1
  have hpat := isPattern_any s (n - 1) w (by omega) (by omega)
  rw [hp] at hpat
  have Hpat := Lib.hid hpat
  have Hsum := Lib.hid hsum
  have hcl := Lib.hid (clone_ints b off n cap zs w hn (by omega) (by omega) hz)
  have HN := Lib.hid hn
  have hn1 : 1 ≤ n := by omega
  have hn9 : n ≤ 9 := by omega
  clear hz hg hp hpat hsum hn ps p1 p9
  go_enter Try.func27, Try.ntmps27
  go_wp2_with (first
    | (go_at_call 47; refine his.out.mono ?_; rintro e w1 ⟨rfl, rfl⟩)
    | (go_at_call 62; rw [Hsum.out]; refine Hpat.out.mono ?_; rintro e w1 ⟨rfl, rfl⟩)
    | (go_at_call 63; refine hcl.out.mono ?_; rintro e w1 ⟨g0, c0, rfl, hrow, hb1⟩; have HB := Lib.hid (And.intro hrow hb1); clear hrow hb1))
  go_loopw [7, 8, 9] (fun v p b wr => RedJ w zs s.data.toList v p b wr) (fun v _ b _ => redM v b)
  case atStart =>
    have hrow := HB.out.1
    refine ⟨HB.out.2, ?_⟩
    rcases hrow.2 with ⟨h0, _⟩ | ⟨g, c, cur, e, hge, hb, h1, h2, h3, h4⟩
    · omega
    · cases e
      have hzl := HN.out
      refine ⟨g0, 0, c0, n, zs, s, true, by rw [HN.out], rfl, rfl, hge, ⟨rfl, [], cur.toList.drop n, rfl, by simp; omega, ?_⟩, by omega, hgd.out, by omega, by rw [HN.out], fun h => by cases h⟩
      rw [hb]
      have h4' : cur.toList.take n = zs.map (Value.int .i64) := by simpa using h4
      rw [List.nil_append, ← h4', List.take_append_drop]
  case round =>
    obtain ⟨hb, g, o, cp, k, ys, t, again, rfl, rfl, rfl, hgs, hwin, hoff, hgood, hk, hall, hag⟩ := hrel
    cases again with
    | true =>
      have hr := Lib.hid (reduceOnce_any g o ys.length cp ys t wr hwin hgood hoff)
      have H := Lib.hid (And.intro hb (And.intro hgs (And.intro hwin (And.intro hoff (And.intro hgood (And.intro hk hall))))))
      clear hb hgs hwin hoff hgood hk hall hag
      cases hred : redZ ys t.data.toList with
      | none =>
        have HRn := Lib.hid hred
        clear hred
        go_wp2_with (go_at_call 64; refine hr.out.mono ?_; unfold RedOne; rw [HRn.out]; rintro e w2 ⟨hgr, rfl, hwin2⟩; have HQ := Lib.hid (And.intro hgr hwin2); clear hgr hwin2)
        go_roundw
        case rel =>
          have hsz := H.out.1.size
          exact ⟨H.out.1.grown HQ.out.1 hsz (fun q hq => by have := H.out.2.1; simp at hq; omega), g, o, cp, k, ys, t, false, rfl, rfl, rfl, H.out.2.1, HQ.out.2, H.out.2.2.2.1, H.out.2.2.2.2.1, H.out.2.2.2.2.2.1, H.out.2.2.2.2.2.2, fun _ => HRn.out⟩
        case measure => simp [redM]
      | some q =>
        have HRn := Lib.hid hred
        clear hred
        go_wp2_with (go_at_call 64; refine hr.out.mono ?_; unfold RedOne; rw [HRn.out]; rintro e w2 ⟨hgr, o', cp', s', rfl, hs', hoff', hwin2⟩; have HQ := Lib.hid (And.intro hgr (And.intro hs' (And.intro hoff' hwin2))); clear hgr hs' hoff' hwin2)
        go_roundw
        case rel =>
          have hsz := H.out.1.size
          obtain ⟨g1, g2⟩ := redZ_good H.out.2.2.2.2.1 HRn.out
          have h2 := redZ_two HRn.out
          have hk := H.out.2.2.2.2.2.1
          obtain ⟨k', rfl⟩ : ∃ k', k = k' + 1 := ⟨k - 1, by omega⟩
          refine ⟨H.out.1.grown HQ.out.1 hsz (fun q hq => by have := H.out.2.1; simp at hq; omega), g, o', cp', k', q.1, s', true, rfl, rfl, rfl, H.out.2.1, HQ.out.2.2.2, by have := HQ.out.2.2.1; have := H.out.2.2.2.1; omega, by rw [HQ.out.2.1]; exact g1, by omega, ?_, fun h => by cases h⟩
          rw [H.out.2.2.2.2.2.2, redAll, HRn.out, HQ.out.2.1]
        case measure =>
          have g2 := (redZ_good H.out.2.2.2.2.1 HRn.out).2
          simp [redM]; omega
    | false =>
      have H := Lib.hid (And.intro hb (And.intro hwin (And.intro hall (hag rfl))))
      clear hb hgs hwin hoff hgood hk hall hag
      go_wp2
      go_ret3
      have e := H.out.2.2.1
      rw [redAll_none H.out.2.2.2] at e
      refine ⟨g, o, cp, t, by rw [e]; rfl, by rw [e], by rw [e]; exact H.out.2.1.ints, H.out.1⟩

set_option maxRecDepth 100000 in
set_option maxHeartbeats 2000000 in
theorem Reduce_bad (a : Option Addr) (n cap : Nat) (zs : List Int) (s : ByteArray) (x : Int) (w : World) (hn : zs.length = n) (hn2 : n ≤ 1000) (hs : s.size ≤ 1000000) (hz : Ints w a zs) (h : (stripB zs = false ∧ x = 1) ∨ (stripB zs = true ∧ patB s (n - 1) = false ∧ x = 2)) :
    Calls Try.prog 27 #[.slice a n cap, .string s] w fun e w' => e = .returned (.tuple #[.slice none 0 0, .string ⟨#[]⟩, .int .i64 x]) ∧ w = w' := by
  have his := isStrip_any a n cap zs w hn (by omega) hz
  rcases h with ⟨h1, rfl⟩ | ⟨h1, h2, rfl⟩
  · rw [h1] at his
    have His := Lib.hid his
    clear his h1 hz hn
    go_enter Try.func27, Try.ntmps27
    go_wp2_with (go_at_call 47; refine His.out.mono ?_; rintro e w1 ⟨rfl, rfl⟩)
    go_ret3
    exact ⟨rfl, rfl⟩
  · rw [h1] at his
    have His := Lib.hid his
    obtain ⟨p1, p9, ps⟩ := strip_parts h1
    have hsum : ((n : Int) - 1) = ((n - 1 : Nat) : Int) := by omega
    have hpat := isPattern_any s (n - 1) w (by omega) (by omega)
    rw [h2] at hpat
    have Hpat := Lib.hid hpat
    have Hsum := Lib.hid hsum
    have hn1 : 1 ≤ n := by omega
    have hn9 : n ≤ 9 := by omega
    clear his h1 h2 hz hn hpat hsum ps
    go_enter Try.func27, Try.ntmps27
    go_wp2_with (first
      | (go_at_call 47; refine His.out.mono ?_; rintro e w1 ⟨rfl, rfl⟩)
      | (go_at_call 62; rw [Hsum.out]; refine Hpat.out.mono ?_; rintro e w1 ⟨rfl, rfl⟩))
    go_ret3
    exact ⟨rfl, rfl⟩

end Go.Proofs.Ytfgenpailmgkiaa
