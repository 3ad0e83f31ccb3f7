/-
  strap: 'Equal'.
-/
import Derived.Test.YtbcggbmjbljnfaaBn
namespace Go.Proofs.Ytbcggbmjbljnfaa
open Go.RowKit Go.Sort

set_option maxRecDepth 100000 in
set_option maxHeartbeats 4000000 in
theorem Equal_good (n f m l cx cy : Nat) (a b : Option Addr) (xs ys : List Int) (r s : Int × List (List Nat)) (w : World) (h1 : 2 ≤ n) (hn : n ≤ 8) (hm : m ≤ 60) (hl : l ≤ 60) (hxl : xs.length = m) (hyl : ys.length = l) (hx : Ints w a xs) (hy : Ints w b ys)
    (hxs : xs.all (letS n) = true) (hys : ys.all (letS n) = true) (hr : normTo f n (0, []) xs = some r) (hs : normTo f n (0, []) ys = some s) (hrl : r.2.length ≤ 1000) :
    Calls Try.prog 33 #[.int .i64 (n : Int), .slice a m cx, .slice b l cy] w (Gives2 (.bool (decide (r = s))) (.int .i64 0) w) := by
  have HN1 := Lib.hid (Normal_good n f m cx a xs r w h1 hn hm hxl hx hxs hr)
  have HN2 := Lib.hid (fun wx (hb : Below w.heap.size w wx) => Normal_good n f l cy b ys s wx h1 hn hl hyl (hy.below hb) hys hs)
  have HRL := Lib.hid hrl
  unfold GivesBE at HN1 HN2
  clear hx hy hxs hys hr hs hrl
  go_enter Try.func33, Try.ntmps33
  go_wp2_with (fail)
  refine HN1.out.mono ?_
  rintro e w1 ⟨a1, c1, rfl, hf1, hb1⟩
  have hs1 := hb1.size
  have hb1' : Below w.heap.size w (w1.alloc (.cells #[.int .i64 r.1, .slice a1 r.2.length c1] 37)) := hb1.alloc hs1 _
  have H1 := Lib.hid (And.intro hf1 (And.intro hb1 hb1'))
  clear hf1 hb1 hb1'
  go_wp2_with (fail)
  refine (HN2.out _ H1.out.2.2).mono ?_
  rintro e w2 ⟨a2, c2, rfl, hf2, hb2⟩
  have hs2 := hb2.size
  simp at hs2
  have hr1 := (hb2.block w1.heap.size (by simp)).trans (heap_alloc_new w1 _)
  have hr1' : (w2.alloc (.cells #[.int .i64 s.1, .slice a2 s.2.length c2] 37)).heap[w1.heap.size]? = some (.cells #[.int .i64 r.1, .slice a1 r.2.length c1] 37 (0, 0)) := by
    rw [Below.heap_alloc _ _ _ (by omega)]; exact hr1
  have hr2' := heap_alloc_new w2 (.cells #[.int .i64 s.1, .slice a2 s.2.length c2] 37)
  obtain ⟨w3, hw3⟩ : ∃ w3, w2.alloc (.cells #[.int .i64 s.1, .slice a2 s.2.length c2] 37) = w3 := ⟨_, rfl⟩
  have H3 : Hid (Below w.heap.size w w3 ∧ FacV w3 n (.slice a1 r.2.length c1) r.2 ∧ FacV w3 n (.slice a2 s.2.length c2) s.2) := Lib.hid (by
    have h23 : Below w2.heap.size w2 w3 := by rw [← hw3]; exact (Below.refl _ w2).alloc (Nat.le_refl _) _
    have h13 : Below w1.heap.size w1 w3 := (((Below.refl _ w1).alloc (Nat.le_refl _) _).trans (hb2.mono (by simp))).trans (h23.mono (by omega))
    exact ⟨H1.out.2.1.trans (h13.mono hs1), H1.out.1.below h13, hf2.below h23⟩)
  rw [hw3] at hr1' hr2'
  have k0 := box_cell0 hr1'
  have k1 := box_cell1 hr1'
  have q0 := box_cell0 hr2'
  have q1 := box_cell1 hr2'
  have HEF := Lib.hid (equalFunc_any n a1 a2 _ _ c1 c2 r.2 s.2 w3 (by omega) H3.out.2.1 H3.out.2.2 rfl rfl HRL.out)
  clear hb2 hf2 hr1 hr1' hr2'
  obtain ⟨r1, r2⟩ := r
  obtain ⟨s1, s2⟩ := s
  simp only [] at HEF k0 k1 q0 q1 H3 hw3
  by_cases hp : r1 = s1
  · subst hp
    have HD : Hid (decide ((r1, r2) = (r1, s2)) = decide (r2 = s2)) := Lib.hid (by simp)
    go_wp2_with (fail)
    refine HEF.out.mono ?_
    rintro e w4 ⟨rfl, hb4⟩
    have H4 := Lib.hid (H3.out.1.trans (hb4.mono H3.out.1.size))
    clear hb4
    go_wp2_with (fail)
    go_ret2
    exact ⟨by rw [HD.out]; rfl, H4.out⟩
  · have HD : Hid (decide ((r1, r2) = (s1, s2)) = false) := Lib.hid (by simp [hp])
    go_wp2_with (fail)
    go_ret2
    exact ⟨by rw [HD.out]; rfl, H3.out.1⟩

end Go.Proofs.Ytbcggbmjbljnfaa
