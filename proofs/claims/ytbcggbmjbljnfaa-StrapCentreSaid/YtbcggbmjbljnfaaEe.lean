/-
  strap: the laws' 'same', at words that are equal as braids.
-/
import Derived.Test.YtbcggbmjbljnfaaCp
import Derived.Test.YtbcggbmjbljnfaaEd
namespace Go.Proofs.Ytbcggbmjbljnfaa
open Go.RowKit Go.Sort

theorem let_all {n : Nat} {ws : List Int} (h : ∀ z ∈ ws, Gar.Let n z) : ws.all (letS n) = true := List.all_eq_true.2 fun z hz => letS_iff.2 (h z hz)
theorem nf_len {f n : Nat} {ws : List Int} {r : Int × List (List Nat)} (h : normTo f n (0, []) ws = some r) : r.2.length ≤ ws.length ∧ -(ws.length : Int) ≤ r.1 ∧ r.1 ≤ ws.length := by
  have key : ∀ (ws : List Int) (a r : Int × List (List Nat)), normTo f n a ws = some r → r.2.length ≤ a.2.length + ws.length ∧ a.1 - (ws.length : Int) ≤ r.1 ∧ r.1 + r.2.length ≤ a.1 + a.2.length + ws.length := by
    intro ws
    induction ws with
    | nil => intro a r h; unfold normTo at h; cases h; simp
    | cons z ws ih =>
      intro a r h
      obtain ⟨l, r', h1, h2, h3⟩ := normTo_next h
      have e1 := ih _ _ h3
      have e2 := prodN_len h2
      have e3 := letN_len h1
      simp only [List.length_cons]
      omega
  have := key ws (0, []) r h
  simp at this
  omega

set_option maxRecDepth 100000 in
set_option maxHeartbeats 4000000 in
theorem same_yes (n m l ca cb : Nat) (a b : Option Addr) (xs ys : List Int) (w : World) (h1 : 2 ≤ n) (hn : n ≤ 8) (hm : m ≤ 60) (hl : l ≤ 60) (hxl : xs.length = m) (hyl : ys.length = l) (hx : Ints w a xs) (hy : Ints w b ys)
    (hxs : ∀ z ∈ xs, Gar.Let n z) (hys : ∀ z ∈ ys, Gar.Let n z) (he : Gar.Eqv n (Gar.word n (0, []) xs) (Gar.word n (0, []) ys)) :
    Calls Try.prog 42 #[.int .i64 (n : Int), .slice a m ca, .slice b l cb] w fun e w' => e = .returned (.bool true) ∧ Below w.heap.size w w' := by
  obtain ⟨q, e1, n1⟩ := normal_word (f := 65) (by have := Nat.mul_le_mul hn hn; omega) h1 hxs
  obtain ⟨q', e2, n2⟩ := normal_word (f := 65) (by have := Nat.mul_le_mul hn hn; omega) h1 hys
  have eq := ((he.nf h1 q).1 n1).one h1 n2
  subst eq
  obtain ⟨r, hr⟩ : ∃ r, mapR n q = r := ⟨_, rfl⟩
  rw [hr] at e1 e2
  have hrl := (nf_len e1).1
  have HN1 := Lib.hid (Normal_good n 65 m ca a xs r w h1 hn hm hxl hx (let_all hxs) e1)
  have HN2 := Lib.hid (fun wx (hb : Below w.heap.size w wx) => Normal_good n 65 l cb b ys r wx h1 hn hl hyl (hy.below hb) (let_all hys) e2)
  have HEQ := Lib.hid (fun wx (hb : Below w.heap.size w wx) => Equal_good n 65 m l ca cb a b xs ys r r wx h1 hn hm hl hxl hyl (hx.below hb) (hy.below hb) (let_all hxs) (let_all hys) e1 e2 (by omega))
  have hr60 : r.2.length ≤ 60 := by omega
  clear hx hy hxs hys he e1 e2 n1 n2 hr q hrl hxl hyl
  obtain ⟨pw, ps⟩ := r
  simp only [decide_true] at HN1 HN2 HEQ hr60
  unfold GivesBE at HN1 HN2
  go_enter Try.func42, Try.ntmps42
  go_wp2_with (fail)
  refine HN1.out.mono ?_
  rintro e w1 ⟨a1, c1, rfl, hf1, hb1⟩
  obtain ⟨w2, hw2⟩ : ∃ w2, w1.alloc (.cells #[.int .i64 pw, .slice a1 ps.length c1] 37) = w2 := ⟨_, rfl⟩
  have hb12 : Below w1.heap.size w1 w2 := by rw [← hw2]; exact (Below.refl _ w1).alloc (Nat.le_refl _) _
  have hr2 : w2.heap[w1.heap.size]? = some (.cells #[.int .i64 pw, .slice a1 ps.length c1] 37 (0, 0)) := by rw [← hw2]; exact heap_alloc_new w1 _
  have H2 := Lib.hid (And.intro (hf1.below hb12) (And.intro (hb1.trans (hb12.mono hb1.size)) hr2))
  clear hf1 hb1 hb12 hr2
  go_wp2_with (fail)
  try rw [hw2]
  refine (HN2.out w2 H2.out.2.1).mono ?_
  rintro e w3 ⟨a3, c3, rfl, hf3, hb3⟩
  obtain ⟨w4, hw4⟩ : ∃ w4, w3.alloc (.cells #[.int .i64 pw, .slice a3 ps.length c3] 37) = w4 := ⟨_, rfl⟩
  have hb34 : Below w3.heap.size w3 w4 := by rw [← hw4]; exact (Below.refl _ w3).alloc (Nat.le_refl _) _
  have hr4 : w4.heap[w3.heap.size]? = some (.cells #[.int .i64 pw, .slice a3 ps.length c3] 37 (0, 0)) := by rw [← hw4]; exact heap_alloc_new w3 _
  have hb24 := hb3.trans (hb34.mono hb3.size)
  have H4 := Lib.hid (And.intro (H2.out.1.below hb24) (And.intro (hf3.below hb34) (And.intro (H2.out.2.1.trans (hb24.mono H2.out.2.1.size)) (And.intro ((hb24.block _ (Array.getElem?_eq_some_iff.1 H2.out.2.2).1).trans H2.out.2.2) hr4))))
  clear hf3 hb3 hb34 hr4 hb24
  go_wp2_with (fail)
  try rw [hw4]
  refine (HEQ.out w4 H4.out.2.2.1).mono ?_
  rintro e w5 ⟨rfl, hb5⟩
  have hr1 := (hb5.block _ (Array.getElem?_eq_some_iff.1 H4.out.2.2.2.1).1).trans H4.out.2.2.2.1
  have hr2 := (hb5.block _ (Array.getElem?_eq_some_iff.1 H4.out.2.2.2.2).1).trans H4.out.2.2.2.2
  have k0 := box_cell0 hr1
  have k1 := box_cell1 hr1
  have q0 := box_cell0 hr2
  have q1 := box_cell1 hr2
  have H5 := Lib.hid (And.intro (H4.out.1.below hb5) (And.intro (H4.out.2.1.below hb5) (H4.out.2.2.1.trans (hb5.mono H4.out.2.2.1.size))))
  have HSB := Lib.hid (fun (wx : World) (hb : Below w5.heap.size w5 wx) => sameBraid_yes pw n ps.length c1 c3 a1 a3 ps wx rfl (by omega) (by omega) (H5.out.1.below hb) (H5.out.2.1.below hb))
  have B0 : Below w5.heap.size w5 w5 := Below.refl _ _
  have B0d : Below w5.heap.size w5 w5.drew := B0.drew
  clear hr1 hr2 hb5
  go_wp2_with (fail)
  refine (HSB.out _ (by first | with_reducible exact B0 | with_reducible exact B0d)).mono ?_
  rintro e w6 ⟨rfl, hb6⟩
  have H6 : Hid (Below w5.heap.size w5 w6) := Lib.hid (B0.trans hb6)
  clear hb6
  go_wp2_with (fail)
  go_ret
  exact ⟨rfl, H5.out.2.2.trans (H6.out.mono H5.out.2.2.size)⟩

end Go.Proofs.Ytbcggbmjbljnfaa
