/-
  The walk of the iterator that 'orders' hands back.
-/
import Derived.Test.YteankhgikpejhaaFi
import Derived.Laws.EntriesVeiled
namespace Go.Proofs.Yteankhgikpejhaa
open Go.RowKit Go.Sort Go.Shelf
attribute [local go_sem] Oper.semAt_some

/-- All orders that fold a cloth of n segments. -/
def ordersOf (c : Cl) (n : Nat) : List (List Nat) := placeAll c n n (List.replicate n (-1)) []

/-- What the iterator hands back. -/
def Iterated (S : Nat) (c : Cl) (n : Nat) (JJ : Nat → Bool → List (List Nat) → World → Prop) (e : Ending) (W' : World) : Prop :=
  (∃ v, e = .returned v) ∧ ∃ N1 r zs, S < N1 ∧ JJ N1 r zs W' ∧ (r = true → zs = ordersOf c n) ∧ (r = false → zs <+: ordersOf c n)

theorem PS.start (d : Ids) (hd : d.ok) (w0 w1 : World) (hb : Below (w0.heap.size + 1) (w0.alloc (.cells #[.func (.yield d.l) #[] #[]] 31)) w1) (hN0 : d.N0 = w0.heap.size) (hBy : d.By = w0.heap.size) (hBl : d.Bl = w1.heap.size) (hBo : d.Bo = w1.heap.size + 1) (hBp : d.Bp = w1.heap.size + 2) (hN1 : d.N1 = w1.heap.size + 3)
    (hg : w1.heap[d.gl]? = some (.cells (List.replicate d.n (Value.int .i64 (-1))).toArray 3 (0, 0))) :
    PS d (((w1.alloc (.cells #[.slice (some ⟨d.gl, 0, none⟩) d.n d.n] 22)).alloc (.cells #[.slice none 0 0] 22)).alloc (.cells #[d.fnV] 33)) (List.replicate d.n (-1)) [] := by
  have k0 := hd.h0; have k1 := hd.h1; have k2 := hd.h2; have k3 := hd.h3; have k4 := hd.h4; have k5 := hd.h5
  have hs := hb.size
  simp at hs
  have old : ∀ b, b < w1.heap.size → (((w1.alloc (.cells #[.slice (some ⟨d.gl, 0, none⟩) d.n d.n] 22)).alloc (.cells #[.slice none 0 0] 22)).alloc (.cells #[d.fnV] 33)).heap[b]? = w1.heap[b]? := fun b hb => by
    rw [Below.heap_alloc _ _ _ (by simp; omega), Below.heap_alloc _ _ _ (by simp; omega), Below.heap_alloc _ _ _ hb]
  refine ⟨?_, ?_, ?_, by simp, ?_, ⟨none, 0, ?_, World.ownsRow_nil _ _ _ _, by simp [Value.ownBlock]⟩, by simp; omega⟩
  · rw [old _ (by omega), hBy]
    exact (hb.block _ (by omega)).trans (heap_alloc_new w0 _)
  · rw [Below.heap_alloc _ _ _ (by simp; omega), Below.heap_alloc _ _ _ (by simp; omega), hBl]
    exact heap_alloc_new w1 _
  · rw [old _ (by omega), hg]
    congr 3
    simp
  · have := heap_alloc_new ((w1.alloc (.cells #[.slice (some ⟨d.gl, 0, none⟩) d.n d.n] 22)).alloc (.cells #[.slice none 0 0] 22)) (.cells #[d.fnV] 33)
    rw [hBp]
    simpa using this
  · rw [Below.heap_alloc _ _ _ (by simp; omega), hBo]
    have := heap_alloc_new (w1.alloc (.cells #[.slice (some ⟨d.gl, 0, none⟩) d.n d.n] 22)) (.cells #[.slice none 0 0] 22)
    simpa using this

set_option maxRecDepth 100000 in
set_option maxHeartbeats 2000000 in
theorem orders1_any (c : Cl) (al ah ac : Option Addr) (cl ch cc n l Bc m : Nat) (JJ : Nat → Bool → List (List Nat) → World → Prop) (W : World) (h1 : 1 ≤ n) (h9 : n ≤ 9) (hBc : Bc < W.heap.size)
    (hW : ∀ d : Ids, d.ok → d.N0 = W.heap.size → d.Bc = Bc → d.l = l → d.n = n → Words d c al ah ac cl ch cc (JJ d.N1)) (h0 : ∀ N1 W', Below W.heap.size W W' → JJ N1 true [] W')
    (hbox : Trip W Bc 73 (.slice al n cl) (.slice ah n ch) (.slice ac c.crs.length cc)) :
    CallsIn Fence.wide m Try.prog 73 #[.func (.yield l) #[] #[], .pointer (some ⟨Bc, 0, none⟩)] W (Iterated W.heap.size c n JJ) := by
  have b0 := hbox.c0
  have b1 := hbox.c1
  have b2 := hbox.c2
  have hmf : ∀ (fn : Fn) (first cap : Array Value) (w : World), (Instr.makeFunc fn first cap).run Try.prog w = .ok (.func fn first cap) w := fun _ _ _ _ => rfl
  have HN : Hid (∀ w0 : World, Calls Try.prog 71 #[.agg #[.slice al n cl, .slice ah n ch, .slice ac c.crs.length cc]] w0
      (Gives (fun v w' => ∃ g, v = .slice (some ⟨g, 0, none⟩) n n ∧ w0.heap.size ≤ g ∧ w'.heap[g]? = some (.cells (List.replicate n (Value.int .i64 (-1))).toArray 3 (0, 0))) w0)) :=
    Lib.hid fun w0 => noLayers_any al cl n _ _ w0 h1 (by omega)
  refine callsIn_of_wp Try.func73 rfl trivial ?_ rfl
  simp only [Try.ntmps73, List.size_toArray, List.length_cons, List.length_nil, Nat.reduceAdd, Nat.reduceSub, Array.replicate_succ, Array.replicate_zero, List.push_toArray, List.append_toArray, List.nil_append, List.cons_append]
  gi_wp2_with ((try refine ⟨trivial, wide_depth, ?_⟩); gi_at_call 71; refine (callsIn_wide.2 (HN.out _)).mono ?_; rintro e w1 ⟨u, rfl, ⟨g, rfl, hg1, hg2⟩, hb1⟩; have H1 := Lib.hid (And.intro hg1 (And.intro hg2 hb1)); clear hg1 hg2 hb1)
  have hb1 := H1.out.2.2
  have hg1 := H1.out.1
  have hsz := hb1.size
  simp at hsz hg1
  have hd : (⟨W.heap.size, w1.heap.size + 3, W.heap.size, w1.heap.size, g, w1.heap.size + 1, w1.heap.size + 1 + 1, Bc, l, n⟩ : Ids).ok := ⟨Nat.le_refl _, hg1, (Array.getElem?_eq_some_iff.1 H1.out.2.1).1, by simp, by simp, by simp, hBc, h1, h9⟩
  have hP := PS.start _ hd W w1 (by simpa using hb1) rfl rfl rfl rfl rfl rfl H1.out.2.1
  have hJ := h0 (w1.heap.size + 3) _ ((((((Below.refl _ W).alloc (Nat.le_refl _) _).trans (hb1.mono (by simp))).alloc (by omega) (.cells #[.slice (some ⟨g, 0, none⟩) n n] 22)).alloc (by simp; omega) (.cells #[.slice none 0 0] 22)).alloc (by simp; omega) (.cells #[Ids.fnV ⟨W.heap.size, w1.heap.size + 3, W.heap.size, w1.heap.size, g, w1.heap.size + 1, w1.heap.size + 1 + 1, Bc, l, n⟩] 33))
  refine ⟨trivial, wide_depth, ?_⟩
  refine (place_any _ hd c al ah ac cl ch cc (JJ (w1.heap.size + 3)) (hW _ hd rfl rfl rfl rfl) n (m - 1) _ _ [] _ hP hJ (by simp) (by simp)).mono ?_
  rintro e W4 ⟨r, zs, rfl, hP4, hJ4, hz1, hz2⟩
  have HS := Lib.hid (show W.heap.size < w1.heap.size + 3 by omega)
  have H4 := Lib.hid (And.intro hJ4 (And.intro hz1 hz2))
  clear hP4 hJ4 hz1 hz2 hP hJ hb1 hg1 hsz
  gi_wp2
  go_end0
  exact ⟨⟨_, rfl⟩, _, r, zs, HS.out, H4.out.1, H4.out.2.1, H4.out.2.2⟩

end Go.Proofs.Yteankhgikpejhaa
