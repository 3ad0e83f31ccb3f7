/-
  Proved: RibNamed returns true for every small number, all pairs and all bytes: under other names a graph has as many maximal cliques, the same errors, and independent sets of the same size. No condition.
-/
import Derived.Test.YticafbfijpjbnaaYd
import Derived.Test.YticafbfijpjbnaaXo
import Derived.Test.YticafbfijpjbnaaSc
namespace Go.Proofs.Yticafbfijpjbnaa

section
open Go.RowKit Go.Sort

/-- The names, in a block of their own. -/
def NmW (n : Nat) (p : Nat → Nat) (g : Nat) (wr : World) : Prop := ∃ cs : Array Value, wr.heap[g]? = some (.cells cs 3 (0, 0)) ∧ n ≤ cs.size ∧ ∀ i, i < n → cs[i]? = some (.int .i64 (p i : Int))
theorem NmW.at {n : Nat} {p : Nat → Nat} {g : Nat} {wr : World} (h : NmW n p g wr) {i : Nat} (hi : i < n) : wr.cell? ⟨g, i, none⟩ = some (.int .i64 (p i : Int)) := by
  obtain ⟨cs, h1, h2, h3⟩ := h
  have := h3 i hi
  simp [World.cell?, h1, this]
theorem NmW.free {n : Nat} {p : Nat → Nat} {g : Nat} {wr : World} (h : NmW n p g wr) (i : Nat) : wr.frozen? ⟨g, i, none⟩ = false := by
  obtain ⟨cs, h1, _⟩ := h
  exact row_free h1 i
theorem NmW.lt {n : Nat} {p : Nat → Nat} {g : Nat} {wr : World} (h : NmW n p g wr) : g < wr.heap.size := by
  obtain ⟨cs, h1, _⟩ := h
  exact (Array.getElem?_eq_some_iff.1 h1).1
theorem NmW.swap {n : Nat} {p : Nat → Nat} {g : Nat} {wr : World} (h : NmW n p g wr) {a b : Nat} (ha : a < n) (hb : b < n) : NmW n (swapN p a b) g ((wr.setCell ⟨g, a, none⟩ (.int .i64 (p b : Int))).setCell ⟨g, b, none⟩ (.int .i64 (p a : Int))) := by
  obtain ⟨cs, h1, h2, h3⟩ := h
  refine ⟨_, heap_setCell_self (i := b) (heap_setCell_self (i := a) h1 _) _, by simpa using h2, fun i hi => ?_⟩
  rw [Array.getElem?_setIfInBounds, Array.getElem?_setIfInBounds]
  unfold swapN
  by_cases e1 : b = i
  · subst e1; simp; omega
  · rw [if_neg e1]
    by_cases e2 : a = i
    · subst e2; simp [Ne.symm e1]; omega
    · rw [if_neg e2, h3 i hi]; simp [Ne.symm e1, Ne.symm e2]
theorem NmW.half {n : Nat} {p : Nat → Nat} {g : Nat} {wr : World} (h : NmW n p g wr) {a b : Nat} (v : Value) (hb : b < n) : (∃ u, (wr.setCell ⟨g, a, none⟩ v).cell? ⟨g, b, none⟩ = some u) ∧ (wr.setCell ⟨g, a, none⟩ v).frozen? ⟨g, b, none⟩ = false := by
  obtain ⟨cs, h1, h2, h3⟩ := h
  have h4 := heap_setCell_self (i := a) h1 v
  refine ⟨⟨(cs.setIfInBounds a v)[b]'(by simp; omega), ?_⟩, row_free h4 b⟩
  have h5 : (cs.setIfInBounds a v)[b]? = some ((cs.setIfInBounds a v)[b]'(by simp; omega)) := Array.getElem?_eq_getElem _
  simp only [World.cell?, h4]
  simp
theorem NmW.below {n : Nat} {p : Nat → Nat} {g : Nat} {wr w' : World} (h : NmW n p g wr) (hb : Below wr.heap.size wr w') : NmW n p g w' := by
  have hg := h.lt
  obtain ⟨cs, h1, h2⟩ := h
  exact ⟨cs, (hb.block g hg).trans h1, h2⟩
theorem NmW.of {n : Nat} {g cap base : Nat} {w : World} (h1 : 1 ≤ n) (h : w.ownsRow base 3 1 (.slice (some ⟨g, 0, none⟩) n cap) n (((List.range n).map fun (x : Nat) => (x : Int)).map (Value.int .i64))) : base ≤ g ∧ NmW n id g w := by
  rcases h.2 with ⟨e, _⟩ | ⟨g', cap', cur, e, hb, hg, hn, _, hs, ht⟩
  · cases e
  · simp only [Value.slice.injEq, Option.some.injEq, Addr.mk.injEq] at e
    obtain ⟨⟨rfl, _, _⟩, _, rfl⟩ := e
    refine ⟨hb, cur, hg, by omega, fun i hi => ?_⟩
    have := congrArg (fun l => l[i]?) ht
    simp only [Nat.mul_one] at this
    rw [List.getElem?_take, if_pos hi, Array.getElem?_toList] at this
    rw [this]
    simp [hi]

theorem net_cell1 {w : World} {b : Nat} {x y : Value} {t : TypeId} {fz : Nat × Nat} (h : w.heap[b]? = some (.cells #[x, y] t fz)) : w.cell? ⟨b, 1, none⟩ = some y := by simp [World.cell?, h]
/-- What the law's other edges keep. -/
def HSt (u : World) (n : Nat) (aH : Option Addr) (cH : Nat) (hs : List (Int × Int)) (wr : World) : Prop :=
  Below u.heap.size u wr ∧ wr.heap[u.heap.size]? = some (.cells #[.int .i64 (n : Int), .slice aH hs.length cH] 24 (0, 0)) ∧ wr.ownsRow u.heap.size 65 2 (.slice aH hs.length cH) hs.length (prCells hs)
theorem HSt.start (u : World) (n : Nat) : HSt u n none 0 [] (u.alloc (.cells #[.int .i64 (n : Int), .slice none 0 0] 24)) := ⟨(Below.refl _ u).alloc (Nat.le_refl _) _, heap_alloc_new u _, rfl, .inl ⟨rfl, rfl⟩⟩
theorem HSt.drewN {u wr : World} {n : Nat} {aH : Option Addr} {cH : Nat} {hs : List (Int × Int)} (h : HSt u n aH cH hs wr) (q : Nat) : HSt u n aH cH hs (wr.drewN q) := ⟨below_drewN h.1 _, h.2.1, h.2.2⟩
theorem HSt.alloc {u wr : World} {n : Nat} {aH : Option Addr} {cH : Nat} {hs : List (Int × Int)} (h : HSt u n aH cH hs wr) (o : Obj) : HSt u n aH cH hs (wr.alloc o) := ⟨h.1.alloc h.1.size _, (Below.heap_alloc _ _ _ (Array.getElem?_eq_some_iff.1 h.2.1).1).trans h.2.1, h.2.2.alloc _⟩
theorem HSt.grow {u W W' : World} {n : Nat} {aH : Option Addr} {cH : Nat} {hs : List (Int × Int)} (h : HSt u n aH cH hs W) (hg : W.grownBy W' (Value.slice aH hs.length cH).ownBlock) :
    W'.heap[u.heap.size]? = some (.cells #[.int .i64 (n : Int), .slice aH hs.length cH] 24 (0, 0)) ∧ Below u.heap.size u W' := by
  obtain ⟨h1, h2, h4⟩ := h
  exact ⟨(hg.block _ (Array.getElem?_eq_some_iff.1 h2).1 (row_ne h2 h4 (by decide))).trans h2, h1.grown hg h1.size (fun k hk => (h4.lt k hk).1)⟩
theorem HSt.push {u W' : World} {n : Nat} {aH : Option Addr} {cH g cp : Nat} {hs : List (Int × Int)} {e : Int × Int}
    (h : W'.heap[u.heap.size]? = some (.cells #[.int .i64 (n : Int), .slice aH hs.length cH] 24 (0, 0)) ∧ Below u.heap.size u W')
    (hr : W'.ownsRow u.heap.size 65 2 (.slice (some ⟨g, 0, none⟩) (hs.length + 1) cp) (hs.length + 1) (prCells (hs ++ [e]))) :
    HSt u n (some ⟨g, 0, none⟩) cp (hs ++ [e]) (W'.setCell ⟨u.heap.size, 1, none⟩ (.slice (some ⟨g, 0, none⟩) (hs.length + 1) cp)) := by
  obtain ⟨h2, h1⟩ := h
  have hl : (hs ++ [e]).length = hs.length + 1 := by simp
  refine ⟨h1.setCell (Nat.le_refl _) _, ?_, ?_⟩
  · rw [hl]; exact heap_setCell_self h2 _
  · rw [hl]; exact ownsRow_set_ne hr (row_ne h2 hr (by decide)) _
/-- The length of what 'Apart' hands back. -/
def lenA (n : Nat) (gs : List Nat) : Nat := if (ordI n gs).length < n then 0 else (listI (apTo gs (ordN n gs)).1).length
theorem ApV.err {n : Nat} {gs : List Nat} {w w' : World} {e : Ending} (h : ApV n gs w e w') : ∃ u c v, e = .returned (.tuple #[.slice u (lenA n gs) c, v, .int .i64 (errO n gs)]) ∧ Below w.heap.size w w' := by
  obtain ⟨hb, h⟩ := h
  unfold errO lenA
  by_cases hlt : (ordI n gs).length < n
  · rw [if_pos hlt] at h ⊢
    rw [if_pos hlt]
    exact ⟨none, 0, _, h, hb⟩
  · rw [if_neg hlt] at h ⊢
    rw [if_neg hlt]
    obtain ⟨u, c, v, he, _⟩ := h
    exact ⟨u, c, v, he, hb⟩
theorem Ren.lenA {es fs : List (Int × Int)} {n : Nat} {p q : Nat → Nat} {gs hs : List Nat} (r : Ren es fs n p q) (hg : Adj n gs es) (hh : Adj n hs fs) (hn : n ≤ 12) : lenA n gs = lenA n hs := by
  have h1 := r.errO hg hh hn
  have l1 : (ordN n gs).length ≤ n := by
    obtain ⟨o1, o2, _⟩ := elimAll_order hg hn (2 ^ n - 1 + 1) (2 ^ n - 1) (full_lt n)
    have := List.Nodup.length_le_of_subset o1 (l₂ := List.range n) fun x hx => List.mem_range.2 (bit_lt (full_lt n) (o2 x hx))
    rw [List.length_range] at this
    exact this
  have l2 : (ordN n hs).length ≤ n := by
    obtain ⟨o1, o2, _⟩ := elimAll_order hh hn (2 ^ n - 1 + 1) (2 ^ n - 1) (full_lt n)
    have := List.Nodup.length_le_of_subset o1 (l₂ := List.range n) fun x hx => List.mem_range.2 (bit_lt (full_lt n) (o2 x hx))
    rw [List.length_range] at this
    exact this
  unfold Go.Proofs.Yticafbfijpjbnaa.errO at h1
  unfold Go.Proofs.Yticafbfijpjbnaa.lenA
  have e1 : (ordI n gs).length = (ordN n gs).length := by rw [ordI, List.length_map]
  have e2 : (ordI n hs).length = (ordN n hs).length := by rw [ordI, List.length_map]
  by_cases c1 : (ordI n gs).length < n
  · by_cases c2 : (ordI n hs).length < n
    · rw [if_pos c1, if_pos c2]
    · rw [if_pos c1, if_neg c2] at h1; cases h1
  · by_cases c2 : (ordI n hs).length < n
    · rw [if_neg c1, if_pos c2] at h1; cases h1
    · rw [if_neg c1, if_neg c2]
      exact r.apart hg hh hn (by omega) (by omega)

theorem cliq_len {gs : List Nat} {w w' : World} {e : Ending} (h : ∃ v, e = .returned (.tuple #[v, .int .i64 0]) ∧ GivesL (cliqueLists gs) w v w') : ∃ a c, e = .returned (.tuple #[.slice a (cliquesN gs).length c, .int .i64 0]) ∧ Below w.heap.size w w' := by
  obtain ⟨v, rfl, a, c, vs, rfl, _, _, hb⟩ := h
  refine ⟨a, c, ?_, hb⟩
  rw [cliqueLists, List.length_map, srt_len]
theorem ordN_len {n : Nat} {gs : List Nat} {es : List (Int × Int)} (h : Adj n gs es) (hn : n ≤ 12) : (ordN n gs).length ≤ 1000 := by
  obtain ⟨o1, o2, _⟩ := elimAll_order h hn (2 ^ n - 1 + 1) (2 ^ n - 1) (full_lt n)
  have := List.Nodup.length_le_of_subset o1 (l₂ := List.range n) fun x hx => List.mem_range.2 (bit_lt (full_lt n) (o2 x hx))
  rw [List.length_range] at this
  exact Nat.le_trans this (by omega)

set_option maxRecDepth 100000 in
set_option maxHeartbeats 16000000 in
theorem RibNamed_any (n0 : Int) (a : Option Addr) (m cap : Nat) (xs : List (Int × Int)) (ap : Option Addr) (mp capp : Nat) (w : World) (h0 : 0 ≤ n0 ∧ n0 ≤ 255) (hl : xs.length = m) (hm : m ≤ 9223372036854775807) (he : Edges w a xs)
    (hmp : mp ≤ 9223372036854775807) (hp : ∀ i, i < mp → ∃ b off z, ap = some ⟨b, off, none⟩ ∧ w.cell? ⟨b, off + i, none⟩ = some (.int .u8 z) ∧ 0 ≤ z ∧ z ≤ 255) :
    Calls Try.prog 10 #[.int .u8 n0, .slice a m cap, .slice ap mp capp] w fun e w' => e = .returned (.bool true) ∧ Below w.heap.size w w' := by
  have HG := Lib.hid (graph_any n0 9 a m cap xs w h0 (by omega) hl hm he)
  have HLV := Lib.hid (fun wx => lives_any wx)
  have HP := Lib.hid hp
  clear hl hm he hp
  go_enter Try.func10, Try.ntmps10
  go_wp2_with (fail)
  refine HG.out.mono ?_
  rintro e w1 ⟨N, es, hN, hgr, hel, aE, cE, rfl, he1, hb1⟩
  obtain ⟨n, gs, rfl, n1, n2, hadj, hgood⟩ := graphOf_good hgr
  have hb2 : Below w.heap.size w (w1.alloc (.cells #[.int .i64 (n : Int), .slice aE es.length cE] 24)) := hb1.alloc hb1.size _
  have he2 := he1.below ((Below.refl _ w1).alloc (Nat.le_refl _) (.cells #[.int .i64 (n : Int), .slice aE es.length cE] 24))
  have hB := heap_alloc_new w1 (.cells #[.int .i64 (n : Int), .slice aE es.length cE] 24)
  have hlt1 : w1.heap.size < (w1.alloc (.cells #[.int .i64 (n : Int), .slice aE es.length cE] 24)).heap.size := by simp
  have hsz2 : (w1.alloc (.cells #[.int .i64 (n : Int), .slice aE es.length cE] 24)).heap.size = w1.heap.size + 1 := by simp
  go_wp2_with (fail)
  obtain ⟨w2, hw2⟩ : ∃ w2, w1.alloc (.cells #[.int .i64 (n : Int), .slice aE es.length cE] 24) = w2 := ⟨_, rfl⟩
  rw [hw2] at hb2 he2 hB hlt1 hsz2 ⊢
  rw [← hsz2]
  obtain ⟨B, hBB⟩ : ∃ B, w1.heap.size = B := ⟨_, rfl⟩
  rw [hBB] at hB hlt1 hsz2 ⊢
  have H2 := Lib.hid (And.intro hb2 (And.intro he2 hB))
  have HGR := Lib.hid (And.intro hgr (And.intro hadj hgood))
  clear he1 hb1 hb2 he2 HG hgr hadj hgood hBB hw2 hsz2
  go_loopw [8, 9] (fun v i wr => ∃ k : Nat, k ≤ n ∧ i = .int .i64 k ∧ Hid (CollI w2 ((List.range k).map fun (x : Nat) => (x : Int)) k v wr)) (fun _ i _ => n - (intOf i).toNat)
  case atStart => exact ⟨0, Nat.zero_le _, rfl, Lib.hid (CollI.start w2)⟩
  case round =>
    obtain ⟨k, hk, rfl, HC⟩ := hrel
    have hBk := (HC.out.1.block B hlt1).trans H2.out.2.2
    have d0 : wr.cell? ⟨B, 0, none⟩ = some (.int .i64 n) := by simp [World.cell?, hBk]
    have hszr := HC.out.1.size
    by_cases hlt : k < n
    · obtain ⟨g0, c0, hv⟩ := HC.out.2.2
      obtain ⟨rfl, hown⟩ := hv
      have HO := Lib.hid hown
      clear hown
      go_wp2_with (at_builtin; refine wpList_app_int rfl (.tmp 49) (.tmp 51) rfl w2.heap.size _ _ _ rfl (k : Int) _ rfl rfl HO.out (by omega) hszr ?_; intro g cp w4 hr4 hg4 _ _; have H4 := Lib.hid (HC.out.next hr4 hg4); clear hr4 hg4)
      go_roundw
      case rel => exact ⟨k + 1, by omega, by go_num, by rw [List.range_succ, List.map_append]; exact H4⟩
      case measure => simp [intOf]; omega
    · obtain rfl : k = n := by omega
      obtain ⟨g, cg, rfl, hown⟩ := HC.out.2.2
      obtain ⟨hgb, hnm⟩ := NmW.of n1 hown
      have HS := Lib.hid (show Below w2.heap.size w2 wr ∧ NmI k id ∧ NmW k id g wr from ⟨HC.out.1, ⟨fun i hi => hi, fun i j _ _ e => e⟩, hnm⟩)
      clear hown hnm hBk hszr
      go_wp2_with (fail)
      rename World => w4
      go_loopw [10] (fun i wr => ∃ (t : Nat) (p : Nat → Nat), t ≤ 17 ∧ i = .int .i64 t ∧ Hid (Below w2.heap.size w2 wr ∧ NmI k p ∧ NmW k p g wr)) (fun i _ => 20 - (intOf i).toNat)
      case atStart => exact ⟨0, id, by omega, rfl, HS⟩
      case round =>
        obtain ⟨t, p, ht, rfl, HS1⟩ := hrel
        have hBk := (HS1.out.1.block B hlt1).trans H2.out.2.2
        have d0 : wr.cell? ⟨B, 0, none⟩ = some (.int .i64 k) := by simp [World.cell?, hBk]
        clear hBk
        by_cases hlt2 : (t : Int) + 1 < mp
        · by_cases hlt3 : (t : Int) < 16
          · obtain ⟨b, off, z1, rfl, c1, z11, z12⟩ := HP.out t (by omega)
            obtain ⟨b', off', z2, e', c2, z21, z22⟩ := HP.out (t + 1) (by omega)
            obtain ⟨rfl, rfl⟩ : b = b' ∧ off = off' := by simpa using e'
            have hbw := H2.out.1.trans (HS1.out.1.mono H2.out.1.size)
            replace c1 := (hbw.cell (p := ⟨b, off + t, none⟩) (World.block_lt_of_cell? w _ c1)).trans c1
            replace c2 := (hbw.cell (p := ⟨b, off + (t + 1), none⟩) (World.block_lt_of_cell? w _ c2)).trans c2
            have hk0 : (k : Int) ≠ 0 := by omega
            have y11 : 0 ≤ z1 % (k : Int) := Int.emod_nonneg _ (by omega)
            have y12 : z1 % (k : Int) < k := Int.emod_lt_of_pos _ (by omega)
            have y21 : 0 ≤ z2 % (k : Int) := Int.emod_nonneg _ (by omega)
            have y22 : z2 % (k : Int) < k := Int.emod_lt_of_pos _ (by omega)
            clear e' hbw
            go_wp2
            go_quiet (fail)
            obtain ⟨va, hva⟩ := Int.eq_ofNat_of_zero_le y11
            obtain ⟨vb, hvb⟩ := Int.eq_ofNat_of_zero_le y21
            rw [hva] at y12
            rw [hvb] at y22
            rw [hva, hvb]
            have hS5 : Below w2.heap.size w2 (wr.drewN nq) ∧ NmI k p ∧ NmW k p g (wr.drewN nq) := ⟨below_drewN HS1.out.1 _, HS1.out.2.1, HS1.out.2.2⟩
            generalize wr.drewN nq = w5 at hS5 ⊢
            have ha1 : va < k := by omega
            have hb1 : vb < k := by omega
            have f1 := hS5.2.2.at ha1
            have f2 := hS5.2.2.at hb1
            have f3 := hS5.2.2.free va
            have f4 := hS5.2.2.free vb
            have f5 := hS5.2.2.lt
            have f6 : (va : Int) < k := by omega
            have f7 : (vb : Int) < k := by omega
            obtain ⟨⟨u8, f8⟩, f9⟩ := hS5.2.2.half (a := va) (.int .i64 (p vb : Int)) hb1
            have HS5 := Lib.hid hS5
            clear hS5 hva hvb y11 y12 y21 y22 c1 c2 HS1
            go_wp2_with (fail)
            go_region_law (fail)
            all_goals
              go_simp
              go_wp2_with (fail)
              go_roundw
              case rel => exact ⟨t + 2, swapN p va vb, by omega, by go_num, Lib.hid (by first | exact ⟨((HS5.out.1.setCell hgb _).setCell hgb _), HS5.out.2.1.swap ha1 hb1, HS5.out.2.2.swap ha1 hb1⟩ | exact ⟨((HS5.out.1.setCell hgb _).setCell hgb _).drew, HS5.out.2.1.swap ha1 hb1, HS5.out.2.2.swap ha1 hb1⟩ | exact ⟨((HS5.out.1.drew.setCell hgb _).setCell hgb _), HS5.out.2.1.swap ha1 hb1, NmW.swap (wr := w5.drew) HS5.out.2.2 ha1 hb1⟩)⟩
              case measure => simp [intOf]; omega
          · have d1 : wr.cell? ⟨B, 1, none⟩ = some (.slice aE es.length cE) := by
              have := (HS1.out.1.block B hlt1).trans H2.out.2.2
              simp [World.cell?, this]
            have hBw : B < wr.heap.size := Nat.lt_of_lt_of_le hlt1 HS1.out.1.size
            have d3 : (wr.alloc (.cells #[.int .i64 (k : Int), .slice none 0 0] 24)).cell? ⟨B, 1, none⟩ = some (.slice aE es.length cE) := by
              rw [← d1]; exact ((Below.refl wr.heap.size wr).alloc (Nat.le_refl _) _).cell (p := ⟨B, 1, none⟩) hBw
            go_wp2_with (fail)
            clear d0 d1 d3
            rename World => u
            go_loopw [14] (fun i wr => ∃ (j cH : Nat) (aH : Option Addr) (hs : List (Int × Int)), j ≤ es.length ∧ i = .int .i64 ((j : Int) - 1) ∧ hs.length + j = es.length ∧ Hid (hs = (es.drop j).reverse.map (renE p)) ∧ Hid (HSt u k aH cH hs wr)) (fun i _ => (intOf i + 1).toNat)
            case atStart => exact ⟨es.length, 0, none, [], Nat.le_refl _, rfl, by simp, Lib.hid (by simp), Lib.hid (HSt.start u k)⟩
            case round =>
              obtain ⟨j, cH, aH, hs, hj, rfl, hjl, HE, HH⟩ := hrel
              have hbu := HS1.out.1.trans (HH.out.1.mono HS1.out.1.size)
              have hBk := (hbu.block B hlt1).trans H2.out.2.2
              have d0 : wr.cell? ⟨B, 0, none⟩ = some (.int .i64 k) := by simp [World.cell?, hBk]
              have d1 : wr.cell? ⟨B, 1, none⟩ = some (.slice aE es.length cE) := by simp [World.cell?, hBk]
              have d2 : wr.cell? ⟨u.heap.size, 0, none⟩ = some (.int .i64 k) := by simp [World.cell?, HH.out.2.1]
              have d3 : wr.cell? ⟨u.heap.size, 1, none⟩ = some (.slice aH hs.length cH) := by simp [World.cell?, HH.out.2.1]
              have d4 : wr.frozen? ⟨u.heap.size, 1, none⟩ = false := row_free HH.out.2.1 1
              have hNW := HS1.out.2.2.below HH.out.1
              have HEd := Lib.hid (H2.out.2.1.below hbu)
              have HNM := Lib.hid HS1.out.2.1
              clear hBk hbu
              by_cases hj0 : j = 0
              · subst hj0
                rw [List.drop_zero] at HE
                obtain ⟨hgh, q, hren⟩ := ren_good HGR.out.1 HNM.out
                rw [← HE.out] at hgh hren
                obtain ⟨n', hs', hn', n1', n2', hadj', hgood'⟩ := graphOf_good hgh
                obtain rfl : n' = k := by omega
                have hbw : Below w.heap.size w wr := H2.out.1.trans ((HS1.out.1.trans (HH.out.1.mono HS1.out.1.size)).mono H2.out.1.size)
                have HM := Lib.hid (show StP w B u.heap.size n' aE cE es n' aH cH hs wr from ⟨hbw, HEd.out, Edges.of_owns HH.out.2.2, d0, d1, d2, d3⟩)
                have hadj := HGR.out.2.1
                have hgood := HGR.out.2.2
                have r1 := hren.errO hadj hadj' n2
                have r2 := hren.errS hadj hadj' n1 n2
                have r3 := hren.errT
                have r4 := hren.cliques hadj hadj' n2
                have r5 := hren.lenA hadj hadj' n2
                have HOG := Lib.hid (fun (wx : World) (hx : Edges wx aE es) => (Order_any n' aE es.length cE es n' gs wx rfl n2 hadj (hgood _ _ _ _ rfl (by omega) hx)).mono fun e w' h => OrderV.err h)
                have HOH := Lib.hid (fun (wx : World) (hx : Edges wx aH hs) => (Order_any n' aH hs.length cH hs n' hs' wx rfl n2 hadj' (hgood' _ _ _ _ rfl (by omega) hx)).mono fun e w' h => OrderV.err h)
                have HSG := Lib.hid (fun (wx : World) (hx : Edges wx aE es) => (Spans_any n' aE es.length cE es n' gs wx rfl n1 n2 hadj (hgood _ _ _ _ rfl (by omega) hx) (cliques_some hadj n2)).mono fun e w' h => SpansV.err h)
                have HSH := Lib.hid (fun (wx : World) (hx : Edges wx aH hs) => (Spans_any n' aH hs.length cH hs n' hs' wx rfl n1 n2 hadj' (hgood' _ _ _ _ rfl (by omega) hx) (cliques_some hadj' n2)).mono fun e w' h => SpansV.err h)
                have HTG := Lib.hid (fun (wx : World) (hx : Edges wx aE es) => (Triple_any n' aE es.length cE es n' gs wx rfl n2 hadj (hgood _ _ _ _ rfl (by omega) hx)).mono fun e w' h => TripleV.err hadj n2 h)
                have HTH := Lib.hid (fun (wx : World) (hx : Edges wx aH hs) => (Triple_any n' aH hs.length cH hs n' hs' wx rfl n2 hadj' (hgood' _ _ _ _ rfl (by omega) hx)).mono fun e w' h => TripleV.err hadj' n2 h)
                have HCG := Lib.hid (fun (wx : World) (hx : Edges wx aE es) => (Cliques_any n' aE es.length cE es n' gs wx rfl (by omega) hx rfl n2 hadj (cliques_some hadj n2) (hgood _ _ _ _ rfl (by omega) hx)).mono fun e w' h => cliq_len h)
                have HCH := Lib.hid (fun (wx : World) (hx : Edges wx aH hs) => (Cliques_any n' aH hs.length cH hs n' hs' wx rfl (by omega) hx rfl n2 hadj' (cliques_some hadj' n2) (hgood' _ _ _ _ rfl (by omega) hx)).mono fun e w' h => cliq_len h)
                have HAG := Lib.hid (fun (wx : World) (hx : Edges wx aE es) => (Apart_any n' aE es.length cE es n' gs wx rfl n2 hadj (hgood _ _ _ _ rfl (by omega) hx) (ordN_lt hadj n2) (ordN_len hadj n2)).mono fun e w' h => ApV.err h)
                have HAH := Lib.hid (fun (wx : World) (hx : Edges wx aH hs) => (Apart_any n' aH hs.length cH hs n' hs' wx rfl n2 hadj' (hgood' _ _ _ _ rfl (by omega) hx) (ordN_lt hadj' n2) (ordN_len hadj' n2)).mono fun e w' h => ApV.err h)
                rw [← r1] at HOH
                rw [← r2] at HSH
                rw [← r3] at HTH
                rw [← r4] at HCH
                rw [← r5, ← r1] at HAH
                obtain ⟨zo, hzo⟩ : ∃ z, errO n' gs = z := ⟨_, rfl⟩
                obtain ⟨zs, hzs⟩ : ∃ z, errS n' gs = z := ⟨_, rfl⟩
                obtain ⟨zt, hzt⟩ : ∃ z, errT es n' = z := ⟨_, rfl⟩
                obtain ⟨zc, hzc⟩ : ∃ z, (cliquesN gs).length = z := ⟨_, rfl⟩
                obtain ⟨za, hza⟩ : ∃ z, lenA n' gs = z := ⟨_, rfl⟩
                rw [hzo] at HOG HOH HAG HAH
                rw [hzs] at HSG HSH
                rw [hzt] at HTG HTH
                rw [hzc] at HCG HCH
                rw [hza] at HAG HAH
                clear hadj hadj' hgood hgood' r1 r2 r3 r4 r5 hzo hzs hzt hzc hza hren hgh HE HH HEd HNM HGR hNW d4 hbw
                go_wp2_with (fail)
                refine (HOG.out _ HM.out.2.1).mono ?_
                rintro e w5 ⟨v5, rfl, hb5⟩
                have HM5 := Lib.hid (HM.out.next hb5)
                clear hb5 HM d0 d1 d2 d3 HOG
                obtain ⟨hM1, hM2, hM3, d0, d1, d2, d3⟩ := HM5.out
                clear hM1 hM2 hM3
                go_wp2_with (fail)
                refine (HOH.out _ HM5.out.2.2.1).mono ?_
                rintro e w6 ⟨v6, rfl, hb6⟩
                have HM6 := Lib.hid (HM5.out.next hb6)
                clear hb6 HM5 d0 d1 d2 d3 HOH
                obtain ⟨hM1, hM2, hM3, d0, d1, d2, d3⟩ := HM6.out
                clear hM1 hM2 hM3
                go_wp2_with (fail)
                refine (HSG.out _ HM6.out.2.1).mono ?_
                rintro e w7 ⟨v7, rfl, hb7⟩
                have HM7 := Lib.hid (HM6.out.next hb7)
                clear hb7 HM6 d0 d1 d2 d3 HSG
                obtain ⟨hM1, hM2, hM3, d0, d1, d2, d3⟩ := HM7.out
                clear hM1 hM2 hM3
                go_wp2_with (fail)
                refine (HSH.out _ HM7.out.2.2.1).mono ?_
                rintro e w8 ⟨v8, rfl, hb8⟩
                have HM8 := Lib.hid (HM7.out.next hb8)
                clear hb8 HM7 d0 d1 d2 d3 HSH
                obtain ⟨hM1, hM2, hM3, d0, d1, d2, d3⟩ := HM8.out
                clear hM1 hM2 hM3
                go_wp2_with (fail)
                refine (HTG.out _ HM8.out.2.1).mono ?_
                rintro e w9 ⟨v9, rfl, hb9⟩
                have HM9 := Lib.hid (HM8.out.next hb9)
                clear hb9 HM8 d0 d1 d2 d3 HTG
                obtain ⟨hM1, hM2, hM3, d0, d1, d2, d3⟩ := HM9.out
                clear hM1 hM2 hM3
                go_wp2_with (fail)
                refine (HTH.out _ HM9.out.2.2.1).mono ?_
                rintro e w10 ⟨v10, rfl, hb10⟩
                have HM10 := Lib.hid (HM9.out.next hb10)
                clear hb10 HM9 d0 d1 d2 d3 HTH
                obtain ⟨hM1, hM2, hM3, d0, d1, d2, d3⟩ := HM10.out
                clear hM1 hM2 hM3
                go_wp2_with (fail)
                refine (HCG.out _ HM10.out.2.1).mono ?_
                rintro e w11 ⟨u11', c11, rfl, hb11⟩
                have HM11 := Lib.hid (HM10.out.next hb11)
                clear hb11 HM10 d0 d1 d2 d3 HCG
                obtain ⟨hM1, hM2, hM3, d0, d1, d2, d3⟩ := HM11.out
                clear hM1 hM2 hM3
                go_wp2_with (fail)
                refine (HCH.out _ HM11.out.2.2.1).mono ?_
                rintro e w12 ⟨u12', c12, rfl, hb12⟩
                have HM12 := Lib.hid (HM11.out.next hb12)
                clear hb12 HM11 d0 d1 d2 d3 HCH
                obtain ⟨hM1, hM2, hM3, d0, d1, d2, d3⟩ := HM12.out
                clear hM1 hM2 hM3
                go_wp2_with (fail)
                refine (HAG.out _ HM12.out.2.1).mono ?_
                rintro e w13 ⟨u13, c13, v13, rfl, hb13⟩
                have HM13 := Lib.hid (HM12.out.next hb13)
                clear hb13 HM12 d0 d1 d2 d3 HAG
                obtain ⟨hM1, hM2, hM3, d0, d1, d2, d3⟩ := HM13.out
                clear hM1 hM2 hM3
                go_wp2_with (fail)
                refine (HAH.out _ HM13.out.2.2.1).mono ?_
                rintro e w14 ⟨u14, c14, v14, rfl, hb14⟩
                have HB14 := Lib.hid (HM13.out.next hb14).1
                clear hb14 HM13 d0 d1 d2 d3 HAH
                go_wp2_with (fail)
                refine (HLV.out _).mono ?_
                rintro e w15 ⟨rfl, hb15⟩
                have HB15 := Lib.hid (HB14.out.trans (hb15.mono HB14.out.size))
                clear hb15 HB14
                go_wp2_with (fail)
                go_ret
                exact ⟨rfl, HB15.out⟩
              · obtain ⟨i, rfl⟩ : ∃ i, j = i + 1 := ⟨j - 1, by omega⟩
                have hiL : i < es.length := by omega
                have ei : ((i + 1 : Nat) : Int) - 1 = i := by omega
                rw [ei]
                have hgr := (graphR_iff.1 HGR.out.1).2.1 (es[i]'hiL) (List.getElem_mem hiL)
                rcases HEd.out with h | ⟨be, oe, rfl, hc⟩
                · subst h; simp at hiL
                obtain ⟨c0, c1⟩ := hc i hiL
                have eg : es[i]?.getD (0, 0) = es[i] := by simp [hiL]
                rw [eg] at c0 c1
                have HD : Hid (es.drop i = es[i] :: es.drop (i + 1)) := Lib.hid (List.drop_eq_getElem_cons hiL)
                obtain ⟨e, he⟩ : ∃ e, es[i] = e := ⟨_, rfl⟩
                rw [he] at hgr c0 c1 HD
                obtain ⟨x, y⟩ := e
                simp only [] at c0 c1 hgr
                obtain ⟨x, rfl⟩ := Int.eq_ofNat_of_zero_le hgr.1
                obtain ⟨y, rfl⟩ := Int.eq_ofNat_of_zero_le (show 0 ≤ y by omega)
                have hx : x < k := by omega
                have hy : y < k := by omega
                have c2 := hNW.at hx
                have c3 := hNW.at hy
                have hxI : (x : Int) < k := by omega
                have hyI : (y : Int) < k := by omega
                have hiI : (i : Int) < es.length := by omega
                clear hc eg he hgr ei hNW HEd
                go_wp2
                go_quiet (fail)
                have hg5 := HH.out.drewN nq
                have e0 : (wr.drewN nq).cell? ⟨u.heap.size, 1, none⟩ = some (.slice aH hs.length cH) := d3
                have e1 : (wr.drewN nq).frozen? ⟨u.heap.size, 1, none⟩ = false := d4
                clear d0 d1 d2 d3 d4 c0 c1 c2 c3 HH
                generalize wr.drewN nq = w5 at hg5 e0 e1 ⊢
                have HG5 := Lib.hid hg5
                have hsz5 : u.heap.size ≤ w5.heap.size := hg5.1.size
                clear hg5
                obtain ⟨zm, hzm⟩ : ∃ z, min (p x : Int) (p y : Int) = z := ⟨_, rfl⟩
                obtain ⟨zM, hzM⟩ : ∃ z, max (p x : Int) (p y : Int) = z := ⟨_, rfl⟩
                have HRE : Hid (renE p ((x : Int), (y : Int)) = (zm, zM)) := Lib.hid (by rw [renE, ← hzm, ← hzM]; rfl)
                have hlen : hs.length ≤ 1000000 := by omega
                go_wp2_with (at_builtin; refine wpList_app_pair1 rfl (.tmp 125) (.tmp 133) rfl u.heap.size (.slice aH hs.length cH) _ hs rfl zm zM _ rfl (by simp) HG5.out.2.2 hlen hsz5 ?_; intro g7 cp w7 hr7 hg7; have H7 := Lib.hid (And.intro (HG5.out.grow hg7) hr7); have e4 := net_cell1 H7.out.1.1; have e5 := row_free H7.out.1.1 1; clear hr7 hg7)
                go_roundw
                case rel => exact ⟨i, cp, some ⟨g7, 0, none⟩, hs ++ [(zm, zM)], by omega, by go_num, by simp; omega, Lib.hid (by rw [HD.out, List.reverse_cons, List.map_append, ← HE.out, List.map_singleton, HRE.out]), Lib.hid (HSt.push H7.out.1 H7.out.2)⟩
                case measure => simp [intOf]
        · have d1 : wr.cell? ⟨B, 1, none⟩ = some (.slice aE es.length cE) := by
            have := (HS1.out.1.block B hlt1).trans H2.out.2.2
            simp [World.cell?, this]
          have hBw : B < wr.heap.size := Nat.lt_of_lt_of_le hlt1 HS1.out.1.size
          have d3 : (wr.alloc (.cells #[.int .i64 (k : Int), .slice none 0 0] 24)).cell? ⟨B, 1, none⟩ = some (.slice aE es.length cE) := by
            rw [← d1]; exact ((Below.refl wr.heap.size wr).alloc (Nat.le_refl _) _).cell (p := ⟨B, 1, none⟩) hBw
          go_wp2_with (fail)
          clear d0 d1 d3
          rename World => u
          go_loopw [14] (fun i wr => ∃ (j cH : Nat) (aH : Option Addr) (hs : List (Int × Int)), j ≤ es.length ∧ i = .int .i64 ((j : Int) - 1) ∧ hs.length + j = es.length ∧ Hid (hs = (es.drop j).reverse.map (renE p)) ∧ Hid (HSt u k aH cH hs wr)) (fun i _ => (intOf i + 1).toNat)
          case atStart => exact ⟨es.length, 0, none, [], Nat.le_refl _, rfl, by simp, Lib.hid (by simp), Lib.hid (HSt.start u k)⟩
          case round =>
            obtain ⟨j, cH, aH, hs, hj, rfl, hjl, HE, HH⟩ := hrel
            have hbu := HS1.out.1.trans (HH.out.1.mono HS1.out.1.size)
            have hBk := (hbu.block B hlt1).trans H2.out.2.2
            have d0 : wr.cell? ⟨B, 0, none⟩ = some (.int .i64 k) := by simp [World.cell?, hBk]
            have d1 : wr.cell? ⟨B, 1, none⟩ = some (.slice aE es.length cE) := by simp [World.cell?, hBk]
            have d2 : wr.cell? ⟨u.heap.size, 0, none⟩ = some (.int .i64 k) := by simp [World.cell?, HH.out.2.1]
            have d3 : wr.cell? ⟨u.heap.size, 1, none⟩ = some (.slice aH hs.length cH) := by simp [World.cell?, HH.out.2.1]
            have d4 : wr.frozen? ⟨u.heap.size, 1, none⟩ = false := row_free HH.out.2.1 1
            have hNW := HS1.out.2.2.below HH.out.1
            have HEd := Lib.hid (H2.out.2.1.below hbu)
            have HNM := Lib.hid HS1.out.2.1
            clear hBk hbu
            by_cases hj0 : j = 0
            · subst hj0
              rw [List.drop_zero] at HE
              obtain ⟨hgh, q, hren⟩ := ren_good HGR.out.1 HNM.out
              rw [← HE.out] at hgh hren
              obtain ⟨n', hs', hn', n1', n2', hadj', hgood'⟩ := graphOf_good hgh
              obtain rfl : n' = k := by omega
              have hbw : Below w.heap.size w wr := H2.out.1.trans ((HS1.out.1.trans (HH.out.1.mono HS1.out.1.size)).mono H2.out.1.size)
              have HM := Lib.hid (show StP w B u.heap.size n' aE cE es n' aH cH hs wr from ⟨hbw, HEd.out, Edges.of_owns HH.out.2.2, d0, d1, d2, d3⟩)
              have hadj := HGR.out.2.1
              have hgood := HGR.out.2.2
              have r1 := hren.errO hadj hadj' n2
              have r2 := hren.errS hadj hadj' n1 n2
              have r3 := hren.errT
              have r4 := hren.cliques hadj hadj' n2
              have r5 := hren.lenA hadj hadj' n2
              have HOG := Lib.hid (fun (wx : World) (hx : Edges wx aE es) => (Order_any n' aE es.length cE es n' gs wx rfl n2 hadj (hgood _ _ _ _ rfl (by omega) hx)).mono fun e w' h => OrderV.err h)
              have HOH := Lib.hid (fun (wx : World) (hx : Edges wx aH hs) => (Order_any n' aH hs.length cH hs n' hs' wx rfl n2 hadj' (hgood' _ _ _ _ rfl (by omega) hx)).mono fun e w' h => OrderV.err h)
              have HSG := Lib.hid (fun (wx : World) (hx : Edges wx aE es) => (Spans_any n' aE es.length cE es n' gs wx rfl n1 n2 hadj (hgood _ _ _ _ rfl (by omega) hx) (cliques_some hadj n2)).mono fun e w' h => SpansV.err h)
              have HSH := Lib.hid (fun (wx : World) (hx : Edges wx aH hs) => (Spans_any n' aH hs.length cH hs n' hs' wx rfl n1 n2 hadj' (hgood' _ _ _ _ rfl (by omega) hx) (cliques_some hadj' n2)).mono fun e w' h => SpansV.err h)
              have HTG := Lib.hid (fun (wx : World) (hx : Edges wx aE es) => (Triple_any n' aE es.length cE es n' gs wx rfl n2 hadj (hgood _ _ _ _ rfl (by omega) hx)).mono fun e w' h => TripleV.err hadj n2 h)
              have HTH := Lib.hid (fun (wx : World) (hx : Edges wx aH hs) => (Triple_any n' aH hs.length cH hs n' hs' wx rfl n2 hadj' (hgood' _ _ _ _ rfl (by omega) hx)).mono fun e w' h => TripleV.err hadj' n2 h)
              have HCG := Lib.hid (fun (wx : World) (hx : Edges wx aE es) => (Cliques_any n' aE es.length cE es n' gs wx rfl (by omega) hx rfl n2 hadj (cliques_some hadj n2) (hgood _ _ _ _ rfl (by omega) hx)).mono fun e w' h => cliq_len h)
              have HCH := Lib.hid (fun (wx : World) (hx : Edges wx aH hs) => (Cliques_any n' aH hs.length cH hs n' hs' wx rfl (by omega) hx rfl n2 hadj' (cliques_some hadj' n2) (hgood' _ _ _ _ rfl (by omega) hx)).mono fun e w' h => cliq_len h)
              have HAG := Lib.hid (fun (wx : World) (hx : Edges wx aE es) => (Apart_any n' aE es.length cE es n' gs wx rfl n2 hadj (hgood _ _ _ _ rfl (by omega) hx) (ordN_lt hadj n2) (ordN_len hadj n2)).mono fun e w' h => ApV.err h)
              have HAH := Lib.hid (fun (wx : World) (hx : Edges wx aH hs) => (Apart_any n' aH hs.length cH hs n' hs' wx rfl n2 hadj' (hgood' _ _ _ _ rfl (by omega) hx) (ordN_lt hadj' n2) (ordN_len hadj' n2)).mono fun e w' h => ApV.err h)
              rw [← r1] at HOH
              rw [← r2] at HSH
              rw [← r3] at HTH
              rw [← r4] at HCH
              rw [← r5, ← r1] at HAH
              obtain ⟨zo, hzo⟩ : ∃ z, errO n' gs = z := ⟨_, rfl⟩
              obtain ⟨zs, hzs⟩ : ∃ z, errS n' gs = z := ⟨_, rfl⟩
              obtain ⟨zt, hzt⟩ : ∃ z, errT es n' = z := ⟨_, rfl⟩
              obtain ⟨zc, hzc⟩ : ∃ z, (cliquesN gs).length = z := ⟨_, rfl⟩
              obtain ⟨za, hza⟩ : ∃ z, lenA n' gs = z := ⟨_, rfl⟩
              rw [hzo] at HOG HOH HAG HAH
              rw [hzs] at HSG HSH
              rw [hzt] at HTG HTH
              rw [hzc] at HCG HCH
              rw [hza] at HAG HAH
              clear hadj hadj' hgood hgood' r1 r2 r3 r4 r5 hzo hzs hzt hzc hza hren hgh HE HH HEd HNM HGR hNW d4 hbw
              go_wp2_with (fail)
              refine (HOG.out _ HM.out.2.1).mono ?_
              rintro e w5 ⟨v5, rfl, hb5⟩
              have HM5 := Lib.hid (HM.out.next hb5)
              clear hb5 HM d0 d1 d2 d3 HOG
              obtain ⟨hM1, hM2, hM3, d0, d1, d2, d3⟩ := HM5.out
              clear hM1 hM2 hM3
              go_wp2_with (fail)
              refine (HOH.out _ HM5.out.2.2.1).mono ?_
              rintro e w6 ⟨v6, rfl, hb6⟩
              have HM6 := Lib.hid (HM5.out.next hb6)
              clear hb6 HM5 d0 d1 d2 d3 HOH
              obtain ⟨hM1, hM2, hM3, d0, d1, d2, d3⟩ := HM6.out
              clear hM1 hM2 hM3
              go_wp2_with (fail)
              refine (HSG.out _ HM6.out.2.1).mono ?_
              rintro e w7 ⟨v7, rfl, hb7⟩
              have HM7 := Lib.hid (HM6.out.next hb7)
              clear hb7 HM6 d0 d1 d2 d3 HSG
              obtain ⟨hM1, hM2, hM3, d0, d1, d2, d3⟩ := HM7.out
              clear hM1 hM2 hM3
              go_wp2_with (fail)
              refine (HSH.out _ HM7.out.2.2.1).mono ?_
              rintro e w8 ⟨v8, rfl, hb8⟩
              have HM8 := Lib.hid (HM7.out.next hb8)
              clear hb8 HM7 d0 d1 d2 d3 HSH
              obtain ⟨hM1, hM2, hM3, d0, d1, d2, d3⟩ := HM8.out
              clear hM1 hM2 hM3
              go_wp2_with (fail)
              refine (HTG.out _ HM8.out.2.1).mono ?_
              rintro e w9 ⟨v9, rfl, hb9⟩
              have HM9 := Lib.hid (HM8.out.next hb9)
              clear hb9 HM8 d0 d1 d2 d3 HTG
              obtain ⟨hM1, hM2, hM3, d0, d1, d2, d3⟩ := HM9.out
              clear hM1 hM2 hM3
              go_wp2_with (fail)
              refine (HTH.out _ HM9.out.2.2.1).mono ?_
              rintro e w10 ⟨v10, rfl, hb10⟩
              have HM10 := Lib.hid (HM9.out.next hb10)
              clear hb10 HM9 d0 d1 d2 d3 HTH
              obtain ⟨hM1, hM2, hM3, d0, d1, d2, d3⟩ := HM10.out
              clear hM1 hM2 hM3
              go_wp2_with (fail)
              refine (HCG.out _ HM10.out.2.1).mono ?_
              rintro e w11 ⟨u11', c11, rfl, hb11⟩
              have HM11 := Lib.hid (HM10.out.next hb11)
              clear hb11 HM10 d0 d1 d2 d3 HCG
              obtain ⟨hM1, hM2, hM3, d0, d1, d2, d3⟩ := HM11.out
              clear hM1 hM2 hM3
              go_wp2_with (fail)
              refine (HCH.out _ HM11.out.2.2.1).mono ?_
              rintro e w12 ⟨u12', c12, rfl, hb12⟩
              have HM12 := Lib.hid (HM11.out.next hb12)
              clear hb12 HM11 d0 d1 d2 d3 HCH
              obtain ⟨hM1, hM2, hM3, d0, d1, d2, d3⟩ := HM12.out
              clear hM1 hM2 hM3
              go_wp2_with (fail)
              refine (HAG.out _ HM12.out.2.1).mono ?_
              rintro e w13 ⟨u13, c13, v13, rfl, hb13⟩
              have HM13 := Lib.hid (HM12.out.next hb13)
              clear hb13 HM12 d0 d1 d2 d3 HAG
              obtain ⟨hM1, hM2, hM3, d0, d1, d2, d3⟩ := HM13.out
              clear hM1 hM2 hM3
              go_wp2_with (fail)
              refine (HAH.out _ HM13.out.2.2.1).mono ?_
              rintro e w14 ⟨u14, c14, v14, rfl, hb14⟩
              have HB14 := Lib.hid (HM13.out.next hb14).1
              clear hb14 HM13 d0 d1 d2 d3 HAH
              go_wp2_with (fail)
              refine (HLV.out _).mono ?_
              rintro e w15 ⟨rfl, hb15⟩
              have HB15 := Lib.hid (HB14.out.trans (hb15.mono HB14.out.size))
              clear hb15 HB14
              go_wp2_with (fail)
              go_ret
              exact ⟨rfl, HB15.out⟩
            · obtain ⟨i, rfl⟩ : ∃ i, j = i + 1 := ⟨j - 1, by omega⟩
              have hiL : i < es.length := by omega
              have ei : ((i + 1 : Nat) : Int) - 1 = i := by omega
              rw [ei]
              have hgr := (graphR_iff.1 HGR.out.1).2.1 (es[i]'hiL) (List.getElem_mem hiL)
              rcases HEd.out with h | ⟨be, oe, rfl, hc⟩
              · subst h; simp at hiL
              obtain ⟨c0, c1⟩ := hc i hiL
              have eg : es[i]?.getD (0, 0) = es[i] := by simp [hiL]
              rw [eg] at c0 c1
              have HD : Hid (es.drop i = es[i] :: es.drop (i + 1)) := Lib.hid (List.drop_eq_getElem_cons hiL)
              obtain ⟨e, he⟩ : ∃ e, es[i] = e := ⟨_, rfl⟩
              rw [he] at hgr c0 c1 HD
              obtain ⟨x, y⟩ := e
              simp only [] at c0 c1 hgr
              obtain ⟨x, rfl⟩ := Int.eq_ofNat_of_zero_le hgr.1
              obtain ⟨y, rfl⟩ := Int.eq_ofNat_of_zero_le (show 0 ≤ y by omega)
              have hx : x < k := by omega
              have hy : y < k := by omega
              have c2 := hNW.at hx
              have c3 := hNW.at hy
              have hxI : (x : Int) < k := by omega
              have hyI : (y : Int) < k := by omega
              have hiI : (i : Int) < es.length := by omega
              clear hc eg he hgr ei hNW HEd
              go_wp2
              go_quiet (fail)
              have hg5 := HH.out.drewN nq
              have e0 : (wr.drewN nq).cell? ⟨u.heap.size, 1, none⟩ = some (.slice aH hs.length cH) := d3
              have e1 : (wr.drewN nq).frozen? ⟨u.heap.size, 1, none⟩ = false := d4
              clear d0 d1 d2 d3 d4 c0 c1 c2 c3 HH
              generalize wr.drewN nq = w5 at hg5 e0 e1 ⊢
              have HG5 := Lib.hid hg5
              have hsz5 : u.heap.size ≤ w5.heap.size := hg5.1.size
              clear hg5
              obtain ⟨zm, hzm⟩ : ∃ z, min (p x : Int) (p y : Int) = z := ⟨_, rfl⟩
              obtain ⟨zM, hzM⟩ : ∃ z, max (p x : Int) (p y : Int) = z := ⟨_, rfl⟩
              have HRE : Hid (renE p ((x : Int), (y : Int)) = (zm, zM)) := Lib.hid (by rw [renE, ← hzm, ← hzM]; rfl)
              have hlen : hs.length ≤ 1000000 := by omega
              go_wp2_with (at_builtin; refine wpList_app_pair1 rfl (.tmp 125) (.tmp 133) rfl u.heap.size (.slice aH hs.length cH) _ hs rfl zm zM _ rfl (by simp) HG5.out.2.2 hlen hsz5 ?_; intro g7 cp w7 hr7 hg7; have H7 := Lib.hid (And.intro (HG5.out.grow hg7) hr7); have e4 := net_cell1 H7.out.1.1; have e5 := row_free H7.out.1.1 1; clear hr7 hg7)
              go_roundw
              case rel => exact ⟨i, cp, some ⟨g7, 0, none⟩, hs ++ [(zm, zM)], by omega, by go_num, by simp; omega, Lib.hid (by rw [HD.out, List.reverse_cons, List.map_append, ← HE.out, List.map_singleton, HRE.out]), Lib.hid (HSt.push H7.out.1 H7.out.2)⟩
              case measure => simp [intOf]
end

section
open Go.ChangeShapes Go.WideShapes Go.ChangeAt Go.RowKit

theorem cellsU8 : Try.prog.cellsOf 5 = 1 := by kernel_rfl
set_option maxRecDepth 100000 in
/-- A slice of bytes, opened. -/
theorem arg_bytes {H : Type} {enc : TypeId × Value → H} {W : World} {fuel : Nat} {v : Value} {x : DataW H × List MemPlace} (hf : DataW.trod enc Try.prog W 0 (fun _ => true) true fuel 63 [v] = some x) :
    ∃ (a : Option Addr) (n cap : Nat), v = .slice a n cap ∧ n ≤ 9223372036854775807 ∧ ∀ i, i < n → ∃ b off z, a = some ⟨b, off, none⟩ ∧ W.cell? ⟨b, off + i, none⟩ = some (.int .u8 z) ∧ 0 ≤ z ∧ z ≤ 255 := by
  rcases open_ints Try.underlying63 Try.underlying5 cellsU8 hf with ⟨hcs, _⟩ | ⟨a, len, cap, zs, hcs, _, hl, hm, hz, _, hcell, hwz⟩
  · simp at hcs
    subst hcs
    exact ⟨none, 0, 0, rfl, by omega, fun i hi => by omega⟩
  · simp at hcs
    subst hcs
    simp only [if_true] at hz
    refine ⟨some a, len, cap, rfl, by unfold maxLen at hm; omega, fun i hi => ?_⟩
    obtain ⟨b, off, spot⟩ := a
    have hspot : spot = none := by simpa [Addr.add] using World.cell?_spot (hcell 0 (by omega))
    subst hspot
    have hc := hcell i (by omega)
    rw [add_plain] at hc
    have hb := u8_bd (hwz (zs.getD i 0) (by
      have hi2 : i < zs.length := by omega
      rw [List.getD_eq_getElem?_getD, List.getElem?_eq_getElem hi2]
      exact List.getElem_mem hi2))
    exact ⟨b, off, _, rfl, hc, hb.1, hb.2⟩

namespace ribNamed
set_option maxRecDepth 100000 in
theorem lifted (os : Os) (started : os.Started) (H : Type) (enc : TypeId × Value → H) :
    ReturnsInHanded {} Try.checked os 10 .any (Rows.ribNamedSpec.pre6 enc Try.prog Try.f10 Rows.ribNamedRow.domain false) (Rows.ribNamedSpec.post enc Try.prog Try.f10 false true false false) := by
  refine returnsInHanded_of_change (C := Try.checked) own_knob started (by kernel_rfl) Try.func10
    (ChangeSpec.witness6 (enc := enc) (C := Try.checked) false ⟨#[], #[.int .u8 0, .slice none 0 0, .slice none 0 0], []⟩ 8 (by kernel_rfl) (by kernel_rfl) (by kernel_rfl) (by kernel_rfl)) ?_
  intro W base args ds gs before hval0 hW hcnd _
  have hval : ∀ (j : Nat) t v, Try.f10.params[j]? = some t → args[j]? = some v → Value.okWide Try.prog W .any base t v := hval0
  have hW' := hW
  obtain ⟨p, q, hA0, hV, rfl, hfz, hnd⟩ := hW
  have hA : DataW.TrodAll enc Try.prog W 0 (fun _ => true) true Try.f10.params.toList args.toList ds p := hA0
  have hlt := hA.lt
  rw [Try.params10] at hA hval
  obtain ⟨v0, vs0, d0, ds0, p0, q0, hargs, rfl, rfl, h0, r0⟩ := trodAll_cons hA
  obtain ⟨v1, vs1, d1, ds1, p1, q1, rfl, rfl, rfl, h1, r1⟩ := trodAll_cons r0
  obtain ⟨v2, vs2, d2, ds2, p2, q2, rfl, rfl, rfl, h2, r2⟩ := trodAll_cons r1
  obtain ⟨rfl, rfl, rfl⟩ := trodAll_nil r2
  obtain rfl : args = #[v0, v1, v2] := by cases args; simp_all
  obtain ⟨rfl, rfl⟩ := trodVars_none hV
  have l1 : ∀ x ∈ p1, x.block < W.heap.size := fun x hx => hlt x (by simp [hx])
  have l2 : ∀ x ∈ p2, x.block < W.heap.size := fun x hx => hlt x (by simp [hx])
  have t1 := h1
  have t2 := h2
  obtain ⟨z0, rfl, rfl, rfl, w0⟩ := open_int Try.underlying5 (hval 0 5 v0 rfl rfl) h0
  obtain ⟨a2, len2, cap2, rfl⟩ := okWide_slice Try.underlying63 (hval 2 63 v2 rfl rfl)
  obtain ⟨fu2, hf2⟩ := h2
  obtain ⟨aP, nP, cP, e2, k1, k2⟩ := arg_bytes (v := .slice a2 len2 cap2) hf2
  cases e2
  obtain ⟨a0, len0, cap0, rfl⟩ := okWide_slice Try.underlying22 (hval 1 22 v1 rfl rfl)
  obtain ⟨fu, hf1⟩ := h1
  obtain ⟨aY, nY, cY, ys, e1, y1, y2, y3, y4, y5⟩ := arg_edges (v := .slice a0 len0 cap0) hf1
  cases e1
  clear hA0 hval0
  refine (RibNamed_any z0 a0 len0 cap0 ys a2 len2 cap2 W (u8_bd w0) y1 y2 y5 k1 k2).mono fun e W' ⟨he, hg⟩ => ?_
  subst he
  exact ⟨_, rfl, law_post (pv := []) hW' (fun _ _ _ => trodAll_cons_mk (shut_bool Try.underlying4 _) trodAll_mk0)
    (trodAll_cons_mk (shut_int Try.underlying5 w0) (trodAll_cons_mk (arg_kept (by kernel_rfl) (of_decide_eq_true (by kernel_rfl)) t1 l1 hg) (trodAll_cons_mk (arg_kept (by kernel_rfl) (of_decide_eq_true (by kernel_rfl)) t2 l2 hg) trodAll_mk0))) rfl rfl hg⟩

theorem proved : Rows.RibNamedSaid :=
  OpenClaim.holds_of_wide 10 Try.f10 rfl rfl rfl rfl rfl rfl rfl ⟨rfl, rfl, rfl, rfl, rfl⟩ rfl rfl rfl rfl rfl (by kernel_rfl) Try.func10 (by kernel_rfl)
    (of_decide_eq_true (by kernel_rfl)) (by unfold Func.isWrapper; first | (rw [if_pos (by decide +kernel)]; kernel_rfl) | (rw [if_neg (by decide +kernel)]; exact ⟨rfl, rfl⟩))
    (fun os started H enc _ => lifted os started H enc)
#print axioms proved
end ribNamed
end

end Go.Proofs.Yticafbfijpjbnaa
