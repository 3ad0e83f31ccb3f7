/-
  Slices of slices of integers, of the call's own; the walk of 'Cliques'.
-/
import Derived.Test.YthlbedhjekbfpaaDoorRu
namespace Go.Proofs.YthlbedhjekbfpaaDoor
open Go.RowKit Go.Sort

theorem info22 : (Tryd.prog.info? 26).map (fun i => (i.zero, i.size, i.bytes)) = some (some (.slice none 0 0), 1, 24) := by kernel_rfl
theorem own_types_ne {w : World} {b1 b2 s1 s2 n m : Nat} {e1 e2 : TypeId} {u v : Value} {xs ys : List Value} (h1 : w.ownsRow b1 e1 s1 u n xs) (h2 : w.ownsRow b2 e2 s2 v m ys) (hne : e1 ≠ e2) : u.ownBlock = none ∨ u.ownBlock ≠ v.ownBlock := by
  rcases h1.2 with ⟨rfl, _⟩ | ⟨g, cap, cur, rfl, _, hg, _⟩
  · exact .inl rfl
  · refine .inr fun e => ?_
    rcases h2.2 with ⟨rfl, _⟩ | ⟨g', cap', cur', rfl, _, hg', _⟩
    · cases e
    · have : g = g' := by simpa [Value.ownBlock] using e
      subst this
      rw [hg] at hg'
      simp at hg'
      exact hne hg'.2

/-- 'out = append(out, l)' of one slice of integers. -/
theorem wpList_app_row {W : World} {ops : Array Oper} {rest : List Oper} {o : Oper} {a : Act} {Q : Exit → Act → World → Prop} (hgd : o.guard = none) (s x : Operand)
    (ho : o.op = .call { callee := .builtin .append, args := #[s, x], argTypes := #[35, 35] }) (base : Nat) (v : Value) (n : Nat) (xs : List Value) (hs : a.eval s = v) (u : Value) (hu : u.oneCell' = true) (b : Nat)
    (hx : a.eval x = .slice (some ⟨b, 0, none⟩) 1 1) (hb : b = W.heap.size) (hown : W.ownsRow base 26 1 v n xs) (hn : n ≤ 1000000) (hbase : base ≤ W.heap.size)
    (h : ∀ (g cap : Nat) (w' : World), w'.ownsRow base 26 1 (.slice (some ⟨g, 0, none⟩) (n + 1) cap) (n + 1) (xs ++ [u]) → W.grownBy w' v.ownBlock → wpList Tryd.prog ops Q rest (a.put o.dst (.slice (some ⟨g, 0, none⟩) (n + 1) cap)) w') :
    wpList Tryd.prog ops Q (o :: rest) a (W.alloc (.cells #[u] 26)) := by
  obtain ⟨i0, hi, hz0, hz1, hz2⟩ := info_parts info22
  refine wpList_append_own_at _ hgd s x 35 ho base 26 i0 (.slice none 0 0) 1 24 Tryd.underlying35 hi hz0 hz1 hz2 rfl (by decide) v n xs hs (hown.alloc _) ⟨b, 0, none⟩ 1 1 [u] hx rfl (cells_new W [u] _ b hb) (by simp [hu]) (by unfold maxLen; omega) (by omega) (by simp; omega) ?_
  intro v' w' hown' hg _ _
  obtain ⟨g, cap, rfl⟩ := ownsRow_succ' hown'
  exact h g cap w' hown' (grown_alloc hg)

/-- The elements of a slice of slices. -/
def Rows (w : World) (base : Nat) (ls : List (List Int)) (vs : List Value) : Prop := ∀ i, i < ls.length → w.ownsRow base 3 1 (vs[i]?.getD undef) (ls[i]?.getD []).length ((ls[i]?.getD []).map (Value.int .i64))
/-- The word of a loop that collects slices, from nil. -/
def CollL (w : World) (ls : List (List Int)) (k : Nat) (v : Value) (wr : World) : Prop := Below w.heap.size w wr ∧ ls.length = k ∧ ∃ vs, wr.ownsRow w.heap.size 26 1 v k vs ∧ Rows wr w.heap.size ls vs
theorem CollL.start (w : World) : CollL w [] 0 (.slice none 0 0) w := ⟨Below.refl _ _, rfl, [], ⟨rfl, .inl ⟨rfl, rfl⟩⟩, fun i hi => by simp at hi⟩
theorem CollL.kept {w wr w' : World} {ls : List (List Int)} {k : Nat} {v : Value} (h : CollL w ls k v wr) (hb : Below wr.heap.size wr w') : CollL w ls k v w' := by
  obtain ⟨h1, h2, vs, h3, h4⟩ := h
  exact ⟨h1.trans (hb.mono h1.size), h2, vs, ownsRow_kept h3 hb, fun i hi => ownsRow_kept (h4 i hi) hb⟩
theorem CollL.next {w wr w2 : World} {ls : List (List Int)} {k : Nat} {v : Value} {l : List Int} {u : Value} {g cap : Nat} {vs : List Value} (h : Below w.heap.size w wr ∧ ls.length = k ∧ wr.ownsRow w.heap.size 26 1 v k vs ∧ Rows wr w.heap.size ls vs) (hu : wr.ownsRow w.heap.size 3 1 u l.length (l.map (Value.int .i64)))
    (hr : w2.ownsRow w.heap.size 26 1 (.slice (some ⟨g, 0, none⟩) (k + 1) cap) (k + 1) (vs ++ [u])) (hg : wr.grownBy w2 v.ownBlock) : CollL w (ls ++ [l]) (k + 1) (.slice (some ⟨g, 0, none⟩) (k + 1) cap) w2 := by
  obtain ⟨hb, hl, h0, he⟩ := h
  have hvl : vs.length = k := by simpa using h0.1
  refine ⟨hb.grown hg hb.size (fun q hq => (h0.lt q hq).1), by simp [hl], vs ++ [u], hr, fun i hi => ?_⟩
  rw [List.length_append, List.length_singleton] at hi
  by_cases hlt : i < ls.length
  · rw [List.getElem?_append_left hlt, List.getElem?_append_left (by omega)]
    exact (he i hlt).kept hg (own_types_ne (he i hlt) h0 (by decide))
  · obtain rfl : i = ls.length := by omega
    rw [List.getElem?_append_right (by omega), List.getElem?_append_right (by omega), hvl, hl, Nat.sub_self]
    exact hu.kept hg (own_types_ne hu h0 (by decide))
/-- What a call that hands back such a slice says of it. -/
def GivesL (ls : List (List Int)) (w : World) (v : Value) (w' : World) : Prop := ∃ a cap vs, v = .slice a ls.length cap ∧ w'.ownsRow w.heap.size 26 1 v ls.length vs ∧ Rows w' w.heap.size ls vs ∧ Below w.heap.size w w'
theorem CollL.gives {w0 w wr : World} {ls : List (List Int)} {k : Nat} {v : Value} (h : CollL w ls k v wr) (hb : Below w0.heap.size w0 w) : GivesL ls w0 v wr := by
  obtain ⟨h1, rfl, vs, h3, h4⟩ := h
  obtain ⟨a, c, rfl⟩ := ownsRow_slice h3
  exact ⟨a, c, vs, rfl, ownsRow_weaken h3 hb.size, fun i hi => ownsRow_weaken (h4 i hi) hb.size, hb.trans (h1.mono hb.size)⟩

/-- The lists of the maximal cliques. -/
def cliqueLists (gs : List Nat) : List (List Int) := (srtN (cliquesN gs)).map listI

set_option maxRecDepth 100000 in
set_option maxHeartbeats 4000000 in
theorem Cliques_any (N : Int) (a : Option Addr) (m cap : Nat) (es : List (Int × Int)) (n : Nat) (gs : List Nat) (w : World) (_hl : es.length = m) (_hm : m ≤ 1000) (_he : Edges w a es) (_hN : N = n) (h2 : n ≤ 12) (hadj : Adj n gs es) (hne : cliquesN gs ≠ [])
    (hcall : Calls Tryd.prog 33 #[.int .i64 N, .slice a m cap] w (GoodG n gs w)) :
    Calls Tryd.prog 29 #[.int .i64 N, .slice a m cap] w (fun e w' => ∃ v, e = .returned (.tuple #[v, .int .i64 0]) ∧ GivesL (cliqueLists gs) w v w') := by
  have HC := Lib.hid hcall
  have HQ := Lib.hid (fun (wx : World) (g : Nat) (hr : RowG wx g gs) => cliques_any (some ⟨g, 0, none⟩) n n gs wx hadj.len h2 (fun i _ => hadj.lt16 h2 i) hr.sets hne)
  obtain ⟨L, hL⟩ : ∃ L, srtN (cliquesN gs) = L := ⟨_, rfl⟩
  have HLL : Hid (cliqueLists gs = L.map listI) := Lib.hid (by rw [cliqueLists, hL])
  have hLl : L.length ≤ 4096 := by
    rw [← hL, srt_len, cliquesN]
    refine Nat.le_trans (cls_len _ _) ?_
    rw [hadj.len]
    exact Nat.le_trans (Nat.pow_le_pow_right (by omega) h2) (by decide)
  have HLT : Hid (∀ i, i < L.length → L[i]?.getD 0 < 65536) := Lib.hid fun i hi => by
    rw [List.getElem?_eq_getElem hi, Option.getD_some]
    have h1 : L[i] ∈ cliquesN gs := by
      have : L[i] ∈ srtN (cliquesN gs) := by rw [hL]; exact List.getElem_mem hi
      exact (List.mem_mergeSort).1 this
    have := cls_lt _ _ _ h1
    rw [hadj.len] at this
    exact Nat.lt_of_lt_of_le this (Nat.le_trans (Nat.pow_le_pow_right (by omega) h2) (by decide))
  rw [hL] at HQ
  obtain ⟨ln, hln⟩ : ∃ ln, L.length = ln := ⟨_, rfl⟩
  have HLN := Lib.hid hln
  rw [hln] at hLl
  clear _hl _he _hN hadj hne hcall hL hln
  go_enter Tryd.func29, Tryd.ntmps29
  go_wp2_with (go_at_call 33; refine HC.out.mono ?_; rintro e w1 ⟨g, rfl, hr, hge, hb⟩; have HR := Lib.hid (And.intro hr (And.intro hge hb)); clear hr hge hb)
  go_wp2_with (go_at_call 47; refine (HQ.out _ g HR.out.1).mono ?_; rintro e w2 ⟨g2, cp2, rfl, hS, hge2, hb2⟩; rw [HLN.out]; have H2 := Lib.hid (And.intro hS (HR.out.2.2.trans (hb2.mono HR.out.2.2.size))); clear hS hge2 hb2)
  go_loopw [22, 8, 10] (fun i v _ wr => ∃ k : Nat, k ≤ ln ∧ i = .int .i64 k ∧ CollL w2 ((L.take k).map listI) k v wr) (fun i _ _ _ => ln - (intOf i).toNat)
  case atStart => exact ⟨0, Nat.zero_le _, rfl, CollL.start w2⟩
  case round =>
    obtain ⟨k, hk, rfl, hC⟩ := hrel
    have HCo := Lib.hid hC
    have hsz := hC.1.size
    by_cases hlt : k < ln
    · clear hC
      have hkL : k < L.length := by rw [HLN.out]; exact hlt
      obtain ⟨b, off, e, hc⟩ := H2.out.1 k hkL
      cases e
      have cc := (HCo.out.1.cell (p := ⟨g2, 0 + k, none⟩) (World.block_lt_of_cell? w2 _ hc)).trans hc
      rw [Nat.zero_add] at cc
      have hs := HLT.out k hkL
      have HT : Hid ((L.take (k + 1)).map listI = (L.take k).map listI ++ [listI (L[k]?.getD 0)]) := Lib.hid (by rw [List.take_succ_eq_append_getElem hkL, List.map_append, List.getElem?_eq_getElem hkL]; rfl)
      have H1 := Lib.hid (list_any (L[k]?.getD 0) wr hs)
      obtain ⟨s, hss⟩ : ∃ s, L[k]?.getD 0 = s := ⟨_, rfl⟩
      rw [hss] at cc hs HT H1
      clear hc hss hkL
      go_wp2_with (fail)
      refine H1.out.mono ?_
      rintro e w3 ⟨a3, c3, rfl, hc3⟩
      have HC3 := Lib.hid (HCo.out.kept hc3.1)
      obtain ⟨hb3, hl3, vs3, hr3, he3⟩ := HC3.out
      have HU : Hid (w3.ownsRow w2.heap.size 3 1 (.slice a3 (listI s).length c3) (listI s).length ((listI s).map (Value.int .i64))) := Lib.hid (ownsRow_weaken hc3.2.2 hsz)
      have HX3 := Lib.hid (And.intro hb3 (And.intro hl3 (And.intro hr3 he3)))
      have hsz3 := hb3.size
      clear hc3 hb3 hl3 hr3 he3
      have HLS : Hid ((listN s).map (fun (x : Nat) => (x : Int)) = listI s) := Lib.hid rfl
      simp only [HLS.out]
      go_wp2_with (at_builtin; refine wpList_app_row rfl (.tmp 26) (.tmp 29) rfl w2.heap.size _ k vs3 rfl (.slice a3 (listI s).length c3) rfl _ rfl rfl HX3.out.2.2.1 (by omega) hsz3 ?_; intro g4 cp4 w4 hr4 hg4; have H4 := Lib.hid (CollL.next HX3.out HU.out hr4 hg4); clear hr4 hg4)
      go_roundw
      case rel => exact ⟨k + 1, by omega, by go_num, by rw [HT.out]; exact H4.out⟩
      case measure => simp [intOf]; omega
    · obtain rfl : k = ln := by omega
      go_wp2
      go_ret2
      refine ⟨_, rfl, ?_⟩
      have := hC.gives H2.out.2
      rw [List.take_of_length_le (by rw [HLN.out]; exact Nat.le_refl _), ← HLL.out] at this
      exact this

end Go.Proofs.YthlbedhjekbfpaaDoor
