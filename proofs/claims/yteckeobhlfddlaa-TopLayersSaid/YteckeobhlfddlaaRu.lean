/-
  Cliques, elimination orders.
-/
import Derived.Test.YteckeobhlfddlaaRt
import Derived.Deep.LoopGhost
namespace Go.Proofs.Yteckeobhlfddlaa.Rib

section
open Go.RowKit Go.Sort

/-- 'out = append(out, s)' of one set. -/
theorem wpList_app_set {W : World} {ops : Array Oper} {rest : List Oper} {o : Oper} {a : Act} {Q : Exit → Act → World → Prop} (hgd : o.guard = none) (s x : Operand)
    (ho : o.op = .call { callee := .builtin .append, args := #[s, x], argTypes := #[47, 47] }) (base : Nat) (v : Value) (n : Nat) (xs : List Value) (hs : a.eval s = v) (z : Nat) (b : Nat)
    (hx : a.eval x = .slice (some ⟨b, 0, none⟩) 1 1) (hb : b = W.heap.size) (hown : W.ownsRow base 68 1 v n xs) (hn : n ≤ 1000000) (hbase : base ≤ W.heap.size)
    (h : ∀ (g cap : Nat) (w' : World), w'.ownsRow base 68 1 (.slice (some ⟨g, 0, none⟩) (n + 1) cap) (n + 1) (xs ++ [.int .u16 (z : Int)]) → W.grownBy w' v.ownBlock → wpList Try.prog ops Q rest (a.put o.dst (.slice (some ⟨g, 0, none⟩) (n + 1) cap)) w') :
    wpList Try.prog ops Q (o :: rest) a (W.alloc (.cells #[.int .u16 (z : Int)] 68)) := by
  obtain ⟨i0, hi, hz0, hz1, hz2⟩ := info_parts Try.infoSet
  refine wpList_append_own_at _ hgd s x 47 ho base 68 i0 (.int .u16 0) 1 2 Try.underlying47 hi hz0 hz1 hz2 rfl (by decide) v n xs hs (hown.alloc _) ⟨b, 0, none⟩ 1 1 [.int .u16 (z : Int)] hx rfl (cells_new W [.int .u16 (z : Int)] _ b hb) (by simp [Value.oneCell']) (by unfold maxLen; omega) (by omega) (by simp; omega) ?_
  intro v' w' hown' hg _ _
  obtain ⟨g, cap, rfl⟩ := ownsRow_succ' hown'
  exact h g cap w' hown' (grown_alloc hg)

/-- The word of a loop that collects sets, from nil. -/
def CollS (w : World) (l : List Nat) (k : Nat) (v : Value) (wr : World) : Prop := Below w.heap.size w wr ∧ l.length = k ∧ wr.ownsRow w.heap.size 68 1 v k (l.map fun (x : Nat) => Value.int .u16 x)
theorem CollS.start (w : World) : CollS w [] 0 (.slice none 0 0) w := ⟨Below.refl _ _, rfl, rfl, .inl ⟨rfl, rfl⟩⟩
theorem CollS.next {w wr w2 : World} {l : List Nat} {k : Nat} {v : Value} {z : Nat} {g cap : Nat} (h : CollS w l k v wr) (hr : w2.ownsRow w.heap.size 68 1 (.slice (some ⟨g, 0, none⟩) (k + 1) cap) (k + 1) ((l.map fun (x : Nat) => Value.int .u16 x) ++ [.int .u16 (z : Int)])) (hg : wr.grownBy w2 v.ownBlock) : CollS w (l ++ [z]) (k + 1) (.slice (some ⟨g, 0, none⟩) (k + 1) cap) w2 := by
  obtain ⟨hb, hl, h0⟩ := h
  exact ⟨hb.grown hg hb.size (fun q hq => (h0.lt q hq).1), by simp [hl], by simpa using hr⟩
theorem CollS.drewN {w wr : World} {l : List Nat} {k : Nat} {v : Value} (h : CollS w l k v wr) (q : Nat) : CollS w l k v (wr.drewN q) := ⟨below_drewN h.1 q, h.2⟩

/-- Whether a set is a maximal clique: its nodes, and no others, are neighbours of all its other nodes. -/
def maxB (gs : List Nat) (s v : Nat) : Bool := s.testBit v == subB (gs[v]?.getD 0) s
def maxAt (gs : List Nat) (s : Nat) : Bool := (List.range gs.length).all (maxB gs s)
def clsTo (gs : List Nat) (k : Nat) : List Nat := (List.range k).filter (maxAt gs)
def cliquesN (gs : List Nat) : List Nat := clsTo gs (2 ^ gs.length)
theorem cls_yes {gs : List Nat} {k : Nat} (h : maxAt gs k = true) : clsTo gs (k + 1) = clsTo gs k ++ [k] := by simp [clsTo, List.range_succ, h]
theorem cls_no {gs : List Nat} {k : Nat} (h : maxAt gs k = false) : clsTo gs (k + 1) = clsTo gs k := by simp [clsTo, List.range_succ, h]
theorem cls_len (gs : List Nat) (k : Nat) : (clsTo gs k).length ≤ k := Nat.le_trans (List.length_filter_le _ _) (by simp)
theorem cls_lt (gs : List Nat) (k : Nat) : ∀ x ∈ clsTo gs k, x < k := fun _ hx => List.mem_range.1 (List.mem_filter.1 hx).1

/-- What 'cliques' hands back. -/
def GivesS (L : List Nat) (w : World) (e : Ending) (w' : World) : Prop := ∃ g cap, e = .returned (.slice (some ⟨g, 0, none⟩) L.length cap) ∧ Sets w' (some ⟨g, 0, none⟩) L ∧ w.heap.size ≤ g ∧ Below w.heap.size w w'
theorem srt_len (L : List Nat) : (srtN L).length = L.length := List.length_mergeSort _

set_option maxRecDepth 100000 in
set_option maxHeartbeats 4000000 in
theorem cliques_any (a : Option Addr) (n cap : Nat) (gs : List Nat) (w : World) (hn : gs.length = n) (hm : n ≤ 12) (hg : ∀ i, i < n → gs[i]?.getD 0 < 65536) (hz : Sets w a gs) (hne : cliquesN gs ≠ []) :
    Calls Try.prog 19 #[.slice a n cap] w (GivesS (srtN (cliquesN gs)) w) := by
  have HX := Lib.hid hz.at
  have HN := Lib.hid hn
  have HG := Lib.hid hg
  have hw := wrap_one n (by omega)
  have hF0 : 2 ^ n ≤ 4096 := Nat.le_trans (Nat.pow_le_pow_right (by omega) hm) (by decide)
  have HC : Hid (cliquesN gs = clsTo gs (2 ^ n)) := Lib.hid (by rw [cliquesN, hn])
  have HNE := Lib.hid hne
  obtain ⟨F, hF⟩ : ∃ F, 2 ^ n = F := ⟨_, rfl⟩
  rw [hF] at hw hF0 HC
  clear hz hn hg hF hne
  go_enter Try.func19, Try.ntmps19
  go_wp2
  go_step3
  go_wp2
  go_step3
  go_wp2
  clear hw
  go_loopg [9, 3, 4, 5, 14] F (fun g s9 s3 _ _ _ wx => ∃ s q : Nat, s + g = F ∧ s9 = .int .u16 s ∧ q ≤ s ∧ CollS w (clsTo gs s) q s3 wx)
  case atStart => exact ⟨0, 0, by omega, rfl, Nat.le_refl _, CollS.start w⟩
  case round =>
    obtain ⟨s, q, hsg, rfl, hqs, hC⟩ := hrel
    have HCo := Lib.hid hC
    have hsz := hC.1.size
    cases gk with
    | zero =>
      obtain rfl : s = F := by omega
      obtain ⟨g0, cp0, rfl⟩ : ∃ g0 cp0, u3 = .slice (some ⟨g0, 0, none⟩) q cp0 := by
        rcases hC.2.2.2 with ⟨_, h0⟩ | ⟨g, c, cur, e, _⟩
        · exact absurd (List.eq_nil_of_length_eq_zero (by rw [hC.2.1, h0])) (by rw [← HC.out]; exact HNE.out)
        · exact ⟨g, c, e⟩
      have hql := hC.2.1
      have HS := Lib.hid (sortSets_any w.heap.size g0 cp0 (clsTo gs s) wr (fun x hx => by have := cls_lt gs s x hx; omega) (hC.2.2.lt g0 rfl).1 (by rw [hql]; exact hC.2.2) (by have := cls_len gs s; omega) (by rw [← HC.out]; exact HNE.out))
      have hge := (hC.2.2.lt g0 rfl).1
      rw [hql] at HS
      have HQ := Lib.hid hql
      have HGE := Lib.hid hge
      clear hC hql hge
      have hsz0 : ¬ ((s : Int) < (s : Int)) := by omega
      go_wp2_with (go_at_call 33; refine HS.out.mono ?_; rintro e w' ⟨rfl, hset, hb'⟩; have HE := Lib.hid (And.intro hset hb'); clear hset hb')
      rw [Exit.noGoto_ret]
      go_ret
      rw [HC.out]
      refine ⟨g0, cp0, ?_, HE.out.1, HGE.out, HCo.out.1.trans HE.out.2⟩
      rw [srt_len, HQ.out]; rfl
    | succ g =>
      have hlt : s < F := by omega
      have hltI : (s : Int) < (F : Int) := by omega
      have hs16 : s < 65536 := by omega
      clear hC
      go_wp2
      go_loopg [14, 5] n (fun g2 s14 _ wy => ∃ j : Nat, j + g2 = n ∧ s14 = .int .i64 j ∧ (List.range j).all (maxB gs s) = true ∧ CollS w (clsTo gs s) q u3 wy)
      case atStart => exact ⟨0, by omega, rfl, rfl, HCo.out⟩
      case round =>
        obtain ⟨j, hjg, rfl, hall, hC2⟩ := hrel
        have HA := Lib.hid hall
        have HC2 := Lib.hid hC2
        have hsz2 := hC2.1.size
        clear hall hC2
        cases gk with
        | zero =>
          obtain rfl : j = n := by omega
          have hjj : ¬ ((j : Int) < (j : Int)) := by omega
          have HY := Lib.hid (cls_yes (gs := gs) (k := s) (by rw [maxAt, HN.out]; exact HA.out))
          go_wp2_with (at_builtin; refine wpList_app_set rfl (.tmp 28) (.tmp 30) rfl w.heap.size _ _ _ rfl s _ rfl rfl HC2.out.2.2 (by omega) hsz2 ?_; intro g4 cp w2 hr2 hg2; have H2 := Lib.hid (HC2.out.next hr2 hg2); clear hr2 hg2)
          go_roundg g
          case measure => omega
          case rel => exact ⟨s + 1, q + 1, by omega, by first | rfl | go_num, by omega, by rw [HY.out]; exact H2.out⟩
        | succ g2 =>
          have hjn : j < n := by omega
          have hjnI : (j : Int) < (n : Int) := by omega
          have hjL : j < gs.length := by rw [HN.out]; exact hjn
          rcases HX.out with h | ⟨b, off, rfl, hc⟩
          · subst h; simp at hjL
          have cc := (HC2.out.1.cell (p := ⟨b, off + j, none⟩) (World.block_lt_of_cell? w _ (hc j hjL))).trans (hc j hjL)
          have hgj := HG.out j hjn
          have HM : Hid (maxB gs s j = (s.testBit j == subB (gs[j]?.getD 0) s)) := Lib.hid rfl
          have HNX := Lib.hid (fun h => range_next (maxB gs s) j HA.out h)
          have HST := Lib.hid (fun h => cls_no (gs := gs) (k := s) (by rw [maxAt, HN.out]; exact range_false (maxB gs s) n j hjn h))
          have H1 := Lib.hid (fun wx => has_any s j wx hs16 (by omega))
          obtain ⟨y, hy⟩ : ∃ y, gs[j]?.getD 0 = y := ⟨_, rfl⟩
          rw [hy] at cc hgj HM
          have H2 := Lib.hid (fun wx => contains_any y s wx hgj hs16)
          obtain ⟨p1, hp1⟩ : ∃ p, s.testBit j = p := ⟨_, rfl⟩
          obtain ⟨p2, hp2⟩ : ∃ p, subB y s = p := ⟨_, rfl⟩
          rw [hp1] at H1 HM
          rw [hp2] at H2 HM
          clear hc hy hp1 hp2 hjL
          cases p1 <;> cases p2
          all_goals first
            | (have HD := Lib.hid (HNX.out HM.out)
               clear HNX HST HM
               go_wp2
               go_quiet ((first | (with_reducible exact quiet_same (H1.out _)) | (with_reducible exact quiet_same (H2.out _))))
               go_wp2
               go_roundg g2
               case measure => omega
               case rel => exact ⟨j + 1, by omega, by first | rfl | go_num, HD.out, HC2.out.drewN _⟩)
            | (have HD := Lib.hid (HST.out HM.out)
               clear HNX HST HM
               go_wp2
               go_quiet ((first | (with_reducible exact quiet_same (H1.out _)) | (with_reducible exact quiet_same (H2.out _))))
               go_wp2
               go_roundg g
               case measure => omega
               case rel => exact ⟨s + 1, q, by omega, by first | rfl | go_num, by omega, by rw [HD.out]; exact HC2.out.drewN _⟩)
end

section
open Go.RowKit Go.Sort

theorem info22 : (Try.prog.info? 22).map (fun i => (i.zero, i.size, i.bytes)) = some (some (.slice none 0 0), 1, 24) := by kernel_rfl
theorem own_types_ne {w : World} {b1 b2 s1 s2 n m : Nat} {e1 e2 : TypeId} {u v : Value} {xs ys : List Value} (h1 : w.ownsRow b1 e1 s1 u n xs) (h2 : w.ownsRow b2 e2 s2 v m ys) (hne : e1 ≠ e2) : u.ownBlock = none ∨ u.ownBlock ≠ v.ownBlock := by
  rcases h1.2 with ⟨rfl, _⟩ | ⟨g, cap, cur, rfl, _, hg, _⟩
  · exact .inl rfl
  · refine .inr fun e => ?_
    rcases h2.2 with ⟨rfl, _⟩ | ⟨g', cap', cur', rfl, _, hg', _⟩
    · cases e
    · have : g = g' := by simpa [Value.ownBlock] using e
      subst this
      rw [hg] at hg'
      simp at hg'
      exact hne hg'.2

/-- The elements of a slice of slices. -/
def Rows (w : World) (base : Nat) (ls : List (List Int)) (vs : List Value) : Prop := ∀ i, i < ls.length → w.ownsRow base 3 1 (vs[i]?.getD undef) (ls[i]?.getD []).length ((ls[i]?.getD []).map (Value.int .i64))
/-- The word of a loop that collects slices, from nil. -/
def CollL (w : World) (ls : List (List Int)) (k : Nat) (v : Value) (wr : World) : Prop := Below w.heap.size w wr ∧ ls.length = k ∧ ∃ vs, wr.ownsRow w.heap.size 22 1 v k vs ∧ Rows wr w.heap.size ls vs
theorem CollL.start (w : World) : CollL w [] 0 (.slice none 0 0) w := ⟨Below.refl _ _, rfl, [], ⟨rfl, .inl ⟨rfl, rfl⟩⟩, fun i hi => by simp at hi⟩
theorem CollL.kept {w wr w' : World} {ls : List (List Int)} {k : Nat} {v : Value} (h : CollL w ls k v wr) (hb : Below wr.heap.size wr w') : CollL w ls k v w' := by
  obtain ⟨h1, h2, vs, h3, h4⟩ := h
  exact ⟨h1.trans (hb.mono h1.size), h2, vs, ownsRow_kept h3 hb, fun i hi => ownsRow_kept (h4 i hi) hb⟩
theorem CollL.next {w wr w2 : World} {ls : List (List Int)} {k : Nat} {v : Value} {l : List Int} {u : Value} {g cap : Nat} {vs : List Value} (h : Below w.heap.size w wr ∧ ls.length = k ∧ wr.ownsRow w.heap.size 22 1 v k vs ∧ Rows wr w.heap.size ls vs) (hu : wr.ownsRow w.heap.size 3 1 u l.length (l.map (Value.int .i64)))
    (hr : w2.ownsRow w.heap.size 22 1 (.slice (some ⟨g, 0, none⟩) (k + 1) cap) (k + 1) (vs ++ [u])) (hg : wr.grownBy w2 v.ownBlock) : CollL w (ls ++ [l]) (k + 1) (.slice (some ⟨g, 0, none⟩) (k + 1) cap) w2 := by
  obtain ⟨hb, hl, h0, he⟩ := h
  have hvl : vs.length = k := by simpa using h0.1
  refine ⟨hb.grown hg hb.size (fun q hq => (h0.lt q hq).1), by simp [hl], vs ++ [u], hr, fun i hi => ?_⟩
  rw [List.length_append, List.length_singleton] at hi
  by_cases hlt : i < ls.length
  · rw [List.getElem?_append_left hlt, List.getElem?_append_left (by omega)]
    exact (he i hlt).kept hg (own_types_ne (he i hlt) h0 (by decide))
  · obtain rfl : i = ls.length := by omega
    rw [List.getElem?_append_right (by omega), List.getElem?_append_right (by omega), hvl, hl, Nat.sub_self]
    exact hu.kept hg (own_types_ne hu h0 (by decide))
/-- What a call that hands back such a slice says of it. -/
def GivesL (ls : List (List Int)) (w : World) (v : Value) (w' : World) : Prop := ∃ a cap vs, v = .slice a ls.length cap ∧ w'.ownsRow w.heap.size 22 1 v ls.length vs ∧ Rows w' w.heap.size ls vs ∧ Below w.heap.size w w'
theorem CollL.gives {w0 w wr : World} {ls : List (List Int)} {k : Nat} {v : Value} (h : CollL w ls k v wr) (hb : Below w0.heap.size w0 w) : GivesL ls w0 v wr := by
  obtain ⟨h1, rfl, vs, h3, h4⟩ := h
  obtain ⟨a, c, rfl⟩ := ownsRow_slice h3
  exact ⟨a, c, vs, rfl, ownsRow_weaken h3 hb.size, fun i hi => ownsRow_weaken (h4 i hi) hb.size, hb.trans (h1.mono hb.size)⟩

/-- The lists of the maximal cliques. -/
def cliqueLists (gs : List Nat) : List (List Int) := (srtN (cliquesN gs)).map listI
end

section
open Go.RowKit Go.Sort

theorem take_eq_step {xs ys : List Int} (k : Nat) (hx : k < xs.length) (hy : k < ys.length) (h : xs.take k = ys.take k) (e : xs[k]?.getD 0 = ys[k]?.getD 0) : xs.take (k + 1) = ys.take (k + 1) := by
  rw [List.getElem?_eq_getElem hx, List.getElem?_eq_getElem hy, Option.getD_some, Option.getD_some] at e
  rw [List.take_succ_eq_append_getElem hx, List.take_succ_eq_append_getElem hy, h, e]

theorem lt_of_row {w : World} {g : Nat} {gs : List Nat} (h : RowG w g gs) : g < w.heap.size := (Array.getElem?_eq_some_iff.1 h).1
/-- The order that 'chordalOf' finds. -/
def ordN (n : Nat) (gs : List Nat) : List Nat := elimAll gs (2 ^ n - 1 + 1) (2 ^ n - 1)
def ordI (n : Nat) (gs : List Nat) : List Int := (ordN n gs).map fun (x : Nat) => (x : Int)
/-- What 'chordalOf' hands back of a valid graph. -/
def ChordV (n : Nat) (gs : List Nat) (w : World) (e : Ending) (w' : World) : Prop := Below w.heap.size w w' ∧
  (if (ordI n gs).length < n then e = .returned (.tuple #[.slice none 0 0, .slice none 0 0, .int .i64 5])
   else ∃ g a c, e = .returned (.tuple #[.slice (some ⟨g, 0, none⟩) n n, .slice a (ordI n gs).length c, .int .i64 0]) ∧ RowG w' g gs ∧ w.heap.size ≤ g ∧ w'.ownsRow w.heap.size 3 1 (.slice a (ordI n gs).length c) (ordI n gs).length ((ordI n gs).map (Value.int .i64)))

set_option maxRecDepth 100000 in
set_option maxHeartbeats 2000000 in
theorem chordalOf_any (N : Int) (a : Option Addr) (m cap : Nat) (es : List (Int × Int)) (n : Nat) (gs : List Nat) (w : World) (hN : N = n) (h2 : n ≤ 12) (hadj : Adj n gs es)
    (hcall : Calls Try.prog 14 #[.int .i64 N, .slice a m cap] w (GoodG n gs w)) :
    Calls Try.prog 17 #[.int .i64 N, .slice a m cap] w (ChordV n gs w) := by
  have HC := Lib.hid hcall
  have H3 := Lib.hid (fun (wx : World) (g : Nat) => nodes_any (some ⟨g, 0, none⟩) n n wx h2)
  have HQ := Lib.hid (fun (wx : World) (g : Nat) (hr : RowG wx g gs) => eliminated_any (some ⟨g, 0, none⟩) n n (2 ^ n - 1) gs wx hadj.len h2 (pow_small h2) (fun i _ => hadj.lt16 h2 i) hr.sets)
  have HO : Hid ((elimAll gs (2 ^ n - 1 + 1) (2 ^ n - 1)).map (fun (x : Nat) => (x : Int)) = ordI n gs) := Lib.hid rfl
  rw [HO.out] at HQ
  obtain ⟨L, hL⟩ : ∃ L, ordI n gs = L := ⟨_, rfl⟩
  have HL := Lib.hid hL
  rw [hL] at HQ
  have hLl : L.length ≤ 65536 := by
    rw [← hL, ordI, List.length_map]
    have key : ∀ (f left : Nat), (elimAll gs f left).length ≤ f := by
      intro f
      induction f with
      | zero => intro left; simp [elimAll]
      | succ f ih =>
        intro left
        rw [elimAll]
        cases elimOf gs left with
        | none => simp
        | some v => simp only [List.length_cons]; have := ih (left &&& (65535 - 2 ^ v)); omega
    have := key (2 ^ n - 1 + 1) (2 ^ n - 1)
    have := pow_small h2
    unfold ordN
    omega
  obtain ⟨F, hF⟩ : ∃ F, 2 ^ n - 1 = F := ⟨_, rfl⟩
  rw [hF] at H3 HQ
  subst hN
  clear hadj hcall HO hL hF
  obtain ⟨q, hq⟩ : ∃ q, L.length = q := ⟨_, rfl⟩
  have HLq := Lib.hid hq
  rw [hq] at hLl
  clear hq
  by_cases hlt : q < n
  · have hltI : (q : Int) < (n : Int) := by omega
    go_enter Try.func17, Try.ntmps17
    go_wp2_with (go_at_call 14; refine HC.out.mono ?_; rintro e w1 ⟨g, rfl, hr, hge, hb⟩; have HR := Lib.hid (And.intro hr (And.intro hge hb)); clear hr hge hb)
    go_wp2_with (first
      | (go_at_call 30; refine (H3.out _ g).mono ?_; rintro e w2 ⟨rfl, rfl⟩)
      | (go_at_call 29; refine (HQ.out _ g HR.out.1).mono ?_; rintro e w3 ⟨a3, c3, rfl, hc3⟩; rw [HLq.out] at hc3 ⊢; have H4 := Lib.hid hc3; clear hc3))
    go_ret3
    refine ⟨HR.out.2.2.trans (H4.out.1.mono HR.out.2.2.size), ?_⟩
    rw [HL.out, HLq.out, if_pos hlt]
    rfl
  · have hltI : ¬ ((q : Int) < (n : Int)) := by omega
    go_enter Try.func17, Try.ntmps17
    go_wp2_with (go_at_call 14; refine HC.out.mono ?_; rintro e w1 ⟨g, rfl, hr, hge, hb⟩; have HR := Lib.hid (And.intro hr (And.intro hge hb)); clear hr hge hb)
    go_wp2_with (first
      | (go_at_call 30; refine (H3.out _ g).mono ?_; rintro e w2 ⟨rfl, rfl⟩)
      | (go_at_call 29; refine (HQ.out _ g HR.out.1).mono ?_; rintro e w3 ⟨a3, c3, rfl, hc3⟩; rw [HLq.out] at hc3 ⊢; have H4 := Lib.hid hc3; clear hc3))
    go_ret3
    refine ⟨HR.out.2.2.trans (H4.out.1.mono HR.out.2.2.size), ?_⟩
    rw [HL.out, HLq.out, if_neg hlt]
    exact ⟨g, a3, c3, rfl, row_below HR.out.1 H4.out.1 (lt_of_row HR.out.1), HR.out.2.1, ownsRow_weaken H4.out.2.2 HR.out.2.2.size⟩

/-- What 'Order' hands back of a valid graph. -/
def OrderV (n : Nat) (gs : List Nat) (w : World) (e : Ending) (w' : World) : Prop := Below w.heap.size w w' ∧
  (if (ordI n gs).length < n then e = .returned (.tuple #[.slice none 0 0, .int .i64 5])
   else ∃ a c, e = .returned (.tuple #[.slice a (ordI n gs).length c, .int .i64 0]) ∧ w'.ownsRow w.heap.size 3 1 (.slice a (ordI n gs).length c) (ordI n gs).length ((ordI n gs).map (Value.int .i64)))
set_option maxRecDepth 100000 in
set_option maxHeartbeats 2000000 in
theorem Order_any (N : Int) (a : Option Addr) (m cap : Nat) (es : List (Int × Int)) (n : Nat) (gs : List Nat) (w : World) (hN : N = n) (h2 : n ≤ 12) (hadj : Adj n gs es)
    (hcall : Calls Try.prog 14 #[.int .i64 N, .slice a m cap] w (GoodG n gs w)) :
    Calls Try.prog 8 #[.int .i64 N, .slice a m cap] w (OrderV n gs w) := by
  have HC := Lib.hid (chordalOf_any N a m cap es n gs w hN h2 hadj hcall)
  subst hN
  clear hadj hcall
  by_cases hlt : (ordI n gs).length < n
  · have HLT := Lib.hid hlt
    clear hlt
    go_enter Try.func8, Try.ntmps8
    go_wp2_with (go_at_call 17; refine HC.out.mono ?_; rintro e w1 ⟨hb, h⟩; rw [if_pos HLT.out] at h; subst h)
    go_ret2
    exact ⟨hb, by rw [if_pos HLT.out]; rfl⟩
  · have HLT := Lib.hid hlt
    clear hlt
    go_enter Try.func8, Try.ntmps8
    go_wp2_with (go_at_call 17; refine HC.out.mono ?_; rintro e w1 ⟨hb, h⟩; rw [if_neg HLT.out] at h; obtain ⟨g, a1, c1, rfl, hr, hge, hown⟩ := h; have HO := Lib.hid hown; clear hown hr)
    go_ret2
    exact ⟨hb, by rw [if_neg HLT.out]; exact ⟨_, _, rfl, HO.out⟩⟩
end

section
open Go.RowKit Go.Sort

def pathE : List (Int × Int) := [(0, 1), (1, 2)]
theorem path_good : graphR 3 pathE = true := by decide +kernel
theorem path_graph : graphN 3 pathE = some [3, 7, 6] := by decide +kernel
theorem path_cliques : cliquesN [3, 7, 6] = [3, 6] := by decide +kernel
theorem path_lists : (srtN [3, 6]).map listI = [[0, 1], [1, 2]] := by
  rw [srtN, List.mergeSort_of_pairwise (by decide +kernel)]
  decide +kernel
theorem path_order : ordI 3 [3, 7, 6] = [0, 1, 2] := by decide +kernel
theorem path_perm : permR [0, 1, 2] 3 = true := by decide +kernel

theorem path_at {N : Int} {es : List (Int × Int)} {n : Nat} {gs : List Nat} (h : graphN N es = some gs) (hN : N = n) (hc : ∃ (m : Nat) (gs' : List Nat), N = m ∧ graphN N es = some gs' ∧ Adj m gs' es) : Adj n gs es := by
  obtain ⟨m, gs', h1, h2, h3⟩ := hc
  rw [h] at h2
  cases h2
  obtain rfl : m = n := by omega
  exact h3
theorem path_adj : Adj 3 [3, 7, 6] pathE := by
  obtain ⟨m, gs, h1, _, _, h4, _, h6⟩ := graphN_good path_good
  exact path_at path_graph rfl ⟨m, gs, h1, h4, h6⟩
theorem path_call (b : Nat) (w : World) (he : Edges w (some ⟨b, 0, none⟩) pathE) : Calls Try.prog 14 #[.int .i64 3, .slice (some ⟨b, 0, none⟩) 2 2] w (GoodG 3 [3, 7, 6] w) := by
  obtain ⟨n, gs, h1, _, _, h4, hcall⟩ := graphOf_good path_good
  obtain rfl : n = 3 := by omega
  have hc := hcall (some ⟨b, 0, none⟩) 2 2 w rfl (by omega) he
  have e : gs = [3, 7, 6] := by
    refine List.ext_getElem (by rw [h4.len]; rfl) fun i h1' h2' => ?_
    have hi : i < 3 := h2'
    refine Nat.eq_of_testBit_eq fun k => ?_
    have a := h4.bit i k hi
    have c := path_adj.bit i k hi
    rw [List.getElem?_eq_getElem h1'] at a
    rw [List.getElem?_eq_getElem h2'] at c
    exact a.trans c.symm
  rw [e] at hc
  exact hc

/-- Two lists, read. -/
theorem GivesL.two {l0 l1 : List Int} {w w' : World} {v : Value} (h : GivesL [l0, l1] w v w') : ∃ g cap a0 c0 a1 c1, v = .slice (some ⟨g, 0, none⟩) 2 cap ∧ w'.cell? ⟨g, 0, none⟩ = some (.slice a0 l0.length c0) ∧ w'.cell? ⟨g, 1, none⟩ = some (.slice a1 l1.length c1) ∧ Ints w' a0 l0 ∧ Ints w' a1 l1 ∧ Below w.heap.size w w' := by
  obtain ⟨a, cap, vs, rfl, hown, hrow, hb⟩ := h
  have h0 := hrow 0 (by simp)
  have h1 := hrow 1 (by simp)
  obtain ⟨a0, c0, e0⟩ := ownsRow_slice h0
  obtain ⟨a1, c1, e1⟩ := ownsRow_slice h1
  have hvl : vs.length = 2 := by simpa using hown.1
  obtain ⟨u0, u1, rfl⟩ : ∃ u0 u1, vs = [u0, u1] := by
    match vs, hvl with
    | [u0, u1], _ => exact ⟨u0, u1, rfl⟩
  simp only [List.getElem?_cons_zero, List.getElem?_cons_succ, Option.getD_some] at h0 h1 e0 e1
  subst e0 e1
  rcases hown.2 with ⟨e, h⟩ | ⟨g, cap', cur, e, _⟩
  · simp at h
  · cases e
    refine ⟨g, cap, a0, c0, a1, c1, rfl, hown.cellAt 0 (by simp), hown.cellAt 1 (by simp), Ints.of_owns h0, Ints.of_owns h1, hb⟩

theorem Ints.of_row {w : World} {b : Nat} {l : List Int} (h : w.heap[b]? = some (.cells (l.map (Value.int .i64)).toArray 3 (0, 0))) : Ints w (some ⟨b, 0, none⟩) l := fun i hi => ⟨b, 0, rfl, by rw [Nat.zero_add]; exact row_at h hi⟩
end

end Go.Proofs.Yteckeobhlfddlaa.Rib
