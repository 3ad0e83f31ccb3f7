/-
  The walk of 'cliques'.
-/
import Derived.Test.YthlbedhjekbfpaaDoorRt
import Derived.Deep.LoopGhost
namespace Go.Proofs.YthlbedhjekbfpaaDoor
open Go.RowKit Go.Sort

/-- 'out = append(out, s)' of one set. -/
theorem wpList_app_set {W : World} {ops : Array Oper} {rest : List Oper} {o : Oper} {a : Act} {Q : Exit → Act → World → Prop} (hgd : o.guard = none) (s x : Operand)
    (ho : o.op = .call { callee := .builtin .append, args := #[s, x], argTypes := #[59, 59] }) (base : Nat) (v : Value) (n : Nat) (xs : List Value) (hs : a.eval s = v) (z : Nat) (b : Nat)
    (hx : a.eval x = .slice (some ⟨b, 0, none⟩) 1 1) (hb : b = W.heap.size) (hown : W.ownsRow base 67 1 v n xs) (hn : n ≤ 1000000) (hbase : base ≤ W.heap.size)
    (h : ∀ (g cap : Nat) (w' : World), w'.ownsRow base 67 1 (.slice (some ⟨g, 0, none⟩) (n + 1) cap) (n + 1) (xs ++ [.int .u16 (z : Int)]) → W.grownBy w' v.ownBlock → wpList Tryd.prog ops Q rest (a.put o.dst (.slice (some ⟨g, 0, none⟩) (n + 1) cap)) w') :
    wpList Tryd.prog ops Q (o :: rest) a (W.alloc (.cells #[.int .u16 (z : Int)] 67)) := by
  obtain ⟨i0, hi, hz0, hz1, hz2⟩ := info_parts Tryd.infoSet
  refine wpList_append_own_at _ hgd s x 59 ho base 67 i0 (.int .u16 0) 1 2 Tryd.underlying59 hi hz0 hz1 hz2 rfl (by decide) v n xs hs (hown.alloc _) ⟨b, 0, none⟩ 1 1 [.int .u16 (z : Int)] hx rfl (cells_new W [.int .u16 (z : Int)] _ b hb) (by simp [Value.oneCell']) (by unfold maxLen; omega) (by omega) (by simp; omega) ?_
  intro v' w' hown' hg _ _
  obtain ⟨g, cap, rfl⟩ := ownsRow_succ' hown'
  exact h g cap w' hown' (grown_alloc hg)

/-- The word of a loop that collects sets, from nil. -/
def CollS (w : World) (l : List Nat) (k : Nat) (v : Value) (wr : World) : Prop := Below w.heap.size w wr ∧ l.length = k ∧ wr.ownsRow w.heap.size 67 1 v k (l.map fun (x : Nat) => Value.int .u16 x)
theorem CollS.start (w : World) : CollS w [] 0 (.slice none 0 0) w := ⟨Below.refl _ _, rfl, rfl, .inl ⟨rfl, rfl⟩⟩
theorem CollS.next {w wr w2 : World} {l : List Nat} {k : Nat} {v : Value} {z : Nat} {g cap : Nat} (h : CollS w l k v wr) (hr : w2.ownsRow w.heap.size 67 1 (.slice (some ⟨g, 0, none⟩) (k + 1) cap) (k + 1) ((l.map fun (x : Nat) => Value.int .u16 x) ++ [.int .u16 (z : Int)])) (hg : wr.grownBy w2 v.ownBlock) : CollS w (l ++ [z]) (k + 1) (.slice (some ⟨g, 0, none⟩) (k + 1) cap) w2 := by
  obtain ⟨hb, hl, h0⟩ := h
  exact ⟨hb.grown hg hb.size (fun q hq => (h0.lt q hq).1), by simp [hl], by simpa using hr⟩
theorem CollS.drewN {w wr : World} {l : List Nat} {k : Nat} {v : Value} (h : CollS w l k v wr) (q : Nat) : CollS w l k v (wr.drewN q) := ⟨below_drewN h.1 q, h.2⟩

/-- Whether a set is a maximal clique: its nodes, and no others, are neighbours of all its other nodes. -/
def maxB (gs : List Nat) (s v : Nat) : Bool := s.testBit v == subB (gs[v]?.getD 0) s
def maxAt (gs : List Nat) (s : Nat) : Bool := (List.range gs.length).all (maxB gs s)
def clsTo (gs : List Nat) (k : Nat) : List Nat := (List.range k).filter (maxAt gs)
def cliquesN (gs : List Nat) : List Nat := clsTo gs (2 ^ gs.length)
theorem cls_yes {gs : List Nat} {k : Nat} (h : maxAt gs k = true) : clsTo gs (k + 1) = clsTo gs k ++ [k] := by simp [clsTo, List.range_succ, h]
theorem cls_no {gs : List Nat} {k : Nat} (h : maxAt gs k = false) : clsTo gs (k + 1) = clsTo gs k := by simp [clsTo, List.range_succ, h]
theorem cls_len (gs : List Nat) (k : Nat) : (clsTo gs k).length ≤ k := Nat.le_trans (List.length_filter_le _ _) (by simp)
theorem cls_lt (gs : List Nat) (k : Nat) : ∀ x ∈ clsTo gs k, x < k := fun _ hx => List.mem_range.1 (List.mem_filter.1 hx).1

/-- What 'cliques' hands back. -/
def GivesS (L : List Nat) (w : World) (e : Ending) (w' : World) : Prop := ∃ g cap, e = .returned (.slice (some ⟨g, 0, none⟩) L.length cap) ∧ Sets w' (some ⟨g, 0, none⟩) L ∧ w.heap.size ≤ g ∧ Below w.heap.size w w'
theorem srt_len (L : List Nat) : (srtN L).length = L.length := List.length_mergeSort _

set_option maxRecDepth 100000 in
set_option maxHeartbeats 4000000 in
theorem cliques_any (a : Option Addr) (n cap : Nat) (gs : List Nat) (w : World) (hn : gs.length = n) (hm : n ≤ 12) (hg : ∀ i, i < n → gs[i]?.getD 0 < 65536) (hz : Sets w a gs) (hne : cliquesN gs ≠ []) :
    Calls Tryd.prog 47 #[.slice a n cap] w (GivesS (srtN (cliquesN gs)) w) := by
  have HX := Lib.hid hz.at
  have HN := Lib.hid hn
  have HG := Lib.hid hg
  have hw := wrap_one n (by omega)
  have hF0 : 2 ^ n ≤ 4096 := Nat.le_trans (Nat.pow_le_pow_right (by omega) hm) (by decide)
  have HC : Hid (cliquesN gs = clsTo gs (2 ^ n)) := Lib.hid (by rw [cliquesN, hn])
  have HNE := Lib.hid hne
  obtain ⟨F, hF⟩ : ∃ F, 2 ^ n = F := ⟨_, rfl⟩
  rw [hF] at hw hF0 HC
  clear hz hn hg hF hne
  go_enter Tryd.func47, Tryd.ntmps47
  go_wp2
  go_step3
  go_wp2
  go_step3
  go_wp2
  clear hw
  go_loopg [9, 3, 4, 5, 14] F (fun g s9 s3 _ _ _ wx => ∃ s q : Nat, s + g = F ∧ s9 = .int .u16 s ∧ q ≤ s ∧ CollS w (clsTo gs s) q s3 wx)
  case atStart => exact ⟨0, 0, by omega, rfl, Nat.le_refl _, CollS.start w⟩
  case round =>
    obtain ⟨s, q, hsg, rfl, hqs, hC⟩ := hrel
    have HCo := Lib.hid hC
    have hsz := hC.1.size
    cases gk with
    | zero =>
      obtain rfl : s = F := by omega
      obtain ⟨g0, cp0, rfl⟩ : ∃ g0 cp0, u3 = .slice (some ⟨g0, 0, none⟩) q cp0 := by
        rcases hC.2.2.2 with ⟨_, h0⟩ | ⟨g, c, cur, e, _⟩
        · exact absurd (List.eq_nil_of_length_eq_zero (by rw [hC.2.1, h0])) (by rw [← HC.out]; exact HNE.out)
        · exact ⟨g, c, e⟩
      have hql := hC.2.1
      have HS := Lib.hid (sortSets_any w.heap.size g0 cp0 (clsTo gs s) wr (fun x hx => by have := cls_lt gs s x hx; omega) (hC.2.2.lt g0 rfl).1 (by rw [hql]; exact hC.2.2) (by have := cls_len gs s; omega) (by rw [← HC.out]; exact HNE.out))
      have hge := (hC.2.2.lt g0 rfl).1
      rw [hql] at HS
      have HQ := Lib.hid hql
      have HGE := Lib.hid hge
      clear hC hql hge
      have hsz0 : ¬ ((s : Int) < (s : Int)) := by omega
      go_wp2_with (go_at_call 67; refine HS.out.mono ?_; rintro e w' ⟨rfl, hset, hb'⟩; have HE := Lib.hid (And.intro hset hb'); clear hset hb')
      rw [Exit.noGoto_ret]
      go_ret
      rw [HC.out]
      refine ⟨g0, cp0, ?_, HE.out.1, HGE.out, HCo.out.1.trans HE.out.2⟩
      rw [srt_len, HQ.out]; rfl
    | succ g =>
      have hlt : s < F := by omega
      have hltI : (s : Int) < (F : Int) := by omega
      have hs16 : s < 65536 := by omega
      clear hC
      go_wp2
      go_loopg [14, 5] n (fun g2 s14 _ wy => ∃ j : Nat, j + g2 = n ∧ s14 = .int .i64 j ∧ (List.range j).all (maxB gs s) = true ∧ CollS w (clsTo gs s) q u3 wy)
      case atStart => exact ⟨0, by omega, rfl, rfl, HCo.out⟩
      case round =>
        obtain ⟨j, hjg, rfl, hall, hC2⟩ := hrel
        have HA := Lib.hid hall
        have HC2 := Lib.hid hC2
        have hsz2 := hC2.1.size
        clear hall hC2
        cases gk with
        | zero =>
          obtain rfl : j = n := by omega
          have hjj : ¬ ((j : Int) < (j : Int)) := by omega
          have HY := Lib.hid (cls_yes (gs := gs) (k := s) (by rw [maxAt, HN.out]; exact HA.out))
          go_wp2_with (at_builtin; refine wpList_app_set rfl (.tmp 28) (.tmp 30) rfl w.heap.size _ _ _ rfl s _ rfl rfl HC2.out.2.2 (by omega) hsz2 ?_; intro g4 cp w2 hr2 hg2; have H2 := Lib.hid (HC2.out.next hr2 hg2); clear hr2 hg2)
          go_roundg g
          case measure => omega
          case rel => exact ⟨s + 1, q + 1, by omega, by first | rfl | go_num, by omega, by rw [HY.out]; exact H2.out⟩
        | succ g2 =>
          have hjn : j < n := by omega
          have hjnI : (j : Int) < (n : Int) := by omega
          have hjL : j < gs.length := by rw [HN.out]; exact hjn
          rcases HX.out with h | ⟨b, off, rfl, hc⟩
          · subst h; simp at hjL
          have cc := (HC2.out.1.cell (p := ⟨b, off + j, none⟩) (World.block_lt_of_cell? w _ (hc j hjL))).trans (hc j hjL)
          have hgj := HG.out j hjn
          have HM : Hid (maxB gs s j = (s.testBit j == subB (gs[j]?.getD 0) s)) := Lib.hid rfl
          have HNX := Lib.hid (fun h => range_next (maxB gs s) j HA.out h)
          have HST := Lib.hid (fun h => cls_no (gs := gs) (k := s) (by rw [maxAt, HN.out]; exact range_false (maxB gs s) n j hjn h))
          have H1 := Lib.hid (fun wx => has_any s j wx hs16 (by omega))
          obtain ⟨y, hy⟩ : ∃ y, gs[j]?.getD 0 = y := ⟨_, rfl⟩
          rw [hy] at cc hgj HM
          have H2 := Lib.hid (fun wx => contains_any y s wx hgj hs16)
          obtain ⟨p1, hp1⟩ : ∃ p, s.testBit j = p := ⟨_, rfl⟩
          obtain ⟨p2, hp2⟩ : ∃ p, subB y s = p := ⟨_, rfl⟩
          rw [hp1] at H1 HM
          rw [hp2] at H2 HM
          clear hc hy hp1 hp2 hjL
          cases p1 <;> cases p2
          all_goals first
            | (have HD := Lib.hid (HNX.out HM.out)
               clear HNX HST HM
               go_wp2
               go_quiet ((first | (with_reducible exact quiet_same (H1.out _)) | (with_reducible exact quiet_same (H2.out _))))
               go_wp2
               go_roundg g2
               case measure => omega
               case rel => exact ⟨j + 1, by omega, by first | rfl | go_num, HD.out, HC2.out.drewN _⟩)
            | (have HD := Lib.hid (HST.out HM.out)
               clear HNX HST HM
               go_wp2
               go_quiet ((first | (with_reducible exact quiet_same (H1.out _)) | (with_reducible exact quiet_same (H2.out _))))
               go_wp2
               go_roundg g
               case measure => omega
               case rel => exact ⟨s + 1, q, by omega, by first | rfl | go_num, by omega, by rw [HD.out]; exact HC2.out.drewN _⟩)

end Go.Proofs.YthlbedhjekbfpaaDoor
