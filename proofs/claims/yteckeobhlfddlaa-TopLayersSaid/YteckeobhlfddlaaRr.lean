/-
  Draws; sets compared.
-/
import Derived.Test.YteckeobhlfddlaaRl
import Derived.Sort.Grow
namespace Go.Proofs.Yteckeobhlfddlaa.Rib

section
open Go.RowKit Go.Sort

theorem ask_drawn {α : Type} : ∀ (a : Ask α) (w : World), w.drawn ≤ (w.ask a).2.drawn
  | .done _, _ => Nat.le_refl _
  | .ask what range k, w => by
    unfold World.ask
    simp only []
    split
    · exact ask_drawn _ w
    · exact Nat.le_trans (Nat.le_succ _) (ask_drawn _ { w with drawn := w.drawn + 1 })
theorem sys_drawn (w : World) (c : Sys) : w.drawn ≤ (w.sys c).2.drawn := by
  have h := ask_drawn (Kernel.perform c w.os) w
  unfold World.sys
  split
  · exact Nat.le_refl _
  · next r os w' e => rw [e] at h; exact h
theorem viewStore_drawn {p : Program} {w : World} {at_ : Addr} {u : TypeId} {k : Addr} {v : Value} {b : Bool} {r : World × List Addr} (h : w.viewStore p at_ u k v b = .ok r) : r.1.drawn = w.drawn := by
  unfold World.viewStore at h
  simp only [bind, Except.bind, pure, Except.pure] at h
  repeat' split at h
  all_goals first
    | (cases h; done)
    | (injection h with h; subst h; rfl)
theorem farStore_drawn {p : Program} {w : World} {a : Addr} {v : Value} {b : Bool} {r : World × List Addr} (h : w.farStore p a v b = .ok r) : r.1.drawn = w.drawn := by
  unfold World.farStore at h
  split at h
  · split at h
    · injection h with h; subst h
      next h' => exact viewStore_drawn h'
    · cases h
  · cases h
theorem freeze_drawn (w : World) (a : Addr) (n : Nat) : (w.freeze a n).drawn = w.drawn := by
  unfold World.freeze; split <;> rfl
theorem run_drawn {α : Type} (p : Program) : ∀ (s : Sem α) (w w' : World) (v : α), s.run p w = .ok v w' → w.drawn ≤ w'.drawn := by
  intro s
  induction s with
  | pure a => intro w w' v h; simp only [Sem.run, Result.ok.injEq] at h; rw [h.2]; exact Nat.le_refl _
  | load m a k ih =>
    intro w w' v h
    simp only [Sem.run] at h
    split at h
    · exact ih _ _ _ _ h
    · split at h
      · exact ih _ _ _ _ h
      · cases h
  | store m a u k ih =>
    intro w w' v h
    cases u
    all_goals simp only [Sem.run] at h
    all_goals first
      | (cases h; done)
      | (split at h
         · split at h
           · cases h
           · have h2 := ih _ _ _ h
             exact h2
         · split at h
           · next e => rw [← farStore_drawn e]; exact ih _ _ _ h
           · cases h)
  | new o k ih => intro w w' v h; simp only [Sem.run] at h; have h2 := ih _ _ _ _ h; exact h2
  | shape r k ih => intro w w' v h; simp only [Sem.run] at h; exact ih _ _ _ _ h
  | freeze a n k ih => intro w w' v h; simp only [Sem.run] at h; rw [← freeze_drawn w a n]; exact ih _ _ _ h
  | frozen a k ih => intro w w' v h; simp only [Sem.run] at h; exact ih _ _ _ _ h
  | getObj r k ih =>
    intro w w' v h
    simp only [Sem.run] at h
    split at h
    · cases h
    · exact ih _ _ _ _ h
    · cases h
  | setObj r o k ih =>
    intro w w' v h
    simp only [Sem.run] at h
    split at h
    · cases h
    · have h2 := ih _ _ _ h
      exact h2
    · cases h
  | choose q k ih =>
    intro w w' v h
    simp only [Sem.run] at h
    split at h
    · exact ih _ _ _ _ h
    · exact Nat.le_trans (Nat.le_succ _) (ih _ _ _ _ h)
  | sys c k ih => intro w w' v h; simp only [Sem.run] at h; exact Nat.le_trans (sys_drawn w c) (ih _ _ _ _ h)
  | program k ih => intro w w' v h; simp only [Sem.run] at h; exact ih _ _ _ _ h
  | mark m k ih => intro w w' v h; simp only [Sem.run] at h; exact ih _ _ _ h
  | halt e => intro w w' v h; cases h

/-- The world has grown as a sort's call may: nothing that lay has turned; draws may be on. -/
def Grew (w w' : World) : Prop := Below w.heap.size w w' ∧ w.drawn ≤ w'.drawn
theorem Grew.refl (w : World) : Grew w w := ⟨Below.refl _ _, Nat.le_refl _⟩
theorem Grew.trans {a b c : World} (h : Grew a b) (k : Grew b c) : Grew a c := ⟨h.1.trans (k.1.mono h.1.size), Nat.le_trans h.2 k.2⟩
theorem Grew.alloc {w w' : World} (h : Grew w w') (o : Obj) : Grew w (w'.alloc o) := ⟨h.1.alloc h.1.size o, h.2⟩
theorem Grew.grow {w w' : World} (h : Grew w w') : ∃ q os', w' = Sort.grow (w.drewN q) os' := by
  obtain ⟨hb, hd⟩ := h
  refine ⟨w'.drawn - w.drawn, w'.heap.extract w.heap.size w'.heap.size, ?_⟩
  obtain ⟨heap', tape', drawn', os', output'⟩ := w'
  obtain ⟨heap, tape, drawn, os, output⟩ := w
  have h1 := hb.os
  have h2 := hb.tape
  have h3 := hb.output
  have h4 := hb.size
  have h5 := hb.block
  simp only at h1 h2 h3 h4 h5 hd
  subst h1 h2 h3
  have e1 : heap' = heap ++ heap'.extract heap.size heap'.size := by
    refine Array.ext (by simp; omega) fun i hi hi2 => ?_
    by_cases h : i < heap.size
    · have := h5 i h
      rw [Array.getElem?_eq_getElem hi, Array.getElem?_eq_getElem h] at this
      rw [Array.getElem_append_left h]
      simpa using this
    · rw [Array.getElem_append_right (by omega), Array.getElem_extract]
      congr 1; omega
  have e2 : drawn + (drawn' - drawn) = drawn' := by omega
  show _ = ({ heap := heap ++ heap'.extract heap.size heap'.size, tape := tape', drawn := drawn + (drawn' - drawn), os := os', output := output' } : World)
  rw [← e1, e2]
end

section
open Go.RowKit Go.Sort

/-- 'out = append(out, x)' of one integer; draws are told. -/
theorem wpList_app_intD {W : World} {ops : Array Oper} {rest : List Oper} {o : Oper} {a : Act} {Q : Exit → Act → World → Prop} (hgd : o.guard = none) (s x : Operand)
    (ho : o.op = .call { callee := .builtin .append, args := #[s, x], argTypes := #[22, 22] }) (base : Nat) (v : Value) (n : Nat) (xs : List Value) (hs : a.eval s = v) (z : Int) (b : Nat)
    (hx : a.eval x = .slice (some ⟨b, 0, none⟩) 1 1) (hb : b = W.heap.size) (hown : W.ownsRow base 3 1 v n xs) (hn : n ≤ 1000000) (hbase : base ≤ W.heap.size)
    (h : ∀ (g cap : Nat) (w' : World), w'.ownsRow base 3 1 (.slice (some ⟨g, 0, none⟩) (n + 1) cap) (n + 1) (xs ++ [.int .i64 z]) → W.grownBy w' v.ownBlock → W.drawn ≤ w'.drawn → wpList Try.prog ops Q rest (a.put o.dst (.slice (some ⟨g, 0, none⟩) (n + 1) cap)) w') :
    wpList Try.prog ops Q (o :: rest) a (W.alloc (.cells #[.int .i64 z] 3)) := by
  obtain ⟨i0, hi, hz0, hz1, hz2⟩ := info_parts Try.info3
  refine wpList_plain hgd fun K hK => ?_
  obtain ⟨v', w', hr, h2, h3, h4, h5⟩ := run_append_own_at (P := Try.prog) (W.alloc (.cells #[.int .i64 z] 3)) base 22 o.type 3 i0 (.int .i64 0) 1 8 Try.underlying22 hi hz0 hz1 hz2 rfl (by decide) v n xs (hown.alloc _) ⟨b, 0, none⟩ 1 1 [.int .i64 z] rfl (cells_new W [.int .i64 z] _ b hb) (by simp [Value.oneCell']) (by unfold maxLen; omega) (by omega) (by simp; omega)
  have hd := run_drawn _ _ _ _ _ hr
  unfold Oper.wp execOp
  simp only [ho, resolve, invoke, builtin, Sem.run_bind, Sem.run_pure, Result.andThen_ok, List.map_toArray, List.map_cons, List.map_nil, hs, hx, hr]
  obtain ⟨g, cap, rfl⟩ := ownsRow_succ' h2
  exact hK _ _ (h g cap w' h2 (grown_alloc h3) hd)

def CollD (w : World) (l : List Int) (k : Nat) (v : Value) (wr : World) : Prop := CollN w l k v wr ∧ w.drawn ≤ wr.drawn
theorem CollD.next {w wr w2 : World} {l : List Int} {k : Nat} {v : Value} {z : Int} {g cap : Nat} (h : CollD w l k v wr) (hr : w2.ownsRow w.heap.size 3 1 (.slice (some ⟨g, 0, none⟩) (k + 1) cap) (k + 1) (l.map (Value.int .i64) ++ [.int .i64 z])) (hg : wr.grownBy w2 v.ownBlock) (hd : wr.drawn ≤ w2.drawn) : CollD w (l ++ [z]) (k + 1) (.slice (some ⟨g, 0, none⟩) (k + 1) cap) w2 :=
  ⟨h.1.next hr hg, Nat.le_trans h.2 hd⟩

set_option maxRecDepth 100000 in
set_option maxHeartbeats 2000000 in
theorem listD_any (s : Nat) (w : World) (hs : s < 65536) :
    Calls Try.prog 50 #[.int .u16 s] w (fun e w' => GivesN ((listN s).map fun (x : Nat) => (x : Int)) w e w' ∧ w.drawn ≤ w'.drawn) := by
  have HL : Hid ((listN s).map (fun (x : Nat) => (x : Int)) = listTo s 12) := Lib.hid rfl
  go_enter Try.func50, Try.ntmps50
  go_wp2
  go_loopw [3, 5] (fun v i wr => ∃ k q : Nat, k ≤ 12 ∧ q ≤ k ∧ i = .int .i64 k ∧ CollD w (listTo s k) q v wr) (fun _ i _ => 12 - (intOf i).toNat)
  case atStart => exact ⟨0, 0, Nat.zero_le _, Nat.le_refl _, rfl, CollN.start w, Nat.le_refl _⟩
  case round =>
    obtain ⟨k, q, hk, hq, rfl, hC⟩ := hrel
    by_cases hlt : k < 12
    · have H1 := Lib.hid (fun wx => has_any s k wx hs (by omega))
      have hsz := hC.1.1.size
      have HC := Lib.hid hC
      clear hC
      obtain ⟨a0, cp0, rfl⟩ := HC.out.1.slice
      cases h1 : s.testBit k with
      | false =>
        have HD := Lib.hid (listTo_no h1)
        rw [h1] at H1
        clear h1
        go_wp2_with (go_at_call 28; refine (H1.out _).mono ?_; rintro e w' ⟨rfl, rfl⟩)
        go_roundw
        case rel => exact ⟨k + 1, q, by omega, by omega, by go_num, by rw [HD.out]; exact HC.out⟩
        case measure => simp [intOf]; omega
      | true =>
        have HD := Lib.hid (listTo_yes h1)
        rw [h1] at H1
        clear h1
        go_wp2_with (first
          | (go_at_call 28; refine (H1.out _).mono ?_; rintro e w' ⟨rfl, rfl⟩)
          | (at_builtin; refine wpList_app_intD rfl (.tmp 11) (.tmp 13) rfl w.heap.size _ _ _ rfl (k : Int) _ rfl rfl HC.out.1.2.2 (by omega) hsz ?_; intro g cp w2 hr2 hg2 hd2; have H2 := Lib.hid (HC.out.next hr2 hg2 hd2); clear hr2 hg2 hd2))
        go_roundw
        case rel => exact ⟨k + 1, q + 1, by omega, by omega, by go_num, by rw [HD.out]; exact H2.out⟩
        case measure => simp [intOf]; omega
    · obtain rfl : k = 12 := by omega
      have HC := Lib.hid hC
      clear hC
      obtain ⟨a0, cp0, rfl⟩ := HC.out.1.slice
      go_wp2
      go_ret
      rw [HL.out]
      exact ⟨HC.out.1.gives, HC.out.2⟩

/-- cmp.Compare at two integers. -/
def cmpR (x y : Int) : Int := if x < y then -1 else if y < x then 1 else 0
theorem isNaN_any (x : Int) (w : World) : Calls Try.prog 73 #[.int .i64 x] w fun e w' => e = .returned (.bool false) ∧ w = w' := by
  go_enter Try.func73, Try.ntmps73
  go_wp2
  go_ret
  exact ⟨by simp, rfl⟩
theorem Compare_any (x y : Int) (w : World) : Calls Try.prog 65 #[.int .i64 x, .int .i64 y] w fun e w' => e = .returned (.int .i64 (cmpR x y)) ∧ w = w' := by
  have H1 := Lib.hid (fun x wx => isNaN_any x wx)
  have hc : (x < y ∧ cmpR x y = -1) ∨ (y < x ∧ cmpR x y = 1) ∨ (x = y ∧ cmpR x y = 0) := by
    unfold cmpR
    rcases Int.lt_trichotomy x y with h | h | h
    · exact .inl ⟨h, if_pos h⟩
    · exact .inr (.inr ⟨h, by rw [if_neg (by omega), if_neg (by omega)]⟩)
    · exact .inr (.inl ⟨h, by rw [if_neg (by omega), if_pos h]⟩)
  obtain ⟨c, hcc⟩ : ∃ c, cmpR x y = c := ⟨_, rfl⟩
  rw [hcc] at hc ⊢
  clear hcc
  rcases hc with ⟨h, rfl⟩ | ⟨h, rfl⟩ | ⟨rfl, rfl⟩
  all_goals
    go_enter Try.func65, Try.ntmps65
    go_wp2_with (go_at_call 73; refine (H1.out _ _).mono ?_; rintro e w' ⟨rfl, rfl⟩)
    go_ret
    exact ⟨rfl, rfl⟩

/-- slices.Compare at integers. -/
def lexZ : List Int → List Int → Int
  | [], [] => 0
  | [], _ :: _ => -1
  | _ :: _, [] => 1
  | x :: xs, y :: ys => if cmpR x y = 0 then lexZ xs ys else cmpR x y

set_option maxRecDepth 100000 in
set_option maxHeartbeats 2000000 in
theorem SlCompare_any (a b : Option Addr) (n m ca cb : Nat) (xs ys : List Int) (w : World) (hx : xs.length = n) (hy : ys.length = m) (hn : n ≤ 1000) (_hm : m ≤ 1000) (ha : Ints w a xs) (hb : Ints w b ys) :
    Calls Try.prog 49 #[.slice a n ca, .slice b m cb] w fun e w' => e = .returned (.int .i64 (lexZ xs ys)) ∧ w = w' := by
  have HA := Lib.hid ha.at
  have HB := Lib.hid hb.at
  have HX := Lib.hid hx
  have HY := Lib.hid hy
  have HC := Lib.hid (fun x y wx => Compare_any x y wx)
  clear ha hb hx hy
  go_enter Try.func49, Try.ntmps49
  go_wp2
  go_loop [11, 5, 6, 7, 8] (fun i _ _ _ _ => ∃ k : Nat, k ≤ n ∧ k ≤ m ∧ i = .int .i64 k ∧ Hid (lexZ xs ys = lexZ (xs.drop k) (ys.drop k))) (fun i _ _ _ _ => n - (intOf i).toNat)
  case atStart => exact ⟨0, Nat.zero_le _, Nat.zero_le _, rfl, Lib.hid rfl⟩
  case round =>
    obtain ⟨k, hk, hkm, rfl, HE⟩ := hrel
    by_cases hlt : k < n
    · have hkx : k < xs.length := by rw [HX.out]; exact hlt
      rcases HA.out with h | ⟨ba, oa, rfl, hca⟩
      · subst h; simp at hkx
      have c0 := hca k hkx
      by_cases hlt2 : k < m
      · have hky : k < ys.length := by rw [HY.out]; exact hlt2
        rcases HB.out with h | ⟨bb, ob, rfl, hcb⟩
        · subst h; simp at hky
        have c1 := hcb k hky
        have HL : Hid (lexZ xs ys = if cmpR (xs[k]?.getD 0) (ys[k]?.getD 0) = 0 then lexZ (xs.drop (k + 1)) (ys.drop (k + 1)) else cmpR (xs[k]?.getD 0) (ys[k]?.getD 0)) := Lib.hid (by
          rw [HE.out, List.drop_eq_getElem_cons hkx, List.drop_eq_getElem_cons hky, lexZ, List.getElem?_eq_getElem hkx, List.getElem?_eq_getElem hky]; rfl)
        obtain ⟨x, hxk⟩ : ∃ x, xs[k]?.getD 0 = x := ⟨_, rfl⟩
        obtain ⟨y, hyk⟩ : ∃ y, ys[k]?.getD 0 = y := ⟨_, rfl⟩
        rw [hxk] at c0 HL
        rw [hyk] at c1 HL
        clear hca hcb hxk hyk
        have HCxy := Lib.hid (fun wx => HC.out x y wx)
        obtain ⟨c, hc⟩ : ∃ c, cmpR x y = c := ⟨_, rfl⟩
        rw [hc] at HL HCxy
        clear hc
        by_cases hc0 : c = 0
        · rw [if_pos hc0] at HL
          go_wp2_with (go_at_call 65; refine (HCxy.out _).mono ?_; rintro e w' ⟨rfl, rfl⟩)
          go_round
          case rel => exact ⟨k + 1, by omega, by omega, by go_num, HL⟩
          case measure => simp [intOf]; omega
        · rw [if_neg hc0] at HL
          go_wp2_with (go_at_call 65; refine (HCxy.out _).mono ?_; rintro e w' ⟨rfl, rfl⟩)
          go_ret
          exact ⟨congrArg (fun z => Ending.returned (Value.int .i64 z)) HL.out.symm, rfl⟩
      · have HL : Hid (lexZ xs ys = 1) := Lib.hid (by
          rw [HE.out, List.drop_eq_getElem_cons hkx, show ys.drop k = [] from List.drop_eq_nil_of_le (by rw [HY.out]; omega), lexZ])
        clear hca
        go_wp2
        go_ret
        exact ⟨congrArg (fun z => Ending.returned (Value.int .i64 z)) HL.out.symm, rfl⟩
    · obtain rfl : k = n := by omega
      by_cases hlt2 : k < m
      · have HL : Hid (lexZ xs ys = -1) := Lib.hid (by
          rw [HE.out, show xs.drop k = [] from List.drop_eq_nil_of_le (by rw [HX.out]; omega), List.drop_eq_getElem_cons (by rw [HY.out]; exact hlt2), lexZ])
        go_wp2
        go_ret
        exact ⟨congrArg (fun z => Ending.returned (Value.int .i64 z)) HL.out.symm, rfl⟩
      · have HL : Hid (lexZ xs ys = 0) := Lib.hid (by
          rw [HE.out, show xs.drop k = [] from List.drop_eq_nil_of_le (by rw [HX.out]; omega), show ys.drop k = [] from List.drop_eq_nil_of_le (by rw [HY.out]; omega), lexZ])
        go_wp2
        go_ret
        exact ⟨congrArg (fun z => Ending.returned (Value.int .i64 z)) HL.out.symm, rfl⟩

/-- The numbers of a set as integers. -/
def listI (s : Nat) : List Int := (listN s).map fun (x : Nat) => (x : Int)
theorem listI_len (s : Nat) : (listI s).length ≤ 12 := by
  rw [listI, List.length_map]; exact Nat.le_trans (List.length_filter_le _ _) (by simp)

set_option maxRecDepth 100000 in
set_option maxHeartbeats 2000000 in
theorem compareSets_any (s t : Nat) (w : World) (hs : s < 65536) (ht : t < 65536) :
    Calls Try.prog 34 #[.int .u16 s, .int .u16 t] w fun e w' => e = .returned (.int .i64 (lexZ (listI s) (listI t))) ∧ Grew w w' := by
  have H1 := Lib.hid (fun wx => listD_any s wx hs)
  have H2 := Lib.hid (fun wx => listD_any t wx ht)
  have hl1 := listI_len s
  have hl2 := listI_len t
  have HS : Hid ((listN s).map (fun (x : Nat) => (x : Int)) = listI s) := Lib.hid rfl
  have HT : Hid ((listN t).map (fun (x : Nat) => (x : Int)) = listI t) := Lib.hid rfl
  rw [HS.out] at H1
  rw [HT.out] at H2
  go_enter Try.func34, Try.ntmps34
  go_wp2_with (fail)
  refine (H1.out _).mono ?_
  rintro e w1 ⟨⟨a1, c1, rfl, hc1⟩, hd1⟩
  have HC1 := Lib.hid (And.intro hc1 hd1)
  clear hc1 hd1
  go_wp2_with (fail)
  refine (H2.out _).mono ?_
  rintro e w2 ⟨⟨a2, c2, rfl, hc2⟩, hd2⟩
  have HC2 := Lib.hid (And.intro hc2 hd2)
  clear hc2 hd2
  have H3 := Lib.hid (SlCompare_any a1 a2 (listI s).length (listI t).length c1 c2 (listI s) (listI t) w2 rfl rfl (by omega) (by omega) (HC1.out.1.ints.below HC2.out.1.1) HC2.out.1.ints)
  have HG : Hid (Grew w w2) := Lib.hid (Grew.trans ⟨HC1.out.1.1, HC1.out.2⟩ ⟨HC2.out.1.1, HC2.out.2⟩)
  go_wp2_with (fail)
  refine H3.out.mono ?_
  rintro e w3 ⟨rfl, rfl⟩
  go_wp2_with (fail)
  go_ret
  exact ⟨rfl, HG.out⟩
end

end Go.Proofs.Yteckeobhlfddlaa.Rib
