/-
  The reference: the walks of orders and All.
-/
import Derived.Test.YteankhgikpejhaaIa
import Derived.Test.YteankhgikpejhaaId
namespace Go.Proofs.Yteankhgikpejhaa
open Go.RowKit Go.Sort

theorem info22 : (Try.prog.info? 22).map (fun i => (i.zero, i.size, i.bytes)) = some (some (.slice none 0 0), 1, 24) := by kernel_rfl

/-- A slice of slices of numbers, of the call's own. -/
def ElemR (w : World) (base : Nat) (l : List Nat) (v : Value) : Prop := ∃ b c, v = .slice (some ⟨b, 0, none⟩) l.length c ∧ w.ownsRow base 3 1 v l.length (intsOf l)
def ListsV (w : World) (base : Nat) (ls : List (List Nat)) (v : Value) : Prop := ∃ g cap vs, v = .slice (some ⟨g, 0, none⟩) ls.length cap ∧ w.ownsRow base 22 1 v ls.length vs ∧ ∀ i, i < ls.length → ElemR w base (ls[i]?.getD []) (vs[i]?.getD undef)

theorem ElemR.kept {w w' : World} {base : Nat} {l : List Nat} {v : Value} (h : ElemR w base l v) (hb : Below w.heap.size w w') : ElemR w' base l v := by
  obtain ⟨b, c, rfl, hr⟩ := h
  exact ⟨b, c, rfl, ownsRow_kept hr hb⟩
theorem ElemR.weaken {w : World} {base base' : Nat} {l : List Nat} {v : Value} (h : ElemR w base l v) (hb : base' ≤ base) : ElemR w base' l v := by
  obtain ⟨b, c, rfl, hr⟩ := h
  exact ⟨b, c, rfl, ownsRow_weaken hr hb⟩
theorem ListsV.kept {w w' : World} {base : Nat} {ls : List (List Nat)} {v : Value} (h : ListsV w base ls v) (hb : Below w.heap.size w w') : ListsV w' base ls v := by
  obtain ⟨g, cap, vs, rfl, hr, he⟩ := h
  exact ⟨g, cap, vs, rfl, ownsRow_kept hr hb, fun i hi => (he i hi).kept hb⟩
theorem ListsV.weaken {w : World} {base base' : Nat} {ls : List (List Nat)} {v : Value} (h : ListsV w base ls v) (hb : base' ≤ base) : ListsV w base' ls v := by
  obtain ⟨g, cap, vs, rfl, hr, he⟩ := h
  exact ⟨g, cap, vs, rfl, ownsRow_weaken hr hb, fun i hi => (he i hi).weaken hb⟩
theorem own_types_ne {w : World} {b1 b2 s1 s2 n m : Nat} {e1 e2 : TypeId} {u v : Value} {xs ys : List Value} (h1 : w.ownsRow b1 e1 s1 u n xs) (h2 : w.ownsRow b2 e2 s2 v m ys) (hne : e1 ≠ e2) : u.ownBlock = none ∨ u.ownBlock ≠ v.ownBlock := by
  rcases h1.2 with ⟨rfl, _⟩ | ⟨g, cap, cur, rfl, _, hg, _⟩
  · exact .inl rfl
  · refine .inr fun e => ?_
    rcases h2.2 with ⟨rfl, _⟩ | ⟨g', cap', cur', rfl, _, hg', _⟩
    · cases e
    · have : g = g' := by simpa [Value.ownBlock] using e
      subst this
      rw [hg] at hg'
      simp at hg'
      exact hne hg'.2
theorem ListsV.append {w w' : World} {base : Nat} {ls ms : List (List Nat)} {v v' : Value} {ws : List Value} (h : ListsV w base ls v) (hms : ∀ i, i < ms.length → ElemR w base (ms[i]?.getD []) (ws[i]?.getD undef)) (hws : ws.length = ms.length)
    (hr : ∀ vs, w.ownsRow base 22 1 v ls.length vs → ∃ g cap, v' = .slice (some ⟨g, 0, none⟩) (ls.length + ms.length) cap ∧ w'.ownsRow base 22 1 v' (ls.length + ms.length) (vs ++ ws)) (hg : w.grownBy w' v.ownBlock) : ListsV w' base (ls ++ ms) v' := by
  obtain ⟨g, cap, vs, rfl, hown, he⟩ := h
  obtain ⟨g', cap', rfl, hown'⟩ := hr vs hown
  have hvl : vs.length = ls.length := by simpa using hown.1
  have keep : ∀ {l : List Nat} {u : Value}, ElemR w base l u → ElemR w' base l u := by
    rintro l u ⟨b, c, rfl, hu⟩
    exact ⟨b, c, rfl, hu.kept hg (own_types_ne hu hown (by decide))⟩
  refine ⟨g', cap', vs ++ ws, by rw [List.length_append], by rw [List.length_append]; exact hown', fun i hi => ?_⟩
  rw [List.length_append] at hi
  by_cases hlt : i < ls.length
  · rw [List.getElem?_append_left hlt, List.getElem?_append_left (by omega)]
    exact keep (he i hlt)
  · rw [List.getElem?_append_right (by omega), List.getElem?_append_right (by omega), hvl]
    exact keep (hms _ (by omega))

theorem permsAll_le (n : Nat) : ∀ (k : Nat) (O : List Nat), (permsAll n k O).length ≤ n ^ k
  | 0, O => by simp [permsAll]
  | k + 1, O => by
    rw [permsAll, List.length_flatMap]
    have : ∀ l : List Nat, (l.map fun s => (if O.contains s = true then [] else permsAll n k (O ++ [s])).length).sum ≤ l.length * n ^ k := by
      intro l
      induction l with
      | nil => simp
      | cons s l ih =>
        rw [List.map_cons, List.sum_cons, List.length_cons, Nat.add_mul, Nat.one_mul, Nat.add_comm]
        refine Nat.add_le_add ih ?_
        split
        · simp
        · exact permsAll_le n k _
    have := this (List.range n)
    rw [List.length_range] at this
    rw [Nat.pow_succ, Nat.mul_comm]
    exact this
/-- The lists that begin with O and a number less than j. -/
def permsTo (n k : Nat) (O : List Nat) (j : Nat) : List (List Nat) := (List.range j).flatMap fun s => if O.contains s = true then [] else permsAll n k (O ++ [s])
theorem permsTo_succ (n k : Nat) (O : List Nat) (j : Nat) : permsTo n k O (j + 1) = permsTo n k O j ++ (if O.contains j = true then [] else permsAll n k (O ++ [j])) := by
  unfold permsTo
  rw [List.range_succ, List.flatMap_append]; simp
theorem permsTo_le (n k : Nat) (O : List Nat) (j : Nat) (h : j ≤ n) : (permsTo n k O j).length ≤ n ^ (k + 1) := by
  have h1 : permsTo n k O j <+: permsAll n (k + 1) O := prefix_flatMap _ _ _ (range_prefix j n h)
  exact Nat.le_trans h1.length_le (permsAll_le n (k + 1) O)
theorem pow_bound {n k : Nat} (h : n ≤ 9) (hk : k ≤ 9) : n ^ k ≤ 387420489 :=
  Nat.le_trans (Nat.pow_le_pow_left h k) (Nat.pow_le_pow_right (n := 9) (by omega) hk)

theorem owns_empty (w : World) (t : TypeId) : (w.alloc (.cells #[] t)).ownsRow w.heap.size t 1 (.slice (some ⟨w.heap.size, 0, none⟩) 0 0) 0 [] :=
  ⟨rfl, .inr ⟨w.heap.size, 0, #[], rfl, Nat.le_refl _, heap_alloc_new w _, Nat.le_refl _, by unfold maxLen; omega, rfl, rfl⟩⟩

/-- 'append(v, x...)' of integers: what the walk wants of it. -/
theorem wpList_app_ints {W : World} {ops : Array Oper} {rest : List Oper} {o : Oper} {a : Act} {Q : Exit → Act → World → Prop} (hgd : o.guard = none) (s x : Operand)
    (ho : o.op = .call { callee := .builtin .append, args := #[s, x], argTypes := #[22, 22] }) (base : Nat) (v : Value) (n : Nat) (xs : List Value) (hs : a.eval s = v) (b off m c : Nat) (O : List Nat)
    (hx : a.eval x = .slice (some ⟨b, off, none⟩) m c) (hl : O.length = m) (hc : ∀ j, j < O.length → W.cell? ⟨b, off + j, none⟩ = some (.int .i64 ((O[j]?.getD 0 : Nat) : Int))) (hown : W.ownsRow base 3 1 v n xs) (r : Nat) (hr : n + m = r) (hn : r ≤ 1000000) (hbase : base ≤ W.heap.size)
    (h : ∀ (a' : Option Addr) (c' : Nat) (w' : World), w'.ownsRow base 3 1 (.slice a' r c') r (xs ++ intsOf O) → W.grownBy w' v.ownBlock → wpList Try.prog ops Q rest (a.put o.dst (.slice a' r c')) w') :
    wpList Try.prog ops Q (o :: rest) a W := by
  obtain ⟨i0, hi, hz0, hz1, hz2⟩ := info_parts Try.info3
  subst hr
  refine wpList_append_own_at _ hgd s x 22 ho base 3 i0 (.int .i64 0) 1 8 Try.underlying22 hi hz0 hz1 hz2 rfl (by decide) v n xs hs hown ⟨b, off, none⟩ m c (intsOf O) hx (by simp [intsOf, hl]) ?_ (by simp [intsOf, Value.oneCell']) (by unfold maxLen; omega) (by omega) hbase ?_
  · intro j u hj
    have hjl : j < O.length := by have := (List.getElem?_eq_some_iff.1 hj).1; simpa [intsOf] using this
    have hadd : (⟨b, off, none⟩ : Addr).add j = ⟨b, off + j, none⟩ := by unfold Addr.add; split <;> simp_all
    rw [hadd, hc j hjl, ← hj]
    simp [intsOf, hjl]
  · intro v' w' hown' hg _ _
    obtain ⟨a', c', rfl⟩ := ownsRow_slice hown'
    exact h a' c' w' hown' hg

/-- 'append(out, lists...)'. -/
theorem wpList_app_lists {W : World} {ops : Array Oper} {rest : List Oper} {o : Oper} {a : Act} {Q : Exit → Act → World → Prop} (hgd : o.guard = none) (s x : Operand)
    (ho : o.op = .call { callee := .builtin .append, args := #[s, x], argTypes := #[35, 35] }) (base : Nat) (v u : Value) (ls ms : List (List Nat)) (hs : a.eval s = v) (hx : a.eval x = u)
    (hv : ListsV W base ls v) (hu : ListsV W base ms u) (hn : ls.length + ms.length ≤ 1000000000) (hbase : base ≤ W.heap.size)
    (h : ∀ (v' : Value) (w' : World), ListsV w' base (ls ++ ms) v' → Below base W w' → wpList Try.prog ops Q rest (a.put o.dst v') w') :
    wpList Try.prog ops Q (o :: rest) a W := by
  obtain ⟨i0, hi, hz0, hz1, hz2⟩ := info_parts info22
  have hv' := hv
  obtain ⟨g, cap, vs, rfl, hown, he⟩ := hv
  obtain ⟨gu, cu, us, rfl, hownu, heu⟩ := hu
  have hul : us.length = ms.length := by simpa using hownu.1
  have hvl : vs.length = ls.length := by simpa using hown.1
  refine wpList_append_own_at _ hgd s x 35 ho base 22 i0 (.slice none 0 0) 1 24 Try.underlying35 hi hz0 hz1 hz2 rfl (by decide) _ ls.length vs hs hown ⟨gu, 0, none⟩ ms.length cu us hx (by omega) ?_ ?_ (by unfold maxLen; omega) (by omega) hbase ?_
  · intro j w hj
    have hjl : j < us.length := (List.getElem?_eq_some_iff.1 hj).1
    have hadd : (⟨gu, 0, none⟩ : Addr).add j = ⟨gu, j, none⟩ := by unfold Addr.add; split <;> simp_all
    rw [hadd, hownu.cellAt j (by omega), hj]
  · intro w hw
    obtain ⟨i, hi, rfl⟩ := List.getElem_of_mem hw
    obtain ⟨b, c, e, _⟩ := heu i (by omega)
    rw [List.getElem?_eq_getElem hi, Option.getD_some] at e
    rw [e]; rfl
  · intro v' w' hown' hg hnil _
    refine h v' w' (hv'.append heu hul (fun vs' hvs' => ?_) hg) ((Below.refl _ _).grown hg hbase (fun k hk => (hown.lt k hk).1))
    have evs : vs' = vs := by
      rcases hown.2 with ⟨e, _⟩ | ⟨g1, c1, cur, e, _, hg1, _, _, _, ht⟩
      · cases e
      · cases e
        rcases hvs'.2 with ⟨e, _⟩ | ⟨g2, c2, cur2, e, _, hg2, _, _, _, ht2⟩
        · cases e
        · cases e
          rw [hg1] at hg2
          simp at hg2
          rw [← ht, ← ht2, hg2]
    subst evs
    rcases hown'.2 with ⟨e, _⟩ | ⟨g', c', cur', e, _⟩
    · have := (hnil.1 e).1
      cases this
    · exact ⟨g', c', e, hown'⟩

set_option maxRecDepth 100000 in
set_option maxHeartbeats 4000000 in
theorem orders_leaf (n : Nat) (h1 : 1 ≤ n) (h9 : n ≤ 9) (O : List Nat) (b off cap : Nat) (w : World) (hl : O.length = n) (hz : Ints w (some ⟨b, off, none⟩) (O.map fun (x : Nat) => (x : Int))) :
    Calls Try.prog 61 #[.slice (some ⟨b, off, none⟩) n cap, .int .i64 n] w (Gives (fun v w' => ListsV w' w.heap.size [O] v) w) := by
  obtain ⟨b', off', e, hb, hc⟩ := hz.nat (by omega)
  cases e
  have HC := Lib.hid (And.intro hb (And.intro hc hl))
  clear hz hb hc hl
  go_enter Try.func61, Try.ntmps61
  go_wp2_with (refine wpList_app_ints rfl (.tmp 13) (.tmp 14) rfl w.heap.size (.slice (some ⟨w.heap.size, 0, none⟩) 0 0) 0 [] rfl b off n cap O rfl HC.out.2.2 (fun j hj => by rw [World.cell?_alloc_past _ _ _ HC.out.1]; exact HC.out.2.1 j hj) (owns_empty w 3) n (by omega) (by omega) (by simp) ?_; intro a2 c2 w2 hr2 hg2; have H2 := Lib.hid (And.intro hr2 hg2); clear hr2 hg2)
  go_ret
  have hr := H2.out.1
  rw [List.nil_append] at hr
  have hlO := HC.out.2.2
  have hb2 : Below w.heap.size w w2 := ((Below.refl _ w).alloc (Nat.le_refl _) (.cells #[] 3)).grown H2.out.2 (by simp) (fun k hk => by
    have : w.heap.size = k := by simpa [Value.ownBlock] using hk
    omega)
  refine ⟨_, rfl, ⟨w2.heap.size, 1, [.slice a2 n c2], rfl, ⟨rfl, .inr ⟨w2.heap.size, 1, _, rfl, hb2.size, heap_alloc_new w2 _, Nat.le_refl _, by unfold maxLen; omega, rfl, rfl⟩⟩, fun i hi => ?_⟩, hb2.alloc hb2.size _⟩
  have hi0 : i = 0 := by simp at hi; exact hi
  subst hi0
  show ElemR _ _ O (.slice a2 n c2)
  obtain ⟨m, hm⟩ : ∃ m, n = m + 1 := ⟨n - 1, by omega⟩
  rw [hm] at hr
  obtain ⟨g, cp, e⟩ := ownsRow_succ' hr
  cases e
  refine ⟨g, c2, by rw [hlO], ?_⟩
  rw [hlO, hm]
  exact hr.alloc _

/-- What 'orders' answers, k numbers being left. -/
def OrdersAt (n k : Nat) : Prop := ∀ (O : List Nat) (p b off cap : Nat) (w : World), O.Nodup → (∀ x ∈ O, x < n) → O.length = p → p + k = n → Ints w (some ⟨b, off, none⟩) (O.map fun (x : Nat) => (x : Int)) →
  Calls Try.prog 61 #[.slice (some ⟨b, off, none⟩) p cap, .int .i64 n] w (Gives (fun v w' => ListsV w' w.heap.size (permsAll n k O) v) w)

theorem contains_take_succ (O : List Nat) (q j : Nat) (h : q < O.length) : (O.take (q + 1)).contains j = ((O.take q).contains j || (O[q]?.getD 0 == j)) := by
  rw [List.take_succ_eq_append_getElem h, List.getElem?_eq_getElem h, Option.getD_some, Bool.eq_iff_iff, Bool.or_eq_true, List.contains_iff_mem, List.contains_iff_mem, List.mem_append, List.mem_singleton, beq_iff_eq]
  exact or_congr Iff.rfl eq_comm

/-- Behind the first append. -/
theorem ord_one {w1 w2 : World} {a2 : Option Addr} {q c2 : Nat} {xs : List Value} (hr2 : w2.ownsRow w1.heap.size 3 1 (.slice a2 q c2) q ([] ++ xs))
    (hg2 : (w1.alloc (.cells #[] 3)).grownBy w2 (Value.slice (some ⟨w1.heap.size, 0, none⟩) 0 0).ownBlock) :
    w2.ownsRow w1.heap.size 3 1 (.slice a2 q c2) q xs ∧ Below w1.heap.size w1 w2 := by
  refine ⟨by rwa [List.nil_append] at hr2, ((Below.refl _ w1).alloc (Nat.le_refl _) (.cells #[] 3)).grown hg2 (by simp) (fun x hx => by
    have : w1.heap.size = x := by simpa [Value.ownBlock] using hx
    omega)⟩

set_option maxRecDepth 100000 in
set_option maxHeartbeats 8000000 in
theorem orders_step (n k : Nat) (h1 : 1 ≤ n) (h9 : n ≤ 9) (ih : OrdersAt n k) : OrdersAt n (k + 1) := by
  intro O p b off cap w hnd hv hl hpk hz
  have hlt : p < n := by omega
  have HZ := Lib.hid (And.intro hz (And.intro hnd (And.intro hv hl)))
  have HIH := Lib.hid ih
  have hne : ((p : Int) == (n : Int)) = false := by rw [beq_eq_false_iff_ne]; omega
  clear hz hnd hv hl ih
  go_enter Try.func61, Try.ntmps61
  go_wp2
  go_loopw [5, 6] (fun v i wr => ∃ j : Nat, j ≤ n ∧ i = .int .i64 j ∧ Below w.heap.size w wr ∧ ListsV wr w.heap.size (permsTo n k O j) v) (fun _ i _ => n - (intOf i).toNat)
  case atStart => exact ⟨0, Nat.zero_le _, rfl, (Below.refl _ w).alloc (Nat.le_refl _) _, w.heap.size, 0, [], rfl, owns_empty w _, fun i hi => by simp [permsTo] at hi⟩
  case round =>
    obtain ⟨j, hj, rfl, hb, hL⟩ := hrel
    have HB := Lib.hid hb
    have HL := Lib.hid hL
    clear hb hL
    rename World => w1
    by_cases hjn : j < n
    · obtain ⟨g0, cp0, vs0, rfl, _, _⟩ := HL.out
      go_wp2
      go_loop [7, 8] (fun u i => ∃ q : Nat, q ≤ p ∧ i = .int .i64 q ∧ u = .bool ((O.take q).contains j)) (fun _ i => p - (intOf i).toNat)
      case atStart => exact ⟨0, Nat.zero_le _, rfl, by simp⟩
      case round =>
        obtain ⟨q, hq, rfl, rfl⟩ := hrel
        by_cases hqp : q < p
        · have hqO : q < O.length := by rw [HZ.out.2.2.2]; exact hqp
          obtain ⟨b', off', e, hc⟩ := (HZ.out.1.below HB.out) q (by simpa using hqO)
          cases e
          have e0 : (O.map fun (x : Nat) => (x : Int))[q]?.getD 0 = ((O[q]?.getD 0 : Nat) : Int) := by simp [hqO]
          rw [e0] at hc
          have HT := Lib.hid (contains_take_succ O q j hqO)
          obtain ⟨y, hy⟩ : ∃ y, O[q]?.getD 0 = y := ⟨_, rfl⟩
          rw [hy] at hc HT
          obtain ⟨u0, hu0⟩ : ∃ u0, (O.take q).contains j = u0 := ⟨_, rfl⟩
          rw [hu0] at HT ⊢
          clear hy hu0 e0
          have ey : ((y : Int) == (j : Int)) = (y == j) := by rw [Bool.eq_iff_iff, beq_iff_eq, beq_iff_eq]; omega
          cases u0
          · rcases Bool.eq_false_or_eq_true (y == j) with hyj | hyj
            · rw [hyj] at ey HT
              clear hyj
              go_wp2
              go_round
              case rel => exact ⟨q + 1, by omega, by go_num, by rw [HT.out]; rfl⟩
              case measure => simp [intOf]; omega
            · rw [hyj] at ey HT
              clear hyj
              go_wp2
              go_round
              case rel => exact ⟨q + 1, by omega, by go_num, by rw [HT.out]; rfl⟩
              case measure => simp [intOf]; omega
          · clear ey
            go_wp2
            go_round
            case rel => exact ⟨q + 1, by omega, by go_num, by rw [HT.out]; rfl⟩
            case measure => simp [intOf]; omega
        · obtain rfl : q = p := by omega
          have ht : O.take q = O := List.take_of_length_le (by rw [HZ.out.2.2.2]; exact Nat.le_refl _)
          rw [ht]
          have HP := Lib.hid (permsTo_succ n k O j)
          rcases Bool.eq_false_or_eq_true (O.contains j) with hc | hc
          · rw [hc, if_pos rfl, List.append_nil] at HP
            rw [hc]
            clear ht hc
            go_wp2
            go_roundw
            case rel => exact ⟨j + 1, by omega, by go_num, HB.out, by rw [HP.out]; exact HL.out⟩
            case measure => simp [intOf]; omega
          · rw [hc, if_neg Bool.false_ne_true] at HP
            have HC := Lib.hid hc
            rw [hc]
            clear ht hc
            have hsz := HB.out.size
            have HCELL : Hid (∀ i, i < O.length → (w1.alloc (.cells #[] 3)).cell? ⟨b, off + i, none⟩ = some (.int .i64 ((O[i]?.getD 0 : Nat) : Int))) := Lib.hid fun i hi => by
              obtain ⟨b', off', e, hc⟩ := (HZ.out.1.below HB.out) i (by simpa using hi)
              cases e
              have hbl := World.block_lt_of_cell? w1 _ hc
              rw [World.cell?_alloc_past _ _ _ hbl, hc]
              simp [hi]
            have HOK : Hid ((O ++ [j]).Nodup ∧ (∀ x ∈ O ++ [j], x < n)) := Lib.hid (by
              have hc' : j ∉ O := by simpa using HC.out
              refine ⟨?_, ?_⟩
              · rw [List.nodup_append]
                refine ⟨HZ.out.2.1, by simp, ?_⟩
                intro a ha c hcc
                simp at hcc
                subst hcc
                intro e
                subst e
                exact hc' ha
              · intro x hx
                rcases List.mem_append.1 hx with h | h
                · exact HZ.out.2.2.1 x h
                · simp at h; omega)
            have HLEN := Lib.hid (show (permsTo n k O j).length + (permsAll n k (O ++ [j])).length ≤ 1000000000 by
              have e1 := permsTo_le n k O j (by omega)
              have e2 := permsAll_le n k (O ++ [j])
              have e3 := pow_bound h9 (show k + 1 ≤ 9 by omega)
              have e4 := pow_bound h9 (show k ≤ 9 by omega)
              omega)
            go_wp2_with (first
              | (at_builtin; refine wpList_app_ints rfl (.tmp 41) (.tmp 42) rfl w1.heap.size (.slice (some ⟨w1.heap.size, 0, none⟩) 0 0) 0 [] rfl b off q cap O rfl HZ.out.2.2.2 HCELL.out (owns_empty w1 3) q (by omega) (by omega) (by simp) ?_; intro a2 c2 w2 hr2 hg2; have H2 := Lib.hid (ord_one hr2 hg2); clear hr2 hg2)
              | (at_builtin; refine wpList_app_int rfl (.tmp 43) (.tmp 45) rfl w1.heap.size (.slice a2 q c2) q (intsOf O) rfl j _ rfl rfl H2.out.1 (by omega) H2.out.2.size ?_; intro g3 c3 w3 hr3 hg3 _ _; have H3 := Lib.hid (And.intro hr3 (H2.out.2.grown hg3 H2.out.2.size (fun x hx => (H2.out.1.lt x hx).1))); clear hr3 hg3))
            have hr3 := H3.out.1
            have hI3 : Ints w3 (some ⟨g3, 0, none⟩) ((O ++ [j]).map fun (x : Nat) => (x : Int)) := Ints.of_nats (by have e : intsOf (O ++ [j]) = intsOf O ++ intsOf [j] := (by simp [intsOf]); rw [e]; exact hr3)
            refine (HIH.out (O ++ [j]) (q + 1) g3 0 c3 w3 HOK.out.1 HOK.out.2 (by rw [List.length_append, HZ.out.2.2.2]; rfl) (by omega) hI3).mono ?_
            rintro e w4 ⟨v4, rfl, hL4, hb4⟩
            have hb14 := H3.out.2.trans (hb4.mono H3.out.2.size)
            have H4 := Lib.hid (And.intro (HL.out.kept hb14) (And.intro (hL4.weaken (show w.heap.size ≤ w3.heap.size from Nat.le_trans hsz H3.out.2.size)) (HB.out.trans (hb14.mono hsz))))
            clear hr3 hI3 hL4 hb4 hb14
            go_wp2_with (at_builtin; refine wpList_app_lists rfl (.tmp 40) (.tmp 48) rfl w.heap.size _ v4 (permsTo n k O j) (permsAll n k (O ++ [j])) rfl rfl H4.out.1 H4.out.2.1 HLEN.out H4.out.2.2.size ?_; intro v5 w5 hL5 hb5; have H5 := Lib.hid (And.intro hL5 (H4.out.2.2.trans hb5)); clear hL5 hb5)
            go_roundw
            case rel => exact ⟨j + 1, by omega, by go_num, H5.out.2, by rw [HP.out]; exact H5.out.1⟩
            case measure => simp [intOf]; omega
    · go_wp2
      go_ret
      obtain rfl : j = n := by omega
      exact ⟨_, rfl, HL.out, HB.out⟩


theorem orders_ref (n : Nat) (h1 : 1 ≤ n) (h9 : n ≤ 9) : ∀ k, OrdersAt n k
  | 0 => fun O p b off cap w _ _ hl hpk hz => by
    obtain rfl : p = n := by omega
    exact orders_leaf p h1 h9 O b off cap w hl hz
  | k + 1 => orders_step n k h1 h9 (orders_ref n h1 h9 k)

/-- 'append(out, list)'. -/
theorem wpList_app_list1 {W : World} {ops : Array Oper} {rest : List Oper} {o : Oper} {a : Act} {Q : Exit → Act → World → Prop} (hgd : o.guard = none) (s x : Operand)
    (ho : o.op = .call { callee := .builtin .append, args := #[s, x], argTypes := #[35, 35] }) (base : Nat) (v u : Value) (ls : List (List Nat)) (m : List Nat) (hs : a.eval s = v) (b : Nat)
    (hx : a.eval x = .slice (some ⟨b, 0, none⟩) 1 1) (hb : b = W.heap.size)
    (hv : ListsV W base ls v) (hu : ElemR W base m u) (hn : ls.length ≤ 1000000000) (hbase : base ≤ W.heap.size)
    (h : ∀ (v' : Value) (w' : World), ListsV w' base (ls ++ [m]) v' → Below base W w' → (∀ g1, some g1 ≠ v.ownBlock → g1 < W.heap.size → some g1 ≠ v'.ownBlock) → (∀ (ms : List (List Nat)) (v1 : Value), ListsV W base ms v1 → v1.ownBlock ≠ v.ownBlock → ListsV w' base ms v1) → wpList Try.prog ops Q rest (a.put o.dst v') w') :
    wpList Try.prog ops Q (o :: rest) a (W.alloc (.cells #[u] 22)) := by
  obtain ⟨i0, hi, hz0, hz1, hz2⟩ := info_parts info22
  have hba : Below W.heap.size W (W.alloc (.cells #[u] 22)) := (Below.refl _ _).alloc (Nat.le_refl _) _
  have hv' := hv.kept hba
  have hu' := hu.kept hba
  obtain ⟨g, cap, vs, rfl, hown, he⟩ := hv'
  have hvl : vs.length = ls.length := by simpa using hown.1
  have hv2 : ListsV (W.alloc (.cells #[u] 22)) base ls (.slice (some ⟨g, 0, none⟩) ls.length cap) := ⟨g, cap, vs, rfl, hown, he⟩
  refine wpList_append_own_at _ hgd s x 35 ho base 22 i0 (.slice none 0 0) 1 24 Try.underlying35 hi hz0 hz1 hz2 rfl (by decide) _ ls.length vs hs hown ⟨b, 0, none⟩ 1 1 [u] hx rfl (cells_new W [u] _ b hb) ?_ (by unfold maxLen; omega) (by omega) (by simp; omega) ?_
  · intro w hw
    obtain ⟨b2, c2, e, _⟩ := hu
    have : w = u := by simpa using hw
    rw [this, e]; rfl
  · intro v' w' hown' hg hnil hat
    refine h v' w' (hv2.append (ms := [m]) (ws := [u]) (fun i hi => ?_) rfl (fun vs' hvs' => ?_) hg) (hba.mono hbase |>.grown hg (by simp; omega) (fun k hk => (hown.lt k hk).1)) (fun g1 hne hlt e => ?_) (fun ms v1 hms hne => ?_)
    · have hi0 : i = 0 := by simpa using hi
      subst hi0
      exact hu'
    · have evs : vs' = vs := by
        rcases hown.2 with ⟨e, _⟩ | ⟨g1, c1, cur, e, _, hg1, _, _, _, ht⟩
        · cases e
        · cases e
          rcases hvs'.2 with ⟨e, _⟩ | ⟨g2, c2, cur2, e, _, hg2, _, _, _, ht2⟩
          · cases e
          · cases e
            rw [hg1] at hg2
            simp at hg2
            rw [← ht, ← ht2, hg2]
      subst evs
      rcases hown'.2 with ⟨e, _⟩ | ⟨g', c', cur', e, _⟩
      · have := (hnil.1 e).1
        cases this
      · exact ⟨g', c', e, hown'⟩
    · rcases hat with e2 | e2
      · rw [e2] at e; exact hne e
      · rw [e2] at e
        have : g1 = (W.alloc (.cells #[u] 22)).heap.size := by simpa using e
        simp at this
        omega
    · obtain ⟨g1, cap1, vs1, rfl, hown1, he1⟩ := hms.kept hba
      refine ⟨g1, cap1, vs1, rfl, hown1.kept hg (.inr hne), fun i hi => ?_⟩
      obtain ⟨b3, c3, e3, hr3⟩ := he1 i hi
      exact ⟨b3, c3, e3, hr3.kept hg (own_types_ne hr3 hown (by decide))⟩

set_option maxRecDepth 100000 in
set_option maxHeartbeats 8000000 in
theorem All_any (b off n cap : Nat) (zs : List Int) (w : World) (hn : zs.length = n) (hg : stripB zs = true) (hz : Ints w (some ⟨b, off, none⟩) zs) :
    Calls Try.prog 23 #[.slice (some ⟨b, off, none⟩) n cap, .bool false] w (Gives (fun v w' => ListsV w' w.heap.size (ordersOf (layCl zs) zs.length) v) w) := by
  obtain ⟨p1, p9, ps⟩ := strip_parts hg
  have h1 : 1 ≤ n := by omega
  have h9 : n ≤ 9 := by omega
  have HOr := Lib.hid (orders_ref n h1 h9 n [] 0)
  have HZ := Lib.hid (And.intro hz (And.intro hn hg))
  have HF : Hid (∀ (O : List Nat) (wx : World) (aO : Option Addr) (cO : Nat), Ints wx (some ⟨b, off, none⟩) zs → O ∈ permsAll n n [] → Ints wx aO (O.map fun (x : Nat) => (x : Int)) →
      Calls Try.prog 22 #[.slice (some ⟨b, off, none⟩) n cap, .slice aO n cO, .bool false] wx fun e w' => e = .returned (.bool (okFrom (layCl zs) zs.length O 0)) ∧ Below wx.heap.size wx w') := Lib.hid fun O wx aO cO h1' hO h2' => by
    obtain ⟨e1, e2, e3, _⟩ := permsAll_ok n n [] List.nodup_nil (by simp) O hO
    obtain ⟨m, hm⟩ : ∃ m, n = m + 1 := ⟨n - 1, by omega⟩
    rw [← refB_ok hg e2 (by rw [hn]; exact e3) (by rw [hn]; simpa using e1)]
    subst hm
    exact refFolds_any _ aO m cap cO zs O wx hn hg h1' (by simpa using e1) e3 h2'
  have HLE := Lib.hid (show (permsAll n n []).length ≤ 387420489 from Nat.le_trans (permsAll_le n n []) (pow_bound h9 h9))
  have HEQ : Hid (ordersOf (layCl zs) zs.length = (permsAll n n []).filter (okFrom (layCl zs) zs.length · 0)) := Lib.hid (by rw [ordersOf, orders_filter, hn])
  clear hz hn hg p1 p9 ps
  go_enter Try.func23, Try.ntmps23
  go_wp2_with fail
  refine (HOr.out _ _ 0 _ List.nodup_nil (by simp) rfl (by omega) (fun i hi => by simp at hi)).mono ?_
  rintro e w1 ⟨v1, rfl, hL, hb1⟩
  have hL' := hL.weaken (show w.heap.size ≤ ((w.alloc (.cells #[] 22)).alloc (.cells #[] 3)).heap.size by simp; omega)
  obtain ⟨gA, cA, vsA, rfl, hrA, _⟩ := hL
  have hneA : w.heap.size + 2 ≤ gA := by have := (hrA.lt gA rfl).1; simpa using this
  have hltA := (hrA.lt gA rfl).2
  have hrow0 := row_below (heap_alloc_new w (.cells #[] 22)) (show Below (w.heap.size + 1) (w.alloc (.cells #[] 22)) w1 from ((Below.refl _ _).alloc (by simp) _).trans (hb1.mono (by simp))) (by omega)
  have hbw : Below w.heap.size w w1 := (((Below.refl _ w).alloc (Nat.le_refl _) _).alloc (by simp) _).trans (hb1.mono (by simp; omega))
  have H1 := Lib.hid (And.intro hL' (And.intro hbw hrow0))
  clear hL' hrA hb1 HOr hrow0 hbw
  go_wp2
  go_loopw [5, 7] (fun v i wr => ∃ k : Nat, k ≤ (permsAll n n []).length ∧ i = .int .i64 k ∧ Below w.heap.size w wr ∧ ListsV wr w.heap.size (((permsAll n n []).take k).filter (okFrom (layCl zs) zs.length · 0)) v ∧ ListsV wr w.heap.size (permsAll n n []) (.slice (some ⟨gA, 0, none⟩) (permsAll n n []).length cA) ∧ some gA ≠ v.ownBlock ∧ gA < wr.heap.size) (fun _ i _ => (permsAll n n []).length - (intOf i).toNat)
  case atStart =>
    refine ⟨0, Nat.zero_le _, rfl, H1.out.2.1, ⟨w.heap.size, 0, [], rfl, ⟨rfl, .inr ⟨w.heap.size, 0, #[], rfl, Nat.le_refl _, H1.out.2.2, Nat.le_refl _, by unfold maxLen; omega, rfl, rfl⟩⟩, fun i hi => by simp at hi⟩, H1.out.1, ?_, hltA⟩
    simp [Value.ownBlock]; omega
  case round =>
    obtain ⟨k, hk, rfl, hb, hL, hA, hgv, hgs⟩ := hrel
    have HB := Lib.hid hb
    have HL := Lib.hid hL
    have HA := Lib.hid hA
    have HG := Lib.hid hgv
    clear hb hL hA hgv
    have hlen := HLE.out
    obtain ⟨PL, hPL⟩ : ∃ PL, permsAll n n [] = PL := ⟨_, rfl⟩
    rw [hPL] at hk hlen HL HA ⊢
    have HPL := Lib.hid hPL
    clear hPL
    by_cases hlt : k < PL.length
    · obtain ⟨gB, cB, vsB, eB, hrB, heB⟩ := HA.out
      obtain ⟨gv, cv, vsv, rfl, _, _⟩ := HL.out
      have hvl : vsB.length = PL.length := by simpa using hrB.1
      cases eB
      have cell := hrB.cellAt k (by omega)
      rw [List.getElem?_eq_getElem (by omega)] at cell
      have hel := heB k hlt
      rw [List.getElem?_eq_getElem hlt, List.getElem?_eq_getElem (by omega : k < vsB.length), Option.getD_some, Option.getD_some] at hel
      obtain ⟨eb, ec, ee, er⟩ := hel
      rw [ee] at cell er
      have hO := List.getElem_mem hlt
      have HT : Hid ((PL.take (k + 1)).filter (okFrom (layCl zs) zs.length · 0) = (PL.take k).filter (okFrom (layCl zs) zs.length · 0) ++ (if okFrom (layCl zs) zs.length PL[k] 0 = true then [PL[k]] else [])) := Lib.hid (by
        rw [List.take_succ_eq_append_getElem hlt, List.filter_append]
        cases h : okFrom (layCl zs) zs.length PL[k] 0 <;> simp [h])
      have hOl : PL[k].length = n := by
        have := permsAll_ok n n [] List.nodup_nil (by simp) PL[k] (by rw [HPL.out]; exact hO)
        simpa using this.1
      rw [hOl] at cell er
      have hI : Ints wr (some ⟨eb, 0, none⟩) (PL[k].map fun (x : Nat) => (x : Int)) := Ints.of_nats (by have := er; exact this)
      have HFo := Lib.hid (HF.out PL[k] wr (some ⟨eb, 0, none⟩) ec (HZ.out.1.below HB.out) (by rw [HPL.out]; exact hO) hI)
      have HEl : Hid (ElemR wr w.heap.size PL[k] (.slice (some ⟨eb, 0, none⟩) n ec)) := Lib.hid ⟨eb, ec, by rw [hOl], by rw [hOl]; exact er⟩
      generalize PL[k] = O at *
      clear hrB heB hvl ee er hO hI hOl
      rcases Bool.eq_false_or_eq_true (okFrom (layCl zs) zs.length O 0) with hok | hok
      · rw [hok, if_pos rfl] at HT
        rw [hok] at HFo
        clear hok
        go_wp2_with fail
        refine HFo.out.mono ?_
        rintro e w3 ⟨rfl, hb3⟩
        have cell3 := (hb3.cell (p := ⟨gA, k, none⟩) hgs).trans cell
        have hgs3 : gA < w3.heap.size := Nat.lt_of_lt_of_le hgs hb3.size
        have HB3 := Lib.hid (HB.out.trans (hb3.mono HB.out.size))
        have HL3 := Lib.hid (HL.out.kept hb3)
        have HA3 := Lib.hid (HA.out.kept hb3)
        have HE3 := Lib.hid (HEl.out.kept hb3)
        have hfl : Hid (((PL.take k).filter (okFrom (layCl zs) zs.length · 0)).length ≤ 1000000000) := Lib.hid (by
          have := List.length_filter_le (okFrom (layCl zs) zs.length · 0) (PL.take k)
          rw [List.length_take] at this
          omega)
        clear cell hb3 HFo
        go_wp2_with (at_builtin; refine wpList_app_list1 rfl (.tmp 26) (.tmp 31) rfl w.heap.size _ _ ((PL.take k).filter (okFrom (layCl zs) zs.length · 0)) O rfl _ rfl rfl HL3.out HE3.out hfl.out HB3.out.size ?_; intro v5 w5 hL5 hb5 hg5 hk5; have H5 := Lib.hid (And.intro hL5 (And.intro (HB3.out.trans hb5) (And.intro (hk5 _ _ HA3.out (fun e => HG.out e)) (And.intro (hg5 gA HG.out hgs3) (Nat.lt_of_lt_of_le hgs3 hb5.size))))); clear hL5 hb5 hg5 hk5)
        go_roundw
        case rel => exact ⟨k + 1, by omega, by go_num, H5.out.2.1, by rw [HT.out]; exact H5.out.1, H5.out.2.2.1, H5.out.2.2.2.1, H5.out.2.2.2.2⟩
        case measure => simp [intOf]; omega
      · rw [hok, if_neg Bool.false_ne_true, List.append_nil] at HT
        rw [hok] at HFo
        clear hok
        go_wp2_with fail
        refine HFo.out.mono ?_
        rintro e w3 ⟨rfl, hb3⟩
        have H3 := Lib.hid (And.intro (HB.out.trans (hb3.mono HB.out.size)) (And.intro (HL.out.kept hb3) (And.intro (HA.out.kept hb3) (Nat.lt_of_lt_of_le hgs hb3.size))))
        clear hb3
        go_wp2
        go_roundw
        case rel => exact ⟨k + 1, by omega, by go_num, H3.out.1, by rw [HT.out]; exact H3.out.2.1, H3.out.2.2.1, HG.out, H3.out.2.2.2⟩
        case measure => simp [intOf]; omega
    · go_wp2
      go_ret
      have hk' : k = PL.length := by omega
      subst hk'
      have hh := HL.out
      rw [List.take_length, ← HPL.out, ← HEQ.out] at hh
      exact ⟨_, rfl, hh, HB.out⟩

end Go.Proofs.Yteankhgikpejhaa
