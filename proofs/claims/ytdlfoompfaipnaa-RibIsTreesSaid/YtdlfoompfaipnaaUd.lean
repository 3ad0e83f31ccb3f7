/-
  Clique trees: the reference's 'Has'; the program's 'partsOf' and 'join'.
-/
import Derived.Test.YtdlfoompfaipnaaUc
namespace Go.Proofs.Ytdlfoompfaipnaa
open Go.RowKit Go.Sort

set_option maxHeartbeats 1000000 in
theorem Has_any (a : Option Addr) (n cap : Nat) (l : List Int) (v : Int) (w : World) (hl : l.length = n) (hn : n ≤ 1000000) (hz : Ints w a l) :
    Calls Try.prog 55 #[.slice a n cap, .int .i64 v] w fun e w' => e = .returned (.bool (decide (v ∈ l))) ∧ w = w' := by
  have HX := Lib.hid hz.at
  have HL := Lib.hid hl
  clear hz hl
  go_enter Try.func55, Try.ntmps55
  go_wp2
  go_loop [5] (fun i => ∃ k : Nat, k ≤ n ∧ i = .int .i64 k ∧ Hid (v ∉ l.take k)) (fun i => n - (intOf i).toNat)
  case atStart => exact ⟨0, Nat.zero_le _, rfl, Lib.hid (by simp)⟩
  case round =>
    obtain ⟨k, hk, rfl, HN⟩ := hrel
    by_cases hlt : k < n
    · have hkL : k < l.length := by rw [HL.out]; exact hlt
      rcases HX.out with h | ⟨b, off, rfl, hc⟩
      · subst h; simp at hkL
      have cc := hc k hkL
      have HE : Hid (l.take (k + 1) = l.take k ++ [l[k]?.getD 0]) := Lib.hid (by rw [List.take_succ_eq_append_getElem hkL, List.getElem?_eq_getElem hkL]; rfl)
      have HM : Hid (l[k]?.getD 0 ∈ l) := Lib.hid (by rw [List.getElem?_eq_getElem hkL]; exact List.getElem_mem hkL)
      obtain ⟨x, hx⟩ : ∃ x, l[k]?.getD 0 = x := ⟨_, rfl⟩
      rw [hx] at cc HE HM
      clear hc hx hkL
      by_cases hxv : x = v
      · subst hxv
        go_wp2
        go_ret
        exact ⟨ret_bool (Eq.symm (decide_eq_true HM.out)), rfl⟩
      · have hb : (x == v) = false := by simpa using hxv
        go_wp2
        go_round
        case rel => exact ⟨k + 1, by omega, by go_num, Lib.hid (by
          rw [HE.out, List.mem_append, List.mem_singleton]
          rintro (h | h)
          · exact HN.out h
          · exact hxv h.symm)⟩
        case measure => simp [intOf]; omega
    · obtain rfl : k = n := by omega
      go_wp2
      go_ret
      refine ⟨ret_bool (Eq.symm ?_), rfl⟩
      have h := HN.out
      rw [List.take_of_length_le (by rw [HL.out]; exact Nat.le_refl _)] at h
      exact decide_eq_false h

/-- 'append(p, i)' of parts. -/
theorem wpList_app_part {W : World} {ops : Array Oper} {rest : List Oper} {o : Oper} {a : Act} {Q : Exit → Act → World → Prop} (hgd : o.guard = none) (s x : Operand)
    (ho : o.op = .call { callee := .builtin .append, args := #[s, x], argTypes := #[108, 108] }) (base : Nat) (v : Value) (n : Nat) (xs : List Value) (hs : a.eval s = v) (z : Int) (b : Nat)
    (hx : a.eval x = .slice (some ⟨b, 0, none⟩) 1 1) (hb : b = W.heap.size) (hown : W.ownsRow base 3 1 v n xs) (hn : n ≤ 1000000) (hbase : base ≤ W.heap.size)
    (h : ∀ (g cap : Nat) (w' : World), w'.ownsRow base 3 1 (.slice (some ⟨g, 0, none⟩) (n + 1) cap) (n + 1) (xs ++ [.int .i64 z]) → W.grownBy w' v.ownBlock → wpList Try.prog ops Q rest (a.put o.dst (.slice (some ⟨g, 0, none⟩) (n + 1) cap)) w') :
    wpList Try.prog ops Q (o :: rest) a (W.alloc (.cells #[.int .i64 z] 3)) := by
  obtain ⟨i0, hi, hz0, hz1, hz2⟩ := info_parts Try.info3
  refine wpList_append_own_at _ hgd s x 108 ho base 3 i0 (.int .i64 0) 1 8 Try.underlying108 hi hz0 hz1 hz2 rfl (by decide) v n xs hs (hown.alloc _) ⟨b, 0, none⟩ 1 1 [.int .i64 z] hx rfl (cells_new W [.int .i64 z] _ b hb) (by simp [Value.oneCell']) (by unfold maxLen; omega) (by omega) (by simp; omega) ?_
  intro v' w' hown' hg _ hat
  obtain ⟨g, cap, rfl⟩ := ownsRow_succ' hown'
  exact h g cap w' hown' (grown_alloc hg)

/-- What 'partsOf' hands back. -/
def PartsV (w : World) (ps : List Int) (n : Nat) (v : Value) (wr : World) : Prop := ps.length = n ∧ wr.ownsRow w.heap.size 3 1 v n (ps.map (Value.int .i64)) ∧ Below w.heap.size w wr

set_option maxRecDepth 100000 in
set_option maxHeartbeats 2000000 in
theorem partsOf_any (n : Nat) (w : World) (hn : n ≤ 5000) :
    Calls Try.prog 79 #[.int .i64 n] w fun e w' => ∃ v, e = .returned v ∧ PartsV w ((List.range n).map fun (x : Nat) => (x : Int)) n v w' := by
  go_enter Try.func79, Try.ntmps79
  go_wp2
  go_loopw [3, 4, 6] (fun v3 _ v6 wr => ∃ k : Nat, k ≤ n ∧ v6 = .int .i64 k ∧ PartsV w ((List.range k).map fun (x : Nat) => (x : Int)) k v3 wr) (fun _ _ v6 _ => n - (intOf v6).toNat)
  case atStart => exact ⟨0, Nat.zero_le _, rfl, rfl, ⟨rfl, .inl ⟨rfl, rfl⟩⟩, Below.refl _ _⟩
  case round =>
    obtain ⟨k, hk, rfl, hC⟩ := hrel
    have HC := Lib.hid hC
    have hsz := hC.2.2.size
    obtain ⟨a0, c0, rfl⟩ := ownsRow_slice hC.2.1
    clear hC
    by_cases hlt : k < n
    · go_wp2_with (at_builtin; refine wpList_app_part rfl (.tmp 9) (.tmp 11) rfl w.heap.size (.slice a0 k c0) k (((List.range k).map fun (x : Nat) => (x : Int)).map (Value.int .i64)) rfl (k : Int) _ rfl rfl HC.out.2.1 (by omega) hsz ?_; intro g cp w2 hr2 hg2; have H2 := Lib.hid (And.intro hr2 (HC.out.2.2.grown hg2 hsz (fun x hx => (HC.out.2.1.lt x hx).1))); clear hr2 hg2)
      go_roundw
      case rel => exact ⟨k + 1, by omega, by go_num, by simp, by rw [List.range_succ, List.map_append, List.map_append]; exact H2.out.1, H2.out.2⟩
      case measure => simp [intOf]; omega
    · obtain rfl : k = n := by omega
      go_wp2
      go_ret
      exact ⟨_, rfl, HC.out⟩

/-- One part becomes another one. -/
def joinTo (ps : List Int) (f t : Int) (k : Nat) : List Int := ((ps.take k).map fun x => if x = f then t else x) ++ ps.drop k
def joinL (ps : List Int) (f t : Int) : List Int := ps.map fun x => if x = f then t else x
theorem joinTo_all (ps : List Int) (f t : Int) : joinTo ps f t ps.length = joinL ps f t := by simp [joinTo, joinL]
theorem joinTo_zero (ps : List Int) (f t : Int) : joinTo ps f t 0 = ps := by simp [joinTo]
theorem joinTo_len (ps : List Int) (f t : Int) (k : Nat) : (joinTo ps f t k).length = ps.length := by
  simp [joinTo]; omega
theorem joinTo_at (ps : List Int) (f t : Int) {k : Nat} (hk : k < ps.length) : (joinTo ps f t k)[k]? = some (ps[k]?.getD 0) := by
  rw [joinTo, List.getElem?_append_right (by simp; omega), List.length_map, List.length_take, List.getElem?_drop, show min k ps.length = k by omega, Nat.sub_self, Nat.add_zero, List.getElem?_eq_getElem hk]; rfl
theorem joinTo_set (ps : List Int) (f t : Int) {k : Nat} (hk : k < ps.length) : joinTo ps f t (k + 1) = (joinTo ps f t k).set k (if ps[k]?.getD 0 = f then t else ps[k]?.getD 0) := by
  rw [joinTo, joinTo, List.take_succ_eq_append_getElem hk, List.map_append, List.drop_eq_getElem_cons hk, List.set_append_right _ _ (by simp; omega), List.getElem?_eq_getElem hk, List.length_map, List.length_take, show min k ps.length = k by omega, Nat.sub_self, List.set_cons_zero, List.append_assoc]
  rfl
theorem joinTo_same (ps : List Int) (f t : Int) {k : Nat} (hk : k < ps.length) (h : ps[k]?.getD 0 ≠ f) : joinTo ps f t (k + 1) = joinTo ps f t k := by
  rw [joinTo_set ps f t hk, if_neg h]
  refine List.ext_getElem? fun i => ?_
  rw [List.getElem?_set]
  split
  · rename_i e; subst e
    rw [if_pos (by rw [joinTo_len]; exact hk), joinTo_at ps f t hk]
  · rfl

theorem owns_set {w : World} {base g cap n : Nat} {zs : List Int} (h : w.ownsRow base 3 1 (.slice (some ⟨g, 0, none⟩) n cap) n (zs.map (Value.int .i64))) (i : Nat) (x : Int) : (w.setCell ⟨g, i, none⟩ (.int .i64 x)).ownsRow base 3 1 (.slice (some ⟨g, 0, none⟩) n cap) n ((zs.set i x).map (Value.int .i64)) ∧ w.frozen? ⟨g, i, none⟩ = false := by
  have hl : (zs.map (Value.int .i64)).length = n := by simpa using h.1
  rcases h.2 with ⟨e, _⟩ | ⟨g', cap', cur, e, hb, hg, h1, h2, h3, h4⟩
  · cases e
  · cases e
    refine ⟨⟨by simpa using h.1, .inr ⟨g, cap, _, rfl, hb, heap_setCell_self hg (i := i) (.int .i64 x), h1, h2, by simpa using h3, ?_⟩⟩, by simp [World.frozen?, hg]⟩
    rw [Array.toList_setIfInBounds, List.take_set, h4]
    simp [List.map_set]
theorem owns_drewN {w : World} {base : Nat} {e : TypeId} {size : Nat} {v : Value} {n : Nat} {xs : List Value} (h : w.ownsRow base e size v n xs) (q : Nat) : (w.drewN q).ownsRow base e size v n xs := ownsRow_kept h (below_drewN (Below.refl _ _) q)

set_option maxRecDepth 100000 in
set_option maxHeartbeats 4000000 in
theorem join_any (g n cap base A B : Nat) (ps : List Int) (w : World) (hA : A < n) (hB : B < n) (hn : n ≤ 5000) (hbs : base ≤ w.heap.size) (hown : w.ownsRow base 3 1 (.slice (some ⟨g, 0, none⟩) n cap) n (ps.map (Value.int .i64))) :
    Calls Try.prog 80 #[.slice (some ⟨g, 0, none⟩) n cap, .agg #[.int .i64 A, .int .i64 B]] w fun e w' => e = .returned (.bool (ps[A]?.getD 0 != ps[B]?.getD 0)) ∧ w'.ownsRow base 3 1 (.slice (some ⟨g, 0, none⟩) n cap) n ((joinL ps (ps[A]?.getD 0) (ps[B]?.getD 0)).map (Value.int .i64)) ∧ Below base w w' := by
  have hl : ps.length = n := by simpa using hown.1
  have HL := Lib.hid hl
  have ho1 : (w.alloc (.cells #[.int .i64 A, .int .i64 B] 65)).ownsRow base 3 1 (.slice (some ⟨g, 0, none⟩) n cap) n (ps.map (Value.int .i64)) := hown.alloc _
  have cA := ho1.cellAt A (by simp [hl]; exact hA)
  have cB := ho1.cellAt B (by simp [hl]; exact hB)
  have eA : (ps.map (Value.int .i64))[A]? = some (.int .i64 (ps[A]?.getD 0)) := by rw [List.getElem?_map, List.getElem?_eq_getElem (by rw [hl]; exact hA)]; rfl
  have eB : (ps.map (Value.int .i64))[B]? = some (.int .i64 (ps[B]?.getD 0)) := by rw [List.getElem?_map, List.getElem?_eq_getElem (by rw [hl]; exact hB)]; rfl
  rw [eA] at cA
  rw [eB] at cB
  have HB1 : Hid (Below base w (w.alloc (.cells #[.int .i64 A, .int .i64 B] 65))) := Lib.hid ((Below.refl _ _).alloc hbs _)
  have HO1 := Lib.hid ho1
  obtain ⟨f, hf⟩ : ∃ f, ps[A]?.getD 0 = f := ⟨_, rfl⟩
  obtain ⟨t, ht⟩ : ∃ t, ps[B]?.getD 0 = t := ⟨_, rfl⟩
  rw [hf] at cA ⊢
  rw [ht] at cB ⊢
  have hAi : (A : Int) < (n : Int) := by omega
  have hBi : (B : Int) < (n : Int) := by omega
  clear hf ht eA eB ho1 hown hl
  go_enter Try.func80, Try.ntmps80
  go_wp2
  go_quiet (fail)
  have HO2 := Lib.hid (owns_drewN HO1.out nq)
  have HB2 := Lib.hid (below_drewN HB1.out nq)
  obtain ⟨w2, hw2⟩ : ∃ w2, (w.alloc (.cells #[.int .i64 A, .int .i64 B] 65)).drewN nq = w2 := ⟨_, rfl⟩
  rw [hw2] at HO2 HB2 ⊢
  clear hw2 cA cB HO1 HB1
  go_wp2
  go_loopw [7, 8, 21] (fun _ _ v21 wr => ∃ k : Nat, k ≤ n ∧ v21 = .int .i64 k ∧ Hid (wr.ownsRow base 3 1 (.slice (some ⟨g, 0, none⟩) n cap) n ((joinTo ps f t k).map (Value.int .i64))) ∧ Hid (Below base w wr)) (fun _ _ v21 _ => n - (intOf v21).toNat)
  case atStart => exact ⟨0, Nat.zero_le _, rfl, Lib.hid (by rw [joinTo_zero]; exact HO2.out), HB2⟩
  case round =>
    obtain ⟨k, hk, rfl, HO, HB⟩ := hrel
    by_cases hlt : k < n
    · have hkL : k < ps.length := by rw [HL.out]; exact hlt
      have cc := HO.out.cellAt k (by omega)
      rw [List.getElem?_map, joinTo_at ps f t hkL, Option.map_some] at cc
      have HS := Lib.hid (joinTo_set ps f t hkL)
      have HE := Lib.hid (joinTo_same ps f t hkL)
      obtain ⟨hset, hfz⟩ := owns_set HO.out k t
      have hgb : base ≤ g := (HO.out.lt g rfl).1
      have HSET := Lib.hid hset
      obtain ⟨x, hx⟩ : ∃ x, ps[k]?.getD 0 = x := ⟨_, rfl⟩
      rw [hx] at cc HS HE
      clear hx hkL hset
      by_cases hxf : x = f
      · subst hxf
        rw [if_pos rfl] at HS
        go_wp2
        go_roundw
        case rel => exact ⟨k + 1, by omega, by go_num, Lib.hid (by rw [HS.out]; exact HSET.out), Lib.hid (HB.out.setCell hgb _)⟩
        case measure => simp [intOf]; omega
      · have hb : (x == f) = false := by simpa using hxf
        have HE2 := Lib.hid (HE.out hxf)
        go_wp2
        go_roundw
        case rel => exact ⟨k + 1, by omega, by go_num, Lib.hid (by rw [HE2.out]; exact HO.out), HB⟩
        case measure => simp [intOf]; omega
    · obtain rfl : k = n := by omega
      have HJ : Hid (joinTo ps f t k = joinL ps f t) := Lib.hid (by rw [← HL.out, joinTo_all])
      go_wp2
      go_ret
      exact ⟨rfl, by rw [← HJ.out]; exact HO.out, HB.out⟩

end Go.Proofs.Ytdlfoompfaipnaa
