/-
  The reference's 'Sizes' and 'Strip'; 'cut'.
-/
import Derived.Test.YteankhgikpejhaaJa
import Derived.Laws.AppendOwnNone
namespace Go.Proofs.Yteankhgikpejhaa
open Go.RowKit Go.Sort

theorem inB_size (z : Int) : inB z 1 1000 = sizeB z := rfl

set_option maxHeartbeats 2000000 in
theorem Sizes_any (a : Option Addr) (n cap : Nat) (lo hi : Int) (zs : List Int) (w : World) (hn : zs.length = n) (hm : n ≤ 9223372036854775807) (hz : Ints w a zs) :
    Calls Try.prog 54 #[.slice a n cap, .int .i64 lo, .int .i64 hi] w fun e w' => e = .returned (.bool (sizesB zs && inB n lo hi)) ∧ w = w' := by
  have HX := Lib.hid hz.at
  have HN := Lib.hid hn
  have HI := Lib.hid in_any
  clear hz hn
  go_enter Try.func54, Try.ntmps54
  go_wp2
  go_loop [7] (fun i => ∃ k : Nat, k ≤ n ∧ i = .int .i64 k ∧ (zs.take k).all sizeB = true) (fun i => n - (intOf i).toNat)
  case atStart => exact ⟨0, Nat.zero_le _, rfl, by simp⟩
  case round =>
    obtain ⟨k, hk, rfl, hall⟩ := hrel
    have HA := Lib.hid hall
    clear hall
    by_cases hlt : k < n
    · rcases HX.out with h | ⟨b, off, rfl, hc⟩
      · have := HN.out; subst h; simp at this; omega
      have hj : k < zs.length := by rw [HN.out]; exact hlt
      have c0 := hc k hj
      have e : zs[k]?.getD 0 = zs[k] := by rw [List.getElem?_eq_getElem hj]; rfl
      have HE := Lib.hid e
      obtain ⟨z, hzk⟩ : ∃ z, zs[k]?.getD 0 = z := ⟨_, rfl⟩
      rw [hzk] at c0
      have HZ := Lib.hid hzk
      clear hc e hzk
      rcases Bool.eq_false_or_eq_true (inB z 1 1000) with hs | hs
      · have HS := Lib.hid hs
        clear hs
        go_wp2_with (go_at_call 55; refine (HI.out z 1 1000 w).mono ?_; rw [HS.out]; rintro e w' ⟨rfl, rfl⟩)
        go_round
        case rel => exact ⟨k + 1, by omega, by go_num, all_next _ _ k hj HA.out (by rw [← HE.out, HZ.out, ← inB_size]; exact HS.out)⟩
        case measure => simp [intOf]; omega
      · have HS := Lib.hid hs
        clear hs
        go_wp2_with (go_at_call 55; refine (HI.out z 1 1000 w).mono ?_; rw [HS.out]; rintro e w' ⟨rfl, rfl⟩)
        go_ret
        refine ⟨ret_bool (Eq.symm ?_), rfl⟩
        rw [sizesB, all_false_at _ _ k hj (by rw [← HE.out, HZ.out, ← inB_size]; exact HS.out), Bool.false_and]
    · obtain rfl : k = n := by omega
      go_wp2_with (go_at_call 55; refine (HI.out _ lo hi w).mono ?_; rintro e w' ⟨rfl, rfl⟩)
      go_ret
      refine ⟨ret_bool ?_, rfl⟩
      have := HA.out
      rw [List.take_of_length_le (by rw [HN.out]; exact Nat.le_refl _)] at this
      rw [sizesB, this, Bool.true_and]

theorem Strip_any (a : Option Addr) (n cap : Nat) (zs : List Int) (w : World) (hn : zs.length = n) (hm : n ≤ 9223372036854775807) (hz : Ints w a zs) :
    Calls Try.prog 19 #[.slice a n cap] w fun e w' => e = .returned (.bool (stripB zs)) ∧ w = w' := by
  have HS := Lib.hid (Sizes_any a n cap 1 9 zs w hn hm hz)
  have HE : Hid (stripB zs = (sizesB zs && inB n 1 9)) := Lib.hid (by
    rw [stripB, inB, hn, Bool.and_comm]
    congr 1
    rw [Bool.eq_iff_iff]
    simp only [Bool.and_eq_true, decide_eq_true_eq]
    omega)
  clear hz hn
  go_enter Try.func19, Try.ntmps19
  go_wp2_with (go_at_call 54; refine HS.out.mono ?_; rintro e w' ⟨rfl, rfl⟩)
  go_ret
  exact ⟨ret_bool HE.out.symm, rfl⟩

/-- A copy of the first elements. -/
def cutZ (zs : List Int) (most limit : Nat) : List Int := zs.take (if limit < zs.length then limit + 1 else most)

/-- 'append(v, x...)' of integers that are any numbers. -/
theorem wpList_app_zs {W : World} {ops : Array Oper} {rest : List Oper} {o : Oper} {a : Act} {Q : Exit → Act → World → Prop} (hgd : o.guard = none) (s x : Operand)
    (ho : o.op = .call { callee := .builtin .append, args := #[s, x], argTypes := #[22, 22] }) (base : Nat) (v : Value) (n : Nat) (xs : List Value) (hs : a.eval s = v) (b off m c : Nat) (zs : List Int)
    (hx : a.eval x = .slice (some ⟨b, off, none⟩) m c) (hl : zs.length = m) (hc : ∀ j, j < zs.length → W.cell? ⟨b, off + j, none⟩ = some (.int .i64 (zs[j]?.getD 0))) (hown : W.ownsRow base 3 1 v n xs) (r : Nat) (hr : n + m = r) (hn : r ≤ 1000000) (hbase : base ≤ W.heap.size)
    (h : ∀ (a' : Option Addr) (c' : Nat) (w' : World), w'.ownsRow base 3 1 (.slice a' r c') r (xs ++ zs.map (Value.int .i64)) → W.grownBy w' v.ownBlock → wpList Try.prog ops Q rest (a.put o.dst (.slice a' r c')) w') :
    wpList Try.prog ops Q (o :: rest) a W := by
  obtain ⟨i0, hi, hz0, hz1, hz2⟩ := info_parts Try.info3
  subst hr
  refine wpList_append_own_at _ hgd s x 22 ho base 3 i0 (.int .i64 0) 1 8 Try.underlying22 hi hz0 hz1 hz2 rfl (by decide) v n xs hs hown ⟨b, off, none⟩ m c (zs.map (Value.int .i64)) hx (by simp [hl]) ?_ (by simp [Value.oneCell']) (by unfold maxLen; omega) (by omega) hbase ?_
  · intro j u hj
    have hjl : j < zs.length := by have := (List.getElem?_eq_some_iff.1 hj).1; simpa using this
    have hadd : (⟨b, off, none⟩ : Addr).add j = ⟨b, off + j, none⟩ := by unfold Addr.add; split <;> simp_all
    rw [hadd, hc j hjl, ← hj]
    simp [hjl]
  · intro v' w' hown' hg _ _
    obtain ⟨a', c', rfl⟩ := ownsRow_slice hown'
    exact h a' c' w' hown' hg

/-- What 'cut' hands back. -/
def CutV (w w' : World) (l : List Int) (v : Value) : Prop := ∃ a c, v = .slice a l.length c ∧ Ints w' a l
/-- .. with its capacity. -/
def CutV2 (w w' : World) (l : List Int) (v : Value) : Prop := ∃ a c, v = .slice a l.length c ∧ l.length ≤ c ∧ Ints w' a l

/-- 'append(v, x...)' of nothing. -/
theorem wpList_app_nothing {W : World} {ops : Array Oper} {rest : List Oper} {o : Oper} {a : Act} {Q : Exit → Act → World → Prop} (hgd : o.guard = none) (s x : Operand)
    (ho : o.op = .call { callee := .builtin .append, args := #[s, x], argTypes := #[22, 22] }) (base : Nat) (v : Value) (n : Nat) (xs : List Value) (hs : a.eval s = v) (ad : Option Addr) (c : Nat)
    (hx : a.eval x = .slice ad 0 c) (hnone : ad = none → c = 0) (hown : W.ownsRow base 3 1 v n xs) (hn : n ≤ 1000000) (hbase : base ≤ W.heap.size)
    (h : ∀ (a' : Option Addr) (c' : Nat) (w' : World), w'.ownsRow base 3 1 (.slice a' n c') n xs → W.grownBy w' v.ownBlock → wpList Try.prog ops Q rest (a.put o.dst (.slice a' n c')) w') :
    wpList Try.prog ops Q (o :: rest) a W := by
  obtain ⟨i0, hi, hz0, hz1, hz2⟩ := info_parts Try.info3
  cases ad with
  | none =>
    have := hnone rfl
    subst this
    obtain ⟨a', c', rfl⟩ := ownsRow_slice hown
    exact wpList_append_own_none hgd s x 22 ho base 3 i0 1 Try.underlying22 hi _ n xs hs hown hx (h a' c' W hown ⟨rfl, rfl, rfl, Nat.le_refl _, fun _ _ _ => rfl⟩)
  | some ad =>
    refine wpList_append_own_at _ hgd s x 22 ho base 3 i0 (.int .i64 0) 1 8 Try.underlying22 hi hz0 hz1 hz2 rfl (by decide) v n xs hs hown ad 0 c [] hx rfl (fun j u hj => by simp at hj) (by simp) (by unfold maxLen; omega) (by omega) hbase ?_
    intro v' w' hown' hg _ _
    obtain ⟨a', c', rfl⟩ := ownsRow_slice hown'
    rw [List.append_nil] at hown'
    exact h a' c' w' hown' hg

theorem cut_fin {w w2 : World} {a2 : Option Addr} {r c2 : Nat} {l : List Int} (hlr : l.length = r) (hr2 : w2.ownsRow w.heap.size 3 1 (.slice a2 r c2) r ([] ++ l.map (Value.int .i64))) (hg2 : (w.alloc (.cells #[] 3)).grownBy w2 (Value.slice (some ⟨w.heap.size, 0, none⟩) 0 0).ownBlock) :
    CutV2 w w2 l (.slice a2 r c2) ∧ Below w.heap.size w w2 := by
  subst hlr
  have hle : l.length ≤ c2 := by
    rcases hr2.2 with ⟨e, h0⟩ | ⟨g, cap, cur, e, _, _, h1, _⟩
    · omega
    · cases e; exact h1
  exact ⟨⟨a2, c2, rfl, hle, Ints.of_owns hr2⟩, ((Below.refl _ w).alloc (Nat.le_refl _) (.cells #[] 3)).grown hg2 (by simp) (fun x hx => by
    have : w.heap.size = x := by simpa [Value.ownBlock] using hx
    omega)⟩

set_option maxRecDepth 100000 in
set_option maxHeartbeats 2000000 in
theorem cut_any2 (a : Option Addr) (n cap most limit : Nat) (zs : List Int) (w : World) (hn : zs.length = n) (hm : n ≤ 9223372036854775807) (hcap : n ≤ cap) (hnone : a = none → cap = 0) (hm1 : 1 ≤ most) (hm2 : most ≤ limit) (hl : limit ≤ 1000) (hz : Ints w a zs) :
    Calls Try.prog 15 #[.slice a n cap, .int .i64 most, .int .i64 limit] w (Gives (fun v w' => CutV2 w w' (cutZ zs most limit) v) w) := by
  by_cases h0 : n = 0
  · subst h0
    have e : zs = [] := List.eq_nil_of_length_eq_zero hn
    subst e
    have hmin : min (0 : Int) (most : Int) = 0 := by omega
    have HNo := Lib.hid hnone
    clear hz hnone
    have hd : decide ((limit : Int) < 0) = false := decide_eq_false (by omega)
    cases a with
    | none =>
      have hc0 := HNo.out rfl
      subst hc0
      go_enter Try.func15, Try.ntmps15
      go_wp2_with (at_builtin; refine wpList_app_nothing rfl (.tmp 13) (.tmp 19) rfl w.heap.size (.slice (some ⟨w.heap.size, 0, none⟩) 0 0) 0 [] rfl none 0 rfl (fun _ => rfl) (owns_empty w 3) (by omega) (by simp) ?_; intro a2 c2 w2 hr2 hg2; have H2 := Lib.hid (cut_fin (l := []) rfl hr2 hg2); clear hr2 hg2)
      go_ret
      exact ⟨_, rfl, by have := H2.out.1; simpa [cutZ] using this, H2.out.2⟩
    | some ad =>
      go_enter Try.func15, Try.ntmps15
      go_wp2_with (at_builtin; refine wpList_app_nothing rfl (.tmp 13) (.tmp 19) rfl w.heap.size (.slice (some ⟨w.heap.size, 0, none⟩) 0 0) 0 [] rfl (some ad) cap rfl (fun h => by cases h) (owns_empty w 3) (by omega) (by simp) ?_; intro a2 c2 w2 hr2 hg2; have H2 := Lib.hid (cut_fin (l := []) rfl hr2 hg2); clear hr2 hg2)
      go_ret
      exact ⟨_, rfl, by have := H2.out.1; simpa [cutZ] using this, H2.out.2⟩
  · rcases hz.at with h | ⟨b, off, rfl, hc⟩
    · subst h; simp at hn; omega
    have HN := Lib.hid hn
    obtain ⟨r, hr1, hr2, hr3⟩ : ∃ r, r ≤ n ∧ r ≤ 1001 ∧ cutZ zs most limit = zs.take r ∧ ((limit < n ∧ min (n : Int) ((limit : Int) + 1) = (r : Int)) ∨ (n ≤ limit ∧ min (n : Int) (most : Int) = (r : Int))) := by
      by_cases hA : limit < n
      · exact ⟨limit + 1, by omega, by omega, by rw [cutZ, hn, if_pos hA], .inl ⟨hA, by omega⟩⟩
      · by_cases hB : n ≤ most
        · exact ⟨n, by omega, by omega, by rw [cutZ, hn, if_neg hA, List.take_of_length_le (by omega), List.take_of_length_le (by omega)], .inr ⟨by omega, by omega⟩⟩
        · exact ⟨most, by omega, by omega, by rw [cutZ, hn, if_neg hA], .inr ⟨by omega, by omega⟩⟩
    have HR := Lib.hid hr3.1
    have HCELL : Hid (∀ j, j < (zs.take r).length → (w.alloc (.cells #[] 3)).cell? ⟨b, off + j, none⟩ = some (.int .i64 ((zs.take r)[j]?.getD 0))) := Lib.hid fun j hj => by
      rw [List.length_take] at hj
      have hc' := hc j (by omega)
      rw [World.cell?_alloc_past _ _ _ (World.block_lt_of_cell? w _ hc'), hc', List.getElem?_take, if_pos (by omega)]
    have HLEN : Hid ((zs.take r).length = r) := Lib.hid (by rw [List.length_take, hn]; exact Nat.min_eq_left hr1)
    rcases hr3.2 with ⟨hA, hmin⟩ | ⟨hA, hmin⟩
    all_goals
      clear hr3 hc hz hn hnone
      go_enter Try.func15, Try.ntmps15
      go_wp2_with (at_builtin; refine wpList_app_zs rfl (.tmp 13) (.tmp 19) rfl w.heap.size (.slice (some ⟨w.heap.size, 0, none⟩) 0 0) 0 [] rfl b off r cap (zs.take r) rfl HLEN.out HCELL.out (owns_empty w 3) r (by omega) (by omega) (by simp) ?_; intro a2 c2 w2 hr2 hg2; have H2 := Lib.hid (cut_fin HLEN.out hr2 hg2); clear hr2 hg2)
      go_ret
      refine ⟨_, rfl, ?_, H2.out.2⟩
      rw [HR.out]
      exact H2.out.1

theorem cut_any (a : Option Addr) (n cap most limit : Nat) (zs : List Int) (w : World) (hn : zs.length = n) (hm : n ≤ 9223372036854775807) (hcap : n ≤ cap) (hnone : a = none → cap = 0) (hm1 : 1 ≤ most) (hm2 : most ≤ limit) (hl : limit ≤ 1000) (hz : Ints w a zs) :
    Calls Try.prog 15 #[.slice a n cap, .int .i64 most, .int .i64 limit] w (Gives (fun v w' => CutV w w' (cutZ zs most limit) v) w) := by
  refine (cut_any2 a n cap most limit zs w hn hm hcap hnone hm1 hm2 hl hz).mono ?_
  rintro e w' ⟨v, rfl, ⟨al, c, rfl, _, hI⟩, hb⟩
  exact ⟨_, rfl, ⟨al, c, rfl, hI⟩, hb⟩

end Go.Proofs.Yteankhgikpejhaa
