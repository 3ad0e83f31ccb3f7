/-
  The walks of 'strip' and 'spans' (of the layers' law).
-/
import Derived.Test.YteckeobhlfddlaaAa
import Derived.Test.YteckeobhlfddlaaZl
namespace Go.Proofs.Yteckeobhlfddlaa
open Go.RowKit Go.Sort

theorem Try.infoSpanT : (Try.prog.info? 29).map (fun i => (i.zero, i.size, i.bytes)) = some (some (.agg #[.int .i64 0, .int .i64 0]), 2, 16) := by kernel_rfl
theorem Try.infoPairT : (Try.prog.info? 31).map (fun i => (i.zero, i.size, i.bytes)) = some (some (.agg #[.int .i64 0, .int .i64 0]), 2, 16) := by kernel_rfl
/-- 'l = append(l, s)' of one span. -/
theorem wpList_app_spanT {W : World} {ops : Array Oper} {rest : List Oper} {o : Oper} {a : Act} {Q : Exit → Act → World → Prop} (hgd : o.guard = none) (s x : Operand)
    (ho : o.op = .call { callee := .builtin .append, args := #[s, x], argTypes := #[25, 25] }) (base : Nat) (v : Value) (n : Nat) (es : List (Int × Int)) (hs : a.eval s = v) (z y : Int) (b : Nat)
    (hx : a.eval x = .slice (some ⟨b, 0, none⟩) 1 1) (hb : b = W.heap.size) (hown : W.ownsRow base 29 2 v n (Rib.prCells es)) (hn : n ≤ 1000000) (hbase : base ≤ W.heap.size)
    (h : ∀ (g cap : Nat) (w' : World), w'.ownsRow base 29 2 (.slice (some ⟨g, 0, none⟩) (n + 1) cap) (n + 1) (Rib.prCells (es ++ [(z, y)])) → W.grownBy w' v.ownBlock → wpList Try.prog ops Q rest (a.put o.dst (.slice (some ⟨g, 0, none⟩) (n + 1) cap)) w') :
    wpList Try.prog ops Q (o :: rest) a (W.alloc (.cells #[.int .i64 z, .int .i64 y] 29)) := by
  obtain ⟨i0, hi, hz0, hz1, hz2⟩ := info_parts Try.infoSpanT
  refine wpList_append_own_at _ hgd s x 25 ho base 29 i0 (.agg #[.int .i64 0, .int .i64 0]) 2 16 Try.underlying25 hi hz0 hz1 hz2 rfl (by decide) v n (Rib.prCells es) hs (hown.alloc _) ⟨b, 0, none⟩ 1 1 [.int .i64 z, .int .i64 y] hx rfl (cells_new W [.int .i64 z, .int .i64 y] _ b hb) (by intro u hu; simp at hu; rcases hu with rfl | rfl <;> rfl) (by unfold maxLen; omega) (by omega) (by simp; omega) ?_
  intro v' w' hown' hg _ _
  obtain ⟨g, cap, rfl⟩ := ownsRow_succ' hown'
  exact h g cap w' (by simpa [Rib.prCells] using hown') (grown_alloc hg)
/-- 'l = append(l, p)' of one pair. -/
theorem wpList_app_pairT {W : World} {ops : Array Oper} {rest : List Oper} {o : Oper} {a : Act} {Q : Exit → Act → World → Prop} (hgd : o.guard = none) (s x : Operand)
    (ho : o.op = .call { callee := .builtin .append, args := #[s, x], argTypes := #[27, 27] }) (base : Nat) (v : Value) (n : Nat) (es : List (Int × Int)) (hs : a.eval s = v) (z y : Int) (b : Nat)
    (hx : a.eval x = .slice (some ⟨b, 0, none⟩) 1 1) (hb : b = W.heap.size) (hown : W.ownsRow base 31 2 v n (Rib.prCells es)) (hn : n ≤ 1000000) (hbase : base ≤ W.heap.size)
    (h : ∀ (g cap : Nat) (w' : World), w'.ownsRow base 31 2 (.slice (some ⟨g, 0, none⟩) (n + 1) cap) (n + 1) (Rib.prCells (es ++ [(z, y)])) → W.grownBy w' v.ownBlock → wpList Try.prog ops Q rest (a.put o.dst (.slice (some ⟨g, 0, none⟩) (n + 1) cap)) w') :
    wpList Try.prog ops Q (o :: rest) a (W.alloc (.cells #[.int .i64 z, .int .i64 y] 31)) := by
  obtain ⟨i0, hi, hz0, hz1, hz2⟩ := info_parts Try.infoPairT
  refine wpList_append_own_at _ hgd s x 27 ho base 31 i0 (.agg #[.int .i64 0, .int .i64 0]) 2 16 Try.underlying27 hi hz0 hz1 hz2 rfl (by decide) v n (Rib.prCells es) hs (hown.alloc _) ⟨b, 0, none⟩ 1 1 [.int .i64 z, .int .i64 y] hx rfl (cells_new W [.int .i64 z, .int .i64 y] _ b hb) (by intro u hu; simp at hu; rcases hu with rfl | rfl <;> rfl) (by unfold maxLen; omega) (by omega) (by simp; omega) ?_
  intro v' w' hown' hg _ _
  obtain ⟨g, cap, rfl⟩ := ownsRow_succ' hown'
  exact h g cap w' (by simpa [Rib.prCells] using hown') (grown_alloc hg)

theorem tmod_lowT (v : Int) {n : Int} (hn : 0 < n) : -n < v.tmod n := by
  by_cases h : 0 ≤ v
  · have := Int.tmod_nonneg n h
    omega
  · have h1 := Int.tmod_lt_of_pos (-v) hn
    rw [Int.neg_tmod] at h1
    omega
theorem fold5_any (v : Int) (w : World) : Calls Try.prog 13 #[.int .i64 v, .int .i64 5] w fun e w' => (∃ z : Int, (0 ≤ z ∧ z < 5) ∧ e = .returned (.int .i64 z)) ∧ w = w' := by
  have h1 : -5 < v.tmod 5 := tmod_lowT v (by omega)
  have h2 : v.tmod 5 < 5 := Int.tmod_lt_of_pos v (by omega)
  obtain ⟨z, hz⟩ : ∃ z, v.tmod 5 = z := ⟨_, rfl⟩
  rw [hz] at h1 h2
  have h3 : 0 ≤ (z + 5) % 5 := Int.emod_nonneg _ (by omega)
  have h4 : (z + 5) % 5 < 5 := Int.emod_lt_of_pos _ (by omega)
  have HR := Lib.hid (And.intro h3 h4)
  clear h3 h4
  go_enter Try.func13, Try.ntmps13
  go_wp2
  go_ret
  exact ⟨⟨_, HR.out, rfl⟩, rfl⟩

/-- What 'strip' keeps. -/
def CT (w : World) (l : List Int) (k : Nat) (v : Value) (wr : World) : Prop := l.length = k ∧ (∀ z ∈ l, 1 ≤ z ∧ z ≤ 5) ∧ Below w.heap.size w wr ∧ wr.ownsRow w.heap.size 3 1 v k (l.map (Value.int .i64))
theorem CT.push {w W : World} {l : List Int} {k : Nat} {v : Value} (h : CT w l k v W) {z : Int} (hz : 1 ≤ z ∧ z ≤ 5) {g cp : Nat} {w' : World} (hr : w'.ownsRow w.heap.size 3 1 (.slice (some ⟨g, 0, none⟩) (k + 1) cp) (k + 1) (l.map (Value.int .i64) ++ [.int .i64 z])) (hg : W.grownBy w' v.ownBlock) :
    CT w (l ++ [z]) (k + 1) (.slice (some ⟨g, 0, none⟩) (k + 1) cp) w' := by
  obtain ⟨h1, h2, h3, h4⟩ := h
  refine ⟨by simp [h1], fun x hx => ?_, h3.grown hg h3.size (fun k hk => (h4.lt k hk).1), by simpa using hr⟩
  rcases List.mem_append.1 hx with hx | hx
  · exact h2 x hx
  · rw [List.mem_singleton.1 hx]; exact hz
/-- What 'strip' hands back. -/
def StripV (w : World) (e : Ending) (w' : World) : Prop := ∃ (g c : Nat) (l : List Int), (1 ≤ l.length ∧ l.length ≤ 7) ∧ (∀ z ∈ l, 1 ≤ z ∧ z ≤ 5) ∧ e = .returned (.slice (some ⟨g, 0, none⟩) l.length c) ∧ Ints w' (some ⟨g, 0, none⟩) l ∧ Below w.heap.size w w'
theorem intsT_owns {w : World} {base n cap g : Nat} {l : List Int} (h : w.ownsRow base 3 1 (.slice (some ⟨g, 0, none⟩) n cap) n (l.map (Value.int .i64))) : Ints w (some ⟨g, 0, none⟩) l := fun i hi => by
  have hn := h.1
  rw [List.length_map, Nat.mul_one] at hn
  refine ⟨g, 0, rfl, ?_⟩
  rw [Nat.zero_add, h.cellAt i (by rw [Nat.mul_one]; omega), List.getElem?_map, List.getElem?_eq_getElem hi]
  rfl
theorem CT.ret {w W : World} {l : List Int} {k g c : Nat} (h : CT w l k (.slice (some ⟨g, 0, none⟩) k c) W) (h1 : 1 ≤ k) (h7 : k ≤ 7) : StripV w (.returned (.slice (some ⟨g, 0, none⟩) k c)) W := by
  obtain ⟨rfl, h2, h3, h4⟩ := h
  exact ⟨g, c, l, ⟨h1, h7⟩, h2, rfl, intsT_owns h4, h3⟩
theorem CT.block {w W : World} {l : List Int} {k c : Nat} {a : Option Addr} (h : CT w l k (.slice a k c) W) (h1 : 1 ≤ k) : ∃ g, a = some ⟨g, 0, none⟩ := by
  rcases h.2.2.2.2 with ⟨_, h0⟩ | ⟨g, _, _, e, _⟩
  · omega
  · cases e; exact ⟨g, rfl⟩

set_option maxRecDepth 100000 in
set_option maxHeartbeats 4000000 in
theorem strip_any (a : Option Addr) (m cap : Nat) (xs : List Int) (w : World) (hl : xs.length = m) (_hm : m ≤ 9223372036854775807) (he : Ints w a xs) :
    Calls Try.prog 4 #[.slice a m cap] w (StripV w) := by
  have HE := Lib.hid he.at
  have HL := Lib.hid hl
  have HF := Lib.hid (fun (v : Int) (wx : World) => fold5_any v wx)
  have HS0 : Hid (CT w [] 0 (.slice (some ⟨w.heap.size, 0, none⟩) 0 0) (w.alloc (.cells #[] 3))) := Lib.hid ⟨rfl, fun z hz => by simp at hz, (Below.refl _ w).alloc (Nat.le_refl _) _, rfl, .inr ⟨w.heap.size, 0, #[], rfl, Nat.le_refl _, heap_alloc_new w _, Nat.le_refl _, by unfold maxLen; omega, rfl, rfl⟩⟩
  clear he hl
  go_enter Try.func4, Try.ntmps4
  go_wp2
  go_loopw [4, 3] (fun i v wr => ∃ (k c : Nat) (aS : Option Addr) (l : List Int), k ≤ m ∧ k ≤ 7 ∧ i = .int .i64 k ∧ v = .slice aS k c ∧ Hid (CT w l k (.slice aS k c) wr)) (fun i _ _ => 7 - (intOf i).toNat)
  case atStart => exact ⟨0, 0, _, [], Nat.zero_le _, by omega, rfl, rfl, HS0⟩
  case round =>
    obtain ⟨k, c, aS, l, hkm, hk7, rfl, rfl, HG⟩ := hrel
    by_cases hlt : k < m
    · by_cases hlt4 : k < 7
      · have hkL : k < xs.length := by rw [HL.out]; exact hlt
        rcases HE.out with h | ⟨b, off, rfl, hc⟩
        · subst h; simp at hkL
        have c0 := (HG.out.2.2.1.cell (p := ⟨b, off + k, none⟩) (World.block_lt_of_cell? w _ (hc k hkL))).trans (hc k hkL)
        obtain ⟨x, hx⟩ : ∃ x, xs[k]?.getD 0 = x := ⟨_, rfl⟩
        rw [hx] at c0
        have hkI : (k : Int) < (m : Int) := by omega
        have hsz := HG.out.2.2.1.size
        clear hc hx
        go_wp2_with (fail)
        refine (HF.out x _).mono ?_
        rintro e w' ⟨⟨z, hz, rfl⟩, rfl⟩
        obtain ⟨z1, hz1⟩ : ∃ z1, z + 1 = z1 := ⟨_, rfl⟩
        have hz2 : 1 ≤ z1 ∧ z1 ≤ 5 := by omega
        go_wp2_with (at_builtin; refine wpList_app_int rfl (.tmp 16) (.tmp 23) rfl w.heap.size (.slice aS k c) k (l.map (Value.int .i64)) rfl z1 _ rfl (by simp) HG.out.2.2.2 (by omega) hsz ?_; intro g cp w7 hr7 hg7 _ _; have H7 := Lib.hid (HG.out.push hz2 hr7 hg7); clear hr7 hg7)
        go_roundw
        case rel => exact ⟨k + 1, cp, _, _, by omega, by omega, by go_num, rfl, H7⟩
        case measure => simp [intOf]; omega
      · obtain ⟨g, rfl⟩ := HG.out.block (by omega)
        have hne : ¬ (k : Int) = 0 := by omega
        go_wp2
        go_ret
        exact HG.out.ret (by omega) hk7
    · by_cases h0 : k = 0
      · subst h0
        have hsz := HG.out.2.2.1.size
        go_wp2_with (at_builtin; refine wpList_app_int rfl (.tmp 28) (.tmp 29) rfl w.heap.size (.slice aS 0 c) 0 (l.map (Value.int .i64)) rfl 1 _ rfl (by simp) HG.out.2.2.2 (by omega) hsz ?_; intro g cp w7 hr7 hg7 _ _; have H7 := Lib.hid (HG.out.push (by decide) hr7 hg7); clear hr7 hg7)
        go_ret
        exact H7.out.ret (by omega) (by omega)
      · obtain ⟨g, rfl⟩ := HG.out.block (by omega)
        have hne : ¬ (k : Int) = 0 := by omega
        go_wp2
        go_ret
        exact HG.out.ret (by omega) hk7

/-- The spans of a strip's segments. -/
def spZ (zs : List Int) (i : Nat) : Int × Int := (2 * min (posAt zs i) (posAt zs (i + 1)) + 1, 2 * max (posAt zs i) (posAt zs (i + 1)) - 1)
def spTo (zs : List Int) (k : Nat) : List (Int × Int) := (List.range k).map (spZ zs)
theorem spTo_succ (zs : List Int) (k : Nat) : spTo zs (k + 1) = spTo zs k ++ [spZ zs k] := by simp [spTo, List.range_succ]
theorem spTo_len (zs : List Int) (k : Nat) : (spTo zs k).length = k := by simp [spTo]
theorem posAt_small {zs : List Int} (h : ∀ z ∈ zs, 1 ≤ z ∧ z ≤ 5) : ∀ k : Nat, -(5 * (k : Int)) ≤ posAt zs k ∧ posAt zs k ≤ 5 * k
  | 0 => by simp [posAt]
  | k + 1 => by
    have ih := posAt_small h k
    have hz : 0 ≤ zs[k]?.getD 0 ∧ zs[k]?.getD 0 ≤ 5 := by
      by_cases hk : k < zs.length
      · rw [List.getElem?_eq_getElem hk, Option.getD_some]
        have := h _ (List.getElem_mem hk); omega
      · rw [List.getElem?_eq_none (by omega)]; simp
    rw [posAt]
    split <;> omega
/-- What 'spans' keeps. -/
def PT (w : World) (sp : List (Int × Int)) (k : Nat) (v : Value) (wr : World) : Prop := Below w.heap.size w wr ∧ wr.ownsRow w.heap.size 29 2 v k (Rib.prCells sp)
theorem PT.push {w W : World} {sp : List (Int × Int)} {k : Nat} {v : Value} (h : PT w sp k v W) {e : Int × Int} {g cp : Nat} {w' : World} (hr : w'.ownsRow w.heap.size 29 2 (.slice (some ⟨g, 0, none⟩) (k + 1) cp) (k + 1) (Rib.prCells (sp ++ [e]))) (hg : W.grownBy w' v.ownBlock) :
    PT w (sp ++ [e]) (k + 1) (.slice (some ⟨g, 0, none⟩) (k + 1) cp) w' := ⟨h.1.grown hg h.1.size (fun k hk => (h.2.lt k hk).1), hr⟩
theorem edges_spanT {w : World} {base n cap g : Nat} {sp : List (Int × Int)} (h : w.ownsRow base 29 2 (.slice (some ⟨g, 0, none⟩) n cap) n (Rib.prCells sp)) : Rib.Edges w (some ⟨g, 0, none⟩) sp := by
  have hn : sp.length = n := by have := h.1; rw [Rib.prCells_length] at this; omega
  refine .inr ⟨g, 0, rfl, fun i hi => ?_⟩
  have hp := Rib.prCells_get sp i hi
  have e0 := h.cellAt (i * 2) (by omega)
  have e1 := h.cellAt (i * 2 + 1) (by omega)
  rw [hp.1] at e0
  rw [hp.2] at e1
  rw [Nat.zero_add]
  exact ⟨e0, e1⟩
/-- What 'spans' hands back. -/
def SpansT (zs : List Int) (w : World) (e : Ending) (w' : World) : Prop := ∃ g c, e = .returned (.slice (some ⟨g, 0, none⟩) zs.length c) ∧ Rib.Edges w' (some ⟨g, 0, none⟩) (spTo zs zs.length) ∧ Below w.heap.size w w'

set_option maxRecDepth 100000 in
set_option maxHeartbeats 4000000 in
theorem spans_any (a : Option Addr) (n cap : Nat) (zs : List Int) (w : World) (hn : zs.length = n) (h1 : 1 ≤ n) (h7 : n ≤ 7) (hs : ∀ z ∈ zs, 1 ≤ z ∧ z ≤ 5) (hz : Ints w a zs) :
    Calls Try.prog 5 #[.slice a n cap] w (SpansT zs w) := by
  have HE := Lib.hid hz.at
  have HL := Lib.hid hn
  have HP := Lib.hid (posAt_small hs)
  have HZ : Hid (∀ k (hk : k < zs.length), 1 ≤ zs[k] ∧ zs[k] ≤ 5) := Lib.hid (fun k hk => hs _ (List.getElem_mem hk))
  have HS0 : Hid (PT w (spTo zs 0) 0 (.slice (some ⟨w.heap.size, 0, none⟩) 0 0) (w.alloc (.cells #[] 29))) := Lib.hid ⟨(Below.refl _ w).alloc (Nat.le_refl _) _, rfl, .inr ⟨w.heap.size, 0, #[], rfl, Nat.le_refl _, heap_alloc_new w _, Nat.le_refl _, by unfold maxLen; omega, rfl, rfl⟩⟩
  clear hz hs
  go_enter Try.func5, Try.ntmps5
  go_wp2
  go_loopw [5, 3, 4, 6] (fun i v at' _ wr => ∃ (k c : Nat) (aS : Option Addr), k ≤ n ∧ i = .int .i64 k ∧ v = .slice aS k c ∧ at' = .int .i64 (posAt zs k) ∧ Hid (PT w (spTo zs k) k (.slice aS k c) wr)) (fun i _ _ _ _ => n - (intOf i).toNat)
  case atStart => exact ⟨0, 0, _, Nat.zero_le _, rfl, rfl, rfl, HS0⟩
  case round =>
    obtain ⟨k, c, aS, hk, rfl, rfl, rfl, HG⟩ := hrel
    by_cases hlt : k < n
    · have hkL : k < zs.length := by rw [HL.out]; exact hlt
      rcases HE.out with h | ⟨b, off, rfl, hc⟩
      · subst h; simp at hkL
      have c0 := (HG.out.1.cell (p := ⟨b, off + k, none⟩) (World.block_lt_of_cell? w _ (hc k hkL))).trans (hc k hkL)
      rw [List.getElem?_eq_getElem hkL, Option.getD_some] at c0
      have hz := HZ.out k hkL
      have hp := HP.out k
      have hq := HP.out (k + 1)
      have HQ : Hid (posAt zs (k + 1) = if k % 2 = 0 then posAt zs k + zs[k] else posAt zs k - zs[k]) := Lib.hid (by rw [posAt, List.getElem?_eq_getElem hkL, Option.getD_some])
      have HSP : Hid (spTo zs (k + 1) = spTo zs k ++ [(2 * min (posAt zs k) (posAt zs (k + 1)) + 1, 2 * max (posAt zs k) (posAt zs (k + 1)) - 1)]) := Lib.hid (spTo_succ zs k)
      obtain ⟨P, hP⟩ : ∃ P, posAt zs k = P := ⟨_, rfl⟩
      obtain ⟨Q, hQ'⟩ : ∃ Q, posAt zs (k + 1) = Q := ⟨_, rfl⟩
      obtain ⟨z, hz'⟩ : ∃ z, zs[k] = z := ⟨_, rfl⟩
      have HQE := Lib.hid hQ'
      rw [hP] at hp HQ HSP ⊢
      rw [hQ'] at hq HQ HSP
      rw [hz'] at hz HQ c0
      obtain ⟨lo, hlo⟩ : ∃ lo, min P Q = lo := ⟨_, rfl⟩
      obtain ⟨hi, hhi⟩ : ∃ hi, max P Q = hi := ⟨_, rfl⟩
      rw [hlo, hhi] at HSP
      have hb1 : -100 ≤ lo ∧ lo ≤ 100 := by omega
      have hb2 : -100 ≤ hi ∧ hi ≤ 100 := by omega
      have hkI : (k : Int) < (n : Int) := by omega
      have hsz := HG.out.1.size
      have hpb : -50 ≤ P ∧ P ≤ 50 := by omega
      have hqb : -50 ≤ Q ∧ Q ≤ 50 := by omega
      clear hc hP hQ' hz' hp hq
      rcases Nat.mod_two_eq_zero_or_one k with hpar | hpar
      · have hPQ : P + z = Q := by have := HQ.out; rw [if_pos hpar] at this; omega
        have hmod : ¬ (k : Int).tmod 2 = 1 := by rw [Int.tmod_eq_emod_of_nonneg (by omega)]; omega
        go_wp2_with (at_builtin; refine wpList_app_spanT rfl (.tmp 29) (.tmp 41) rfl w.heap.size (.slice aS k c) k (spTo zs k) rfl (2 * lo + 1) (2 * hi - 1) _ rfl (by simp) HG.out.2 (by omega) hsz ?_; intro g cp w7 hr7 hg7; have H7 := Lib.hid (HG.out.push hr7 hg7); clear hr7 hg7)
        go_roundw
        case rel => exact ⟨k + 1, cp, _, by omega, by go_num, rfl, by rw [HQE.out], by rw [HSP.out]; exact H7⟩
        case measure => simp [intOf]; omega
      · have hPQ : P - z = Q := by have := HQ.out; rw [if_neg (by omega)] at this; omega
        have hmod : (k : Int).tmod 2 = 1 := by rw [Int.tmod_eq_emod_of_nonneg (by omega)]; omega
        go_wp2_with (at_builtin; refine wpList_app_spanT rfl (.tmp 29) (.tmp 41) rfl w.heap.size (.slice aS k c) k (spTo zs k) rfl (2 * lo + 1) (2 * hi - 1) _ rfl (by simp) HG.out.2 (by omega) hsz ?_; intro g cp w7 hr7 hg7; have H7 := Lib.hid (HG.out.push hr7 hg7); clear hr7 hg7)
        go_roundw
        case rel => exact ⟨k + 1, cp, _, by omega, by go_num, rfl, by rw [HQE.out], by rw [HSP.out]; exact H7⟩
        case measure => simp [intOf]; omega
    · obtain rfl : k = n := by omega
      obtain ⟨g, rfl⟩ : ∃ g, aS = some ⟨g, 0, none⟩ := by
        rcases HG.out.2.2 with ⟨_, h0⟩ | ⟨g, _, _, e, _⟩
        · omega
        · cases e; exact ⟨g, rfl⟩
      go_wp2
      go_ret
      refine ⟨g, c, by rw [HL.out]; rfl, ?_, HG.out.1⟩
      rw [HL.out]
      exact edges_spanT HG.out.2

end Go.Proofs.Yteckeobhlfddlaa
