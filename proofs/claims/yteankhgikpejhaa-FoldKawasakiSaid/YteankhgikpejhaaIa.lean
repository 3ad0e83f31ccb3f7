/-
  The reference: the walks of between, in, Sizes, Strip, places, layers, joined.
-/
import Derived.Test.YteankhgikpejhaaHa
import Derived.Test.YteankhgikpejhaaHb
import Derived.StillTailTactics
import Derived.RegionTactic
import Derived.BigRegion
import Derived.ChangeAlike
namespace Go.Proofs.Yteankhgikpejhaa
open Go.RowKit Go.Sort

set_option maxHeartbeats 1000000 in
theorem between_any (x a b : Int) (w : World) : Calls Try.prog 60 #[.int .i64 x, .int .i64 a, .int .i64 b] w fun e w' => e = .returned (.bool (btwB x a b)) ∧ w = w' := by
  have HB : Hid (btwB x a b = (decide (min a b < x) && decide (x < max a b))) := Lib.hid rfl
  rcases Bool.eq_false_or_eq_true (decide (min a b < x)) with h | h
  all_goals
    rw [h] at HB
    go_enter Try.func60, Try.ntmps60
    go_wp2
    go_ret
    exact ⟨ret_bool (by rw [HB.out]; first | rfl | simp), rfl⟩

def inB (v lo hi : Int) : Bool := decide (lo ≤ v) && decide (v ≤ hi)
set_option maxHeartbeats 1000000 in
theorem in_any (v lo hi : Int) (w : World) : Calls Try.prog 55 #[.int .i64 v, .int .i64 lo, .int .i64 hi] w fun e w' => e = .returned (.bool (inB v lo hi)) ∧ w = w' := by
  have HB : Hid (inB v lo hi = (decide (lo ≤ v) && decide (v ≤ hi))) := Lib.hid rfl
  rcases Bool.eq_false_or_eq_true (decide (lo ≤ v)) with h | h
  all_goals
    rw [h] at HB
    go_enter Try.func55, Try.ntmps55
    go_wp2
    go_ret
    exact ⟨ret_bool (by rw [HB.out]; first | rfl | simp), rfl⟩

/-- The positions of a strip. -/
def posL (zs : List Int) (k : Nat) : List Int := (List.range k).map (posAt zs)

set_option maxRecDepth 100000 in
set_option maxHeartbeats 2000000 in
theorem places_any (a : Option Addr) (n cap : Nat) (zs : List Int) (w : World) (hn : zs.length = n) (h9 : n ≤ 9) (hs : sizesB zs = true) (hz : Ints w a zs) :
    Calls Try.prog 57 #[.slice a n cap] w (Gives (fun v w' => IntsV w w' (posL zs (n + 1)) v) w) := by
  have HX := Lib.hid hz.at
  have HN := Lib.hid hn
  have HS := Lib.hid hs
  clear hz hn hs
  go_enter Try.func57, Try.ntmps57
  go_wp2
  go_loopw [3, 4] (fun v i wr => ∃ k : Nat, k ≤ n ∧ i = .int .i64 k ∧ CollI w (posL zs (k + 1)) (k + 1) v wr) (fun _ i _ => n - (intOf i).toNat)
  case atStart =>
    refine ⟨0, Nat.zero_le _, rfl, (Below.refl _ w).alloc (Nat.le_refl _) _, rfl, w.heap.size, 1, rfl, rfl, .inr ⟨w.heap.size, 1, #[.int .i64 0], rfl, Nat.le_refl _, heap_alloc_new w _, Nat.le_refl _, by unfold maxLen; omega, rfl, rfl⟩⟩
  case round =>
    obtain ⟨k, hk, rfl, hC⟩ := hrel
    by_cases hlt : k < n
    · rcases HX.out with h | ⟨b, off, rfl, hc⟩
      · have := HN.out; subst h; simp at this; omega
      have hj : k < zs.length := by rw [HN.out]; omega
      have c0 := (hC.1.cell (p := ⟨b, off + k, none⟩) (World.block_lt_of_cell? w _ (hc k hj))).trans (hc k hj)
      have hzb := size_at HS.out k
      have hpb := posAt_bound HS.out k
      have HD : Hid (posL zs (k + 1 + 1) = posL zs (k + 1) ++ [posAt zs (k + 1)]) := Lib.hid (by simp [posL, List.range_succ])
      have HP : Hid (posAt zs (k + 1) = if k % 2 = 0 then posAt zs k + zs[k]?.getD 0 else posAt zs k - zs[k]?.getD 0) := Lib.hid rfl
      have hlast : (posL zs (k + 1))[k]?.getD 0 = posAt zs k := by simp [posL]
      have HC := Lib.hid hC
      have hsz := hC.1.size
      obtain ⟨_, _, g0, cp0, rfl, hrow⟩ := hC
      have c1 := hrow.cellAt (g := g0) k (by omega)
      have e1 : ((posL zs (k + 1)).map (Value.int .i64))[k]? = some (.int .i64 (posAt zs k)) := by simp [posL]
      rw [e1] at c1
      generalize zs[k]?.getD 0 = z at *
      generalize posAt zs k = pk at *
      clear hc hrow e1 hlast
      rcases Bool.eq_false_or_eq_true ((k : Int) % 2 == 1) with hp | hp
      · have HE : Hid (posAt zs (k + 1) = pk + -z) := Lib.hid (by
          rw [HP.out, if_neg (by rw [beq_iff_eq] at hp; omega)]; omega)
        generalize posAt zs (k + 1) = pn at *
        go_wp2_with (at_builtin; refine wpList_app_int rfl (.tmp 22) (.tmp 29) rfl w.heap.size _ _ _ rfl (pk + -z) _ rfl rfl HC.out.owns (by omega) hsz ?_; intro g cp w2 hr2 hg2 hat2 _; have H2 := Lib.hid (HC.out.next hr2 hg2); clear hr2 hg2 hat2)
        go_roundw
        case rel => exact ⟨k + 1, by omega, by go_num, by rw [HD.out, HE.out]; exact H2.out⟩
        case measure => simp [intOf]; omega
      · have HE : Hid (posAt zs (k + 1) = pk + z) := Lib.hid (by
          rw [HP.out, if_pos (by rw [beq_eq_false_iff_ne] at hp; omega)])
        generalize posAt zs (k + 1) = pn at *
        go_wp2_with (at_builtin; refine wpList_app_int rfl (.tmp 22) (.tmp 29) rfl w.heap.size _ _ _ rfl (pk + z) _ rfl rfl HC.out.owns (by omega) hsz ?_; intro g cp w2 hr2 hg2 hat2 _; have H2 := Lib.hid (HC.out.next hr2 hg2); clear hr2 hg2 hat2)
        go_roundw
        case rel => exact ⟨k + 1, by omega, by go_num, by rw [HD.out, HE.out]; exact H2.out⟩
        case measure => simp [intOf]; omega
    · obtain rfl : k = n := by omega
      have HC := Lib.hid hC
      clear hC
      obtain ⟨_, _, g0, cp0, rfl, _⟩ := HC.out
      go_wp2
      go_ret
      exact ⟨_, rfl, HC.out.gives, HC.out.1⟩

/-- The layers of the first k segments of an order, 0 for those without. -/
def layTo0 (O : List Nat) (n : Nat) : Nat → List Int
  | 0 => List.replicate n 0
  | k + 1 => (layTo0 O n k).set (O[k]?.getD 0) k
@[simp] theorem layTo0_length (O : List Nat) (n : Nat) : ∀ k, (layTo0 O n k).length = n
  | 0 => by simp [layTo0]
  | k + 1 => by simp [layTo0, layTo0_length O n k]
theorem layTo0_get (n : Nat) (P : List Nat) (hn : P.Nodup) (hv : ∀ x ∈ P, x < n) : ∀ (j : Nat), j ≤ P.length → ∀ (i : Nat) (h : i < P.length), (layTo0 P n j)[P[i]]?.getD 0 = if i < j then (i : Int) else 0
  | 0, _, i, h => by
    have := hv _ (List.getElem_mem h)
    simp [layTo0, this]
  | j + 1, hj, i, h => by
    have ih := layTo0_get n P hn hv j (by omega) i h
    have hvi := hv _ (List.getElem_mem h)
    rw [layTo0]
    have ej : P[j]?.getD 0 = P[j] := by simp [show j < P.length by omega]
    rw [ej, List.getElem?_set]
    by_cases hij : i = j
    · subst hij
      simp [hvi]
    · have hne : P[j] ≠ P[i] := fun e => hij (by
        have := (List.getElem_inj hn).1 e
        omega)
      rw [if_neg hne, ih]
      by_cases h' : i < j
      · rw [if_pos h', if_pos (by omega)]
      · rw [if_neg h', if_neg (by omega)]
theorem layTo0_layer {n : Nat} {P : List Nat} (hn : P.Nodup) (hv : ∀ x ∈ P, x < n) (hl : P.length = n) : layTo0 P n n = (List.range n).map fun s => (layerN P s : Int) := by
  refine List.ext_getElem (by simp) fun s h1 h2 => ?_
  have hs : s < n := by simpa using h2
  have h := layerN_lt hn hv hl hs
  have e := layerN_at hn hv hl hs
  have := layTo0_get n P hn hv n (by omega) (layerN P s) (by omega)
  rw [List.getElem?_eq_getElem (by omega : layerN P s < P.length)] at e
  simp only [Option.getD_some] at e
  rw [e, if_pos h, List.getElem?_eq_getElem h1] at this
  simpa using this

set_option maxRecDepth 100000 in
set_option maxHeartbeats 2000000 in
theorem layers_any (a : Option Addr) (n cap : Nat) (O : List Nat) (w : World) (hl : O.length = n) (h1 : 1 ≤ n) (h9 : n ≤ 9) (hv : ∀ x ∈ O, x < n) (hO : Ints w a (O.map fun (x : Nat) => (x : Int))) :
    Calls Try.prog 58 #[.slice a n cap] w (Gives (fun v w' => IntsV w w' (layTo0 O n n) v) w) := by
  obtain ⟨b, off, rfl, hb, hc⟩ := hO.nat (by omega)
  have hmk := make_ints n (by omega)
  have HC := Lib.hid hc
  have HL := Lib.hid (And.intro hl hv)
  clear hc hO hl hv
  go_enter Try.func58, Try.ntmps58
  go_wp2_with (fail)
  clear hmk
  go_loopw [4] (fun i wr => ∃ k : Nat, k ≤ n ∧ i = .int .i64 k ∧ Hid (wr.heap[w.heap.size]? = some (.cells ((layTo0 O n k).map (Value.int .i64)).toArray 3 (0, 0))) ∧ Below w.heap.size w wr) (fun i _ => n - (intOf i).toNat)
  case atStart => exact ⟨0, Nat.zero_le _, rfl, Lib.hid ((heap_alloc_new w _).trans (by simp [layTo0])), (Below.refl _ _).alloc (Nat.le_refl _) _⟩
  case round =>
    obtain ⟨k, hk, rfl, hL, hB⟩ := hrel
    have HB := Lib.hid hB
    clear hB
    by_cases hlt : k < n
    · have hj : k < O.length := by rw [HL.out.1]; exact hlt
      have c0 := (HB.out.cell (p := ⟨b, off + k, none⟩) hb).trans (HC.out k hj)
      have hx : O[k]?.getD 0 < n := HL.out.2 _ (by simp [hj])
      have HT : Hid (layTo0 O n (k + 1) = (layTo0 O n k).set (O[k]?.getD 0) k) := Lib.hid rfl
      generalize O[k]?.getD 0 = q at *
      have hcell := row_at hL.out (j := q) (by simpa using hx)
      have hfree : wr.frozen? ⟨w.heap.size, q, none⟩ = false := row_free hL.out q
      have Hset := Lib.hid (heap_setCell_self hL.out (i := q) (.int .i64 (k : Int)))
      go_wp2
      go_roundw
      case rel =>
        refine ⟨k + 1, by omega, by go_num, ?_, HB.out.setCell (by simp) _⟩
        refine Lib.hid ?_
        rw [Hset.out, HT.out]
        congr 2
        rw [← Array.toList_inj]
        simp [List.map_set]
      case measure => simp [intOf]; omega
    · obtain rfl : k = n := by omega
      go_wp2
      go_ret
      have e : (layTo0 O k k).length = k := by simp
      refine ⟨_, rfl, ⟨w.heap.size, k, by rw [e]; rfl, Nat.le_refl _, ?_⟩, HB.out⟩
      rw [e]
      exact ⟨by simp, .inr ⟨w.heap.size, k, _, rfl, Nat.le_refl _, hL.out, Nat.le_refl _, by unfold maxLen; omega, by simp, by simp [List.take_of_length_le]⟩⟩


theorem set4 {w : World} {b : Nat} {t : TypeId} {v0 v1 v2 v3 : Value} (h : w.heap[b]? = some (.cells #[v0, v1, v2, v3] t (0, 0))) (u0 u1 u2 u3 : Value) :
    ((((w.setCell ⟨b, 0, none⟩ u0).setCell ⟨b, 1, none⟩ u1).setCell ⟨b, 2, none⟩ u2).setCell ⟨b, 3, none⟩ u3).heap[b]? = some (.cells #[u0, u1, u2, u3] t (0, 0)) :=
  heap_setCell_self (heap_setCell_self (heap_setCell_self (heap_setCell_self h u0) u1) u2) u3

set_option maxRecDepth 100000 in
set_option maxHeartbeats 2000000 in
theorem joined_any (b off cap m t : Nat) (s : Int) (p : List Int) (w : World) (hm : p.length = m) (hm2 : m ≤ 1000) (ht : t + 1 < m) (hp : Ints w (some ⟨b, off, none⟩) p) :
    Calls Try.prog 75 #[.slice (some ⟨b, off, none⟩) m cap, .int .i64 s, .int .i64 t] w
      fun e w' => e = .returned (.agg #[.int .i64 (p[t]?.getD 0), .int .i64 s, .int .i64 t, .bool (decide (p[t]?.getD 0 < p[t + 1]?.getD 0))]) ∧ Below w.heap.size w w' := by
  have at_ : ∀ i, i < m → w.cell? ⟨b, off + i, none⟩ = some (.int .i64 (p[i]?.getD 0)) := by
    intro i hi
    obtain ⟨b', off', e, h⟩ := hp i (by omega)
    cases e; exact h
  have c0 := at_ t (by omega)
  have c1 := at_ (t + 1) ht
  have hbw := World.block_lt_of_cell? w _ c0
  generalize p[t]?.getD 0 = x at *
  generalize p[t + 1]?.getD 0 = y at *
  clear at_ hp hm
  go_enter Try.func75, Try.ntmps75
  go_wp2
  obtain ⟨w1, hw1⟩ : ∃ w1, w.alloc (.cells #[.int .i64 0, .int .i64 0, .int .i64 0, .bool false] 84) = w1 := ⟨_, rfl⟩
  have k0 : w1.cell? ⟨b, off + t, none⟩ = some (.int .i64 x) := by rw [← hw1, World.cell?_alloc_past _ _ _ hbw]; exact c0
  have k1 : w1.cell? ⟨b, off + (t + 1), none⟩ = some (.int .i64 y) := by rw [← hw1, World.cell?_alloc_past _ _ _ hbw]; exact c1
  have kb : w1.heap[w.heap.size]? = some (.cells #[.int .i64 0, .int .i64 0, .int .i64 0, .bool false] 84 (0, 0)) := by rw [← hw1]; exact heap_alloc_new w _
  have Hb : Hid (Below w.heap.size w w1) := Lib.hid (by rw [← hw1]; exact (Below.refl _ _).alloc (Nat.le_refl _) _)
  have z0 : w1.cell? ⟨w.heap.size, 0, none⟩ = some (.int .i64 0) := by simp [World.cell?, kb]
  have z1 : w1.cell? ⟨w.heap.size, 1, none⟩ = some (.int .i64 0) := by simp [World.cell?, kb]
  have z2 : w1.cell? ⟨w.heap.size, 2, none⟩ = some (.int .i64 0) := by simp [World.cell?, kb]
  have z3 : w1.cell? ⟨w.heap.size, 3, none⟩ = some (.bool false) := by simp [World.cell?, kb]
  have y0 : w1.frozen? ⟨w.heap.size, 0, none⟩ = false := by simp [World.frozen?, kb]
  have y1 : w1.frozen? ⟨w.heap.size, 1, none⟩ = false := by simp [World.frozen?, kb]
  have y2 : w1.frozen? ⟨w.heap.size, 2, none⟩ = false := by simp [World.frozen?, kb]
  have y3 : w1.frozen? ⟨w.heap.size, 3, none⟩ = false := by simp [World.frozen?, kb]
  have HK := Lib.hid kb
  clear kb
  rw [hw1]
  clear hw1 c0 c1
  go_region
  all_goals go_wp2
  have hX := set4 HK.out (.int .i64 x) (.int .i64 s) (.int .i64 t) (.bool (decide (x < y)))
  have hXb := ((((Hb.out.setCell (p := ⟨w.heap.size, 0, none⟩) (Nat.le_refl _) (.int .i64 x)).setCell (p := ⟨w.heap.size, 1, none⟩) (Nat.le_refl _) (.int .i64 s)).setCell (p := ⟨w.heap.size, 2, none⟩) (Nat.le_refl _) (.int .i64 t)).setCell (p := ⟨w.heap.size, 3, none⟩) (Nat.le_refl _) (.bool (decide (x < y)))).drew
  obtain ⟨X, hXe⟩ : ∃ X, ((((w1.setCell ⟨w.heap.size, 0, none⟩ (.int .i64 x)).setCell ⟨w.heap.size, 1, none⟩ (.int .i64 s)).setCell ⟨w.heap.size, 2, none⟩ (.int .i64 t)).setCell ⟨w.heap.size, 3, none⟩ (.bool (decide (x < y)))).drew = X := ⟨_, rfl⟩
  have hX' : X.heap[w.heap.size]? = some (.cells #[.int .i64 x, .int .i64 s, .int .i64 t, .bool (decide (x < y))] 84 (0, 0)) := by rw [← hXe]; exact hX
  rw [hXe] at hXb ⊢
  have q0 : X.cell? ⟨w.heap.size, 0, none⟩ = some (.int .i64 x) := by simp [World.cell?, hX']
  have q1 : X.cell? ⟨w.heap.size, 1, none⟩ = some (.int .i64 s) := by simp [World.cell?, hX']
  have q2 : X.cell? ⟨w.heap.size, 2, none⟩ = some (.int .i64 t) := by simp [World.cell?, hX']
  have q3 : X.cell? ⟨w.heap.size, 3, none⟩ = some (.bool (decide (x < y))) := by simp [World.cell?, hX']
  exact bodyPost_ret (v := .agg #[.int .i64 x, .int .i64 s, .int .i64 t, .bool (decide (x < y))]) (by simp [results, Try.results75, go_sem, q0, q1, q2, q3]) rfl ⟨rfl, hXb⟩

theorem joined_int (b off cap m : Nat) (s t : Int) (p : List Int) (w : World) (hm : p.length = m) (hm2 : m ≤ 1000) (h0 : 0 ≤ t) (ht : t + 1 < m) (hp : Ints w (some ⟨b, off, none⟩) p) :
    Calls Try.prog 75 #[.slice (some ⟨b, off, none⟩) m cap, .int .i64 s, .int .i64 t] w
      fun e w' => e = .returned (.agg #[.int .i64 (p[t.toNat]?.getD 0), .int .i64 s, .int .i64 t, .bool (decide (p[t.toNat]?.getD 0 < p[t.toNat + 1]?.getD 0))]) ∧ Below w.heap.size w w' := by
  obtain ⟨q, rfl⟩ : ∃ q : Nat, t = q := ⟨t.toNat, by omega⟩
  rw [Int.toNat_natCast]
  exact joined_any b off cap m q s p w hm hm2 (by omega) hp

end Go.Proofs.Yteankhgikpejhaa
