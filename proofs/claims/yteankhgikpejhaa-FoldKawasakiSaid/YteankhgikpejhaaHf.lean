/-
  Strips from their other end on: positions, orders, letters, counts. Orders are listed rising.
-/
import Derived.Test.YteankhgikpejhaaHc
namespace Go.Proofs.Yteankhgikpejhaa

/-- Lexicographically less: at the first place where they differ. -/
def LexLt (a b : List Nat) : Prop := ∃ i, ∃ h1 : i < a.length, ∃ h2 : i < b.length, a.take i = b.take i ∧ a[i] < b[i]
theorem LexLt.ne {a b : List Nat} (h : LexLt a b) : a ≠ b := by
  obtain ⟨i, h1, h2, _, h3⟩ := h
  rintro rfl
  omega
theorem lex_of_prefix {O : List Nat} {s t : Nat} {a b : List Nat} (ha : O ++ [s] <+: a) (hb : O ++ [t] <+: b) (h : s < t) : LexLt a b := by
  obtain ⟨x, rfl⟩ := ha
  obtain ⟨y, rfl⟩ := hb
  refine ⟨O.length, by simp, by simp, by simp [List.take_append_of_le_length], ?_⟩
  simpa [List.getElem_append_left, List.getElem_append_right] using h

theorem pairwise_flatMap' {α β : Type} {R : β → β → Prop} (f : α → List β) : ∀ (l : List α), (∀ a ∈ l, (f a).Pairwise R) → l.Pairwise (fun a b => ∀ x ∈ f a, ∀ y ∈ f b, R x y) → (l.flatMap f).Pairwise R
  | [], _, _ => List.Pairwise.nil
  | a :: l, h1, h2 => by
    rw [List.flatMap_cons, List.pairwise_append]
    rw [List.pairwise_cons] at h2
    refine ⟨h1 a (by simp), pairwise_flatMap' f l (fun b hb => h1 b (by simp [hb])) h2.2, fun x hx y hy => ?_⟩
    obtain ⟨b, hb, hy⟩ := List.mem_flatMap.1 hy
    exact h2.1 b hb x hx y hy
theorem range_pairwise (n : Nat) : (List.range n).Pairwise (· < ·) := by
  rw [List.pairwise_iff_getElem]
  intro i j hi hj h
  simpa using h
theorem permsAll_sorted (n : Nat) : ∀ (k : Nat) (O : List Nat), O.Nodup → (∀ x ∈ O, x < n) → (permsAll n k O).Pairwise LexLt
  | 0, O, _, _ => by simp [permsAll]
  | k + 1, O, h1, h2 => by
    have hok : ∀ s, s < n → O.contains s = false → (O ++ [s]).Nodup ∧ ∀ x ∈ O ++ [s], x < n := by
      intro s hs hc
      have hc' : s ∉ O := by simpa using hc
      refine ⟨?_, ?_⟩
      · rw [List.nodup_append]
        refine ⟨h1, by simp, ?_⟩
        intro a ha b hb
        simp at hb
        subst hb
        intro e
        subst e
        exact hc' ha
      · intro x hx
        rcases List.mem_append.1 hx with h | h
        · exact h2 x h
        · simp at h; omega
    rw [permsAll]
    refine pairwise_flatMap' _ _ (fun s hs => ?_) ((range_pairwise n).imp_of_mem (fun {s t} hs ht hst x hx y hy => ?_))
    · rw [List.mem_range] at hs
      cases hc : O.contains s with
      | true => simp
      | false =>
        rw [if_neg Bool.false_ne_true]
        exact permsAll_sorted n k _ (hok s hs hc).1 (hok s hs hc).2
    · rw [List.mem_range] at hs ht
      have hx' : x ∈ (if O.contains s = true then [] else permsAll n k (O ++ [s])) := hx
      have hy' : y ∈ (if O.contains t = true then [] else permsAll n k (O ++ [t])) := hy
      cases hc : O.contains s with
      | true => rw [hc, if_pos rfl] at hx'; cases hx'
      | false =>
        cases hd : O.contains t with
        | true => rw [hd, if_pos rfl] at hy'; cases hy'
        | false =>
          rw [hc, if_neg Bool.false_ne_true] at hx'
          rw [hd, if_neg Bool.false_ne_true] at hy'
          exact lex_of_prefix (permsAll_ok n k _ (hok s hs hc).1 (hok s hs hc).2 x hx').2.2.2 (permsAll_ok n k _ (hok t ht hd).1 (hok t ht hd).2 y hy').2.2.2 hst
theorem orders_sorted (c : Cl) (n : Nat) : (ordersOf c n).Pairwise LexLt := by
  rw [ordersOf, orders_filter]
  exact (permsAll_sorted n n [] List.nodup_nil (by simp)).filter _
theorem orders_nodup (c : Cl) (n : Nat) : (ordersOf c n).Nodup := by
  rw [List.nodup_iff_pairwise_ne]
  exact (orders_sorted c n).imp LexLt.ne

theorem length_le_of_sub {α : Type} [DecidableEq α] : ∀ (L M : List α), L.Nodup → (∀ x ∈ L, x ∈ M) → L.length ≤ M.length
  | [], M, _, _ => Nat.zero_le _
  | a :: L, M, hn, h => by
    obtain ⟨hna, hn⟩ := List.nodup_cons.1 hn
    have ha := h a (by simp)
    have := length_le_of_sub L (M.erase a) hn (fun x hx => by
      have hne : x ≠ a := fun e => hna (e ▸ hx)
      exact (List.mem_erase_of_ne hne).2 (h x (by simp [hx])))
    rw [List.length_erase_of_mem ha] at this
    have := List.length_pos_of_mem ha
    simp; omega

/-- The number of a segment from the other end on. -/
def flipN (n s : Nat) : Nat := n - 1 - s
theorem flipN_lt {n s : Nat} (h : s < n) : flipN n s < n := by unfold flipN; omega
theorem flipN_flipN {n s : Nat} (h : s < n) : flipN n (flipN n s) = s := by unfold flipN; omega
theorem map_flip_ok {n : Nat} {P : List Nat} (hn : P.Nodup) (hv : ∀ x ∈ P, x < n) : (P.map (flipN n)).Nodup ∧ (∀ x ∈ P.map (flipN n), x < n) := by
  constructor
  · rw [List.nodup_iff_pairwise_ne, List.pairwise_map]
    refine (List.nodup_iff_pairwise_ne.1 hn).imp_of_mem (fun {a b} ha hb hab e => hab ?_)
    rw [← flipN_flipN (hv a ha), ← flipN_flipN (hv b hb), e]
  · intro x hx
    obtain ⟨y, hy, rfl⟩ := List.mem_map.1 hx
    exact flipN_lt (hv y hy)
theorem layerN_flip {n : Nat} {P : List Nat} (hn : P.Nodup) (hv : ∀ x ∈ P, x < n) (hl : P.length = n) {s : Nat} (hs : s < n) : layerN (P.map (flipN n)) s = layerN P (flipN n s) := by
  have h1 := layerN_lt hn hv hl (flipN_lt hs)
  have h2 := layerN_at hn hv hl (flipN_lt hs)
  obtain ⟨m1, m2⟩ := map_flip_ok hn hv
  have := layerN_of m1 (layerN P (flipN n s)) (by simpa [hl] using h1)
  rw [List.getElem?_eq_getElem (by omega : layerN P (flipN n s) < P.length)] at h2
  simp only [Option.getD_some] at h2
  rw [List.getElem_map, h2, flipN_flipN hs] at this
  exact this

theorem posAt_back (zs : List Int) : ∀ k, k ≤ zs.length → posAt zs.reverse k = if zs.length % 2 = 1 then posAt zs zs.length - posAt zs (zs.length - k) else posAt zs (zs.length - k) - posAt zs zs.length
  | 0, _ => by simp [posAt]
  | k + 1, h => by
    have ih := posAt_back zs k (by omega)
    obtain ⟨j, hj⟩ : ∃ j, zs.length - (k + 1) = j := ⟨_, rfl⟩
    have hjl : j < zs.length := by omega
    have e : zs.reverse[k]?.getD 0 = zs[j]?.getD 0 := by
      rw [List.getElem?_reverse (by omega)]
      congr 2
      omega
    have e2 : zs.length - k = j + 1 := by omega
    have e3 : posAt zs (j + 1) = if j % 2 = 0 then posAt zs j + zs[j]?.getD 0 else posAt zs j - zs[j]?.getD 0 := rfl
    rw [e2, e3] at ih
    rw [posAt, ih, e, hj]
    have hpar : (zs.length % 2 = 1 ∧ (k % 2 = 0 ↔ j % 2 = 0)) ∨ (¬ zs.length % 2 = 1 ∧ (k % 2 = 0 ↔ ¬ j % 2 = 0)) := by omega
    by_cases h1 : zs.length % 2 = 1 <;> by_cases h2 : k % 2 = 0 <;> by_cases h3 : j % 2 = 0 <;> simp only [h1, h2, h3, if_true, if_false] <;> omega

theorem btwB_back (b : Bool) (m x a c : Int) : btwB (if b then m - x else x - m) (if b then m - a else a - m) (if b then m - c else c - m) = btwB x a c := by
  rw [Bool.eq_iff_iff, btwB_iff, btwB_iff]
  cases b <;> simp <;> omega
theorem btwB_swap (x a b : Int) : btwB x a b = btwB x b a := by
  rw [Bool.eq_iff_iff, btwB_iff, btwB_iff]
  omega

theorem noCross_back (zs : List Int) {A : Nat → Int} (h : NoCross zs.length (posAt zs) (layCl zs).crs rightS A) : NoCross zs.reverse.length (posAt zs.reverse) (layCl zs.reverse).crs rightS (fun s => A (flipN zs.length s)) := by
  rw [List.length_reverse]
  have crs : ∀ f ∈ (layCl zs.reverse).crs, ∃ i, i + 1 < zs.length ∧ f = ⟨i, i + 1, posAt zs.reverse (i + 1)⟩ ∧ (⟨zs.length - 1 - (i + 1), zs.length - 1 - i, posAt zs (zs.length - (i + 1))⟩ : Cr) ∈ (layCl zs).crs := by
    intro f hf
    obtain ⟨i, hi, rfl⟩ := mem_crs hf
    rw [List.length_reverse] at hi
    refine ⟨i, hi, rfl, ?_⟩
    simp only [layCl, crsTo, List.mem_map, List.mem_range]
    refine ⟨zs.length - 1 - (i + 1), by omega, ?_⟩
    rw [show zs.length - 1 - (i + 1) + 1 = zs.length - 1 - i by omega, show zs.length - (i + 1) = zs.length - 1 - i by omega]
  have pos : ∀ k, k ≤ zs.length → posAt zs.reverse k = if decide (zs.length % 2 = 1) then posAt zs zs.length - posAt zs (zs.length - k) else posAt zs (zs.length - k) - posAt zs zs.length := fun k hk => by
    rw [posAt_back zs k hk]; simp
  refine ⟨fun f hf i hi => ?_, fun f hf g hg e1 e2 => ?_⟩
  · obtain ⟨j, hj, rfl, hm⟩ := crs f hf
    rintro ⟨b1, b2⟩
    refine h.seg _ hm (flipN zs.length i) (flipN_lt hi) ⟨?_, ?_⟩
    · show btwB (posAt zs (zs.length - (j + 1))) (posAt zs (flipN zs.length i)) (posAt zs (flipN zs.length i + 1)) = true
      simp only [pos (j + 1) (by omega), pos i (by omega), pos (i + 1) (by omega), btwB_back] at b1
      rw [btwB_swap, show flipN zs.length i + 1 = zs.length - i by unfold flipN; omega, show flipN zs.length i = zs.length - (i + 1) by unfold flipN; omega]
      exact b1
    · rw [btwB_swap]; exact b2
  · obtain ⟨j, hj, rfl, hm⟩ := crs f hf
    obtain ⟨k, hk, rfl, hm2⟩ := crs g hg
    have h2 := h.cr _ hm _ hm2 (by
      show posAt zs (zs.length - (k + 1)) = posAt zs (zs.length - (j + 1))
      have e1' : posAt zs.reverse (k + 1) = posAt zs.reverse (j + 1) := e1
      rw [pos (k + 1) (by omega), pos (j + 1) (by omega)] at e1'
      split at e1' <;> omega) (by
      have e2' : decide ((k + 1) % 2 = 0) = decide ((j + 1) % 2 = 0) := e2
      rw [decide_eq_decide] at e2'
      show decide ((zs.length - 1 - k) % 2 = 0) = decide ((zs.length - 1 - j) % 2 = 0)
      rw [decide_eq_decide]
      omega)
    show btwB (A (zs.length - 1 - k)) (A (zs.length - 1 - j)) (A (zs.length - 1 - (j + 1))) = btwB (A (zs.length - 1 - (k + 1))) (A (zs.length - 1 - j)) (A (zs.length - 1 - (j + 1)))
    rw [btwB_swap, btwB_swap (A (zs.length - 1 - (k + 1)))]
    exact h2.symm

theorem orders_back {zs : List Int} {P : List Nat} (h : P ∈ ordersOf (layCl zs) zs.length) : P.map (flipN zs.length) ∈ ordersOf (layCl zs.reverse) zs.reverse.length := by
  obtain ⟨h1, h2, h3, h4⟩ := mem_orders.1 h
  obtain ⟨m1, m2⟩ := map_flip_ok h1 h2
  rw [mem_orders]
  refine ⟨m1, by rw [List.length_reverse]; exact m2, by simpa using h3, ?_⟩
  rw [okFrom_iff (strip_fair zs.reverse) m1 (by rw [List.length_reverse]; exact m2) (by simpa using h3)]
  refine (noCross_back zs ((okFrom_iff (strip_fair zs) h1 h2 h3).1 h4)).congr (fun f hf => ⟨((strip_fair zs.reverse).ends f hf).1, ((strip_fair zs.reverse).ends f hf).2.1⟩) (fun s hs => ?_)
  rw [List.length_reverse] at hs
  rw [layerN_flip h1 h2 h3 hs]
theorem count_back_le (zs : List Int) : countOf zs ≤ countOf zs.reverse := by
  have hnd : ((ordersOf (layCl zs) zs.length).map (List.map (flipN zs.length))).Nodup := by
    rw [List.nodup_iff_pairwise_ne, List.pairwise_map]
    refine (List.nodup_iff_pairwise_ne.1 (orders_nodup _ _)).imp_of_mem (fun {a b} ha hb hab e => hab ?_)
    have back : ∀ P ∈ ordersOf (layCl zs) zs.length, (P.map (flipN zs.length)).map (flipN zs.length) = P := by
      intro P hP
      rw [List.map_map]
      conv => rhs; rw [← List.map_id P]
      exact List.map_congr_left fun x hx => flipN_flipN ((mem_orders.1 hP).2.1 x hx)
    rw [← back a ha, ← back b hb, e]
  have := length_le_of_sub _ (ordersOf (layCl zs.reverse) zs.reverse.length) hnd (fun x hx => by
    obtain ⟨P, hP, rfl⟩ := List.mem_map.1 hx
    exact orders_back hP)
  rw [List.length_map] at this
  exact this
theorem count_back (zs : List Int) : countOf zs.reverse = countOf zs := by
  have h1 := count_back_le zs
  have h2 := count_back_le zs.reverse
  rw [List.reverse_reverse] at h2
  omega

/-- The letters of a strip from its other end on. -/
def backL (n : Nat) (l : List UInt8) : List UInt8 := if n % 2 = 0 then exchZ l.reverse else l.reverse
theorem letter_back {n : Nat} {P : List Nat} (hn : P.Nodup) (hv : ∀ x ∈ P, x < n) (hl : P.length = n) (i : Nat) (hi : i + 1 < n) (p q : Int) :
    UInt8.ofNat (letterZ (layersOf (P.map (flipN n)) n) ⟨i, i + 1, p⟩).toNat = if n % 2 = 0 then (if UInt8.ofNat (letterZ (layersOf P n) ⟨n - 1 - (i + 1), n - 1 - i, q⟩).toNat = 86 then 77 else 86) else UInt8.ofNat (letterZ (layersOf P n) ⟨n - 1 - (i + 1), n - 1 - i, q⟩).toNat := by
  obtain ⟨m1, m2⟩ := map_flip_ok hn hv
  have ml : (P.map (flipN n)).length = n := by simpa using hl
  have hne : layerN P (n - 1 - i) ≠ layerN P (n - 1 - (i + 1)) := fun e => by
    have := layerN_inj hn hv hl (by omega) (by omega) e
    omega
  have e : decide ((layerN P (n - 1 - i) : Int) < (layerN P (n - 1 - (i + 1)) : Int)) = !decide ((layerN P (n - 1 - (i + 1)) : Int) < (layerN P (n - 1 - i) : Int)) := by
    rw [Bool.eq_iff_iff, Bool.not_eq_true', decide_eq_true_eq, decide_eq_false_iff_not]
    omega
  have hL : letterZ (layersOf (P.map (flipN n)) n) ⟨i, i + 1, p⟩ = if ((i % 2 == 0) == !decide ((layerN P (n - 1 - (i + 1)) : Int) < (layerN P (n - 1 - i) : Int))) = true then 86 else 77 := by
    simp only [letterZ]
    rw [layersOf_at m1 m2 ml (by omega), layersOf_at m1 m2 ml hi, layerN_flip hn hv hl (by omega), layerN_flip hn hv hl hi, ← e]
    rfl
  have hR : letterZ (layersOf P n) ⟨n - 1 - (i + 1), n - 1 - i, q⟩ = if (((n - 1 - (i + 1)) % 2 == 0) == decide ((layerN P (n - 1 - (i + 1)) : Int) < (layerN P (n - 1 - i) : Int))) = true then 86 else 77 := by
    simp only [letterZ]
    rw [layersOf_at hn hv hl (by omega), layersOf_at hn hv hl (by omega)]
  rw [hL, hR]
  have hpar : (n % 2 = 0 ∧ ((i % 2 == 0) = ((n - 1 - (i + 1)) % 2 == 0))) ∨ (¬ n % 2 = 0 ∧ ((i % 2 == 0) = !((n - 1 - (i + 1)) % 2 == 0))) := by
    by_cases h : n % 2 = 0
    · refine .inl ⟨h, ?_⟩
      rw [Bool.eq_iff_iff, beq_iff_eq, beq_iff_eq]; omega
    · refine .inr ⟨h, ?_⟩
      rw [Bool.eq_iff_iff, Bool.not_eq_true', beq_iff_eq, beq_eq_false_iff_ne]; omega
  rcases hpar with ⟨h, hp⟩ | ⟨h, hp⟩ <;> rw [hp] <;> simp only [h, if_true, if_false] <;>
    cases decide ((layerN P (n - 1 - (i + 1)) : Int) < (layerN P (n - 1 - i) : Int)) <;> cases ((n - 1 - (i + 1)) % 2 == 0) <;> rfl

theorem crs_back {zs : List Int} {P : List Nat} (hn : P.Nodup) (hv : ∀ x ∈ P, x < zs.length) (hl : P.length = zs.length) : (crsOf zs.reverse (P.map (flipN zs.length))).data.toList = backL zs.length (crsOf zs P).data.toList := by
  have hA : (crsOf zs.reverse (P.map (flipN zs.length))).data.toList = (List.range (zs.length - 1)).map fun i => UInt8.ofNat (letterZ (layersOf (P.map (flipN zs.length)) zs.length) ⟨i, i + 1, posAt zs.reverse (i + 1)⟩).toNat := by
    rw [crsOf, strOf_list, lettersZ, layCl, crsTo, List.map_map, List.map_map, List.length_reverse]; rfl
  have hB : (crsOf zs P).data.toList = (List.range (zs.length - 1)).map fun i => UInt8.ofNat (letterZ (layersOf P zs.length) ⟨i, i + 1, posAt zs (i + 1)⟩).toNat := by
    rw [crsOf, strOf_list, lettersZ, layCl, crsTo, List.map_map, List.map_map]; rfl
  have hC : backL zs.length (crsOf zs P).data.toList = (List.range (zs.length - 1)).map fun i => if zs.length % 2 = 0 then (if UInt8.ofNat (letterZ (layersOf P zs.length) ⟨zs.length - 1 - (i + 1), zs.length - 1 - i, posAt zs (zs.length - 1 - i)⟩).toNat = 86 then 77 else 86) else UInt8.ofNat (letterZ (layersOf P zs.length) ⟨zs.length - 1 - (i + 1), zs.length - 1 - i, posAt zs (zs.length - 1 - i)⟩).toNat := by
    rw [hB]
    refine List.ext_getElem (by unfold backL exchZ; split <;> simp) fun i h1 h2 => ?_
    have hi : i < zs.length - 1 := by simpa using h2
    have ei : zs.length - 1 - 1 - i = zs.length - 1 - (i + 1) := by omega
    have ej : zs.length - 1 - (i + 1) + 1 = zs.length - 1 - i := by omega
    unfold backL exchZ
    by_cases h : zs.length % 2 = 0
    · simp [h, List.getElem_reverse, ei, ej]
    · simp [h, List.getElem_reverse, ei, ej]
  rw [hA, hC]
  refine List.map_congr_left fun i hi => ?_
  have hi' : i < zs.length - 1 := List.mem_range.1 hi
  exact letter_back hn hv hl i (by omega) _ _

end Go.Proofs.Yteankhgikpejhaa
