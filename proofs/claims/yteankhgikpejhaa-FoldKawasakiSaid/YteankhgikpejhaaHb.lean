/-
  Strips: all permutations are listed; the plain order folds; reversing an order, and stretching a strip.
-/
import Derived.Test.YteankhgikpejhaaGc
namespace Go.Proofs.Yteankhgikpejhaa

theorem permsAll_mem (n : Nat) (P : List Nat) (hn : P.Nodup) (hv : ∀ x ∈ P, x < n) (hl : P.length = n) : ∀ (k : Nat) (O : List Nat), O.length + k = n → O <+: P → P ∈ permsAll n k O
  | 0, O, h, hp => by
    obtain ⟨t, rfl⟩ := hp
    rw [List.length_append] at hl
    have : t = [] := List.eq_nil_of_length_eq_zero (by omega)
    subst this
    simp [permsAll]
  | k + 1, O, h, hp => by
    have hp' := hp
    obtain ⟨t, rfl⟩ := hp'
    cases t with
    | nil => simp at hl; omega
    | cons s t =>
      rw [permsAll, List.mem_flatMap]
      refine ⟨s, List.mem_range.2 (hv s (by simp)), ?_⟩
      have hs : O.contains s = false := by
        rw [List.nodup_append] at hn
        have := hn.2.2
        rw [Bool.eq_false_iff, Ne, List.contains_iff_mem]
        exact fun hm => this s hm s (by simp) rfl
      rw [hs, if_neg Bool.false_ne_true]
      exact permsAll_mem n _ hn hv hl k (O ++ [s]) (by simp; omega) ⟨t, by simp⟩

theorem mem_orders {c : Cl} {n : Nat} {P : List Nat} : P ∈ ordersOf c n ↔ P.Nodup ∧ (∀ x ∈ P, x < n) ∧ P.length = n ∧ okFrom c n P 0 = true := by
  rw [ordersOf, orders_filter, List.mem_filter]
  constructor
  · rintro ⟨h1, h2⟩
    obtain ⟨e1, e2, e3, _⟩ := permsAll_ok n n [] List.nodup_nil (by simp) P h1
    exact ⟨e2, e3, by simpa using e1, h2⟩
  · rintro ⟨h1, h2, h3, h4⟩
    exact ⟨permsAll_mem n P h1 h2 h3 n [] (by simp) List.nil_prefix, h4⟩

/-- The side of a crease of a strip. -/
def rightS (f : Cr) : Bool := decide (f.second % 2 = 0)
theorem mem_crs {zs : List Int} {f : Cr} (h : f ∈ (layCl zs).crs) : ∃ i, i + 1 < zs.length ∧ f = ⟨i, i + 1, posAt zs (i + 1)⟩ := by
  simp only [layCl, crsTo, List.mem_map, List.mem_range] at h
  obtain ⟨i, hi, rfl⟩ := h
  exact ⟨i, by omega, rfl⟩
theorem strip_fair (zs : List Int) : Fair zs.length (posAt zs) (layCl zs) rightS where
  low := fun i hi => by simp [layCl, lowsTo, hi]
  high := fun i hi => by simp [layCl, highsTo, hi]
  ends := fun f hf => by obtain ⟨i, hi, rfl⟩ := mem_crs hf; exact ⟨by show i < _; omega, hi, by show i ≠ i + 1; omega⟩
  at1 := fun f hf => by obtain ⟨i, hi, rfl⟩ := mem_crs hf; exact .inr rfl
  at2 := fun f hf => by obtain ⟨i, hi, rfl⟩ := mem_crs hf; exact .inl rfl
  side := fun f _ g _ => by
    simp only [Cr.beside, rightS, Bool.and_eq_true, decide_eq_true_eq, decide_eq_decide]
    omega

theorem NoCross.congr {n : Nat} {p : Nat → Int} {crs : List Cr} {right : Cr → Bool} {A B : Nat → Int} (he : ∀ f ∈ crs, f.first < n ∧ f.second < n) (h : ∀ s, s < n → A s = B s) (hA : NoCross n p crs right A) : NoCross n p crs right B := by
  refine ⟨fun f hf i hi => ?_, fun f hf g hg h1 h2 => ?_⟩
  · obtain ⟨a, b⟩ := he f hf
    rw [← h i hi, ← h _ a, ← h _ b]
    exact hA.seg f hf i hi
  · obtain ⟨a, b⟩ := he f hf
    obtain ⟨c, d⟩ := he g hg
    rw [← h _ a, ← h _ b, ← h _ c, ← h _ d]
    exact hA.cr f hf g hg h1 h2
theorem btwB_flip (m x a b : Int) : btwB (m - x) (m - a) (m - b) = btwB x a b := by
  rw [Bool.eq_iff_iff, btwB_iff, btwB_iff]
  omega
theorem NoCross.flip {n : Nat} {p : Nat → Int} {crs : List Cr} {right : Cr → Bool} {A : Nat → Int} (m : Int) (hA : NoCross n p crs right A) : NoCross n p crs right (fun s => m - A s) := by
  refine ⟨fun f hf i hi => ?_, fun f hf g hg h1 h2 => ?_⟩
  · rw [btwB_flip]; exact hA.seg f hf i hi
  · rw [btwB_flip, btwB_flip]; exact hA.cr f hf g hg h1 h2

theorem nodup_rev {P : List Nat} (h : P.Nodup) : P.reverse.Nodup := by
  rw [List.nodup_iff_pairwise_ne, List.pairwise_reverse]
  exact (List.nodup_iff_pairwise_ne.1 h).imp fun h e => h e.symm

theorem layerN_reverse {n : Nat} {P : List Nat} (hn : P.Nodup) (hv : ∀ x ∈ P, x < n) (hl : P.length = n) {s : Nat} (hs : s < n) : layerN P.reverse s = n - 1 - layerN P s := by
  have h1 := layerN_lt hn hv hl hs
  have h2 := layerN_at hn hv hl hs
  have hj : n - 1 - layerN P s < P.reverse.length := by rw [List.length_reverse]; omega
  have := layerN_of (nodup_rev hn) (n - 1 - layerN P s) hj
  rw [List.getElem_reverse] at this
  have e : P.length - 1 - (n - 1 - layerN P s) = layerN P s := by omega
  simp only [e] at this
  rw [List.getElem?_eq_getElem (by omega : layerN P s < P.length)] at h2
  simp only [Option.getD_some] at h2
  rwa [h2] at this

theorem ok_reverse {zs : List Int} {P : List Nat} (hn : P.Nodup) (hv : ∀ x ∈ P, x < zs.length) (hl : P.length = zs.length) (h : okFrom (layCl zs) zs.length P 0 = true) : okFrom (layCl zs) zs.length P.reverse 0 = true := by
  rw [okFrom_iff (strip_fair zs) (nodup_rev hn) (fun x hx => hv x (List.mem_reverse.1 hx)) (by simpa using hl)]
  have h1 := ((okFrom_iff (strip_fair zs) hn hv hl).1 h).flip ((zs.length : Int) - 1)
  refine h1.congr (fun f hf => ⟨((strip_fair zs).ends f hf).1, ((strip_fair zs).ends f hf).2.1⟩) (fun s hs => ?_)
  rw [layerN_reverse hn hv hl hs]
  have := layerN_lt hn hv hl hs
  omega

/-- The plain order folds every strip. -/
theorem layerN_range {n s : Nat} (hs : s < n) : layerN (List.range n) s = s := by
  have := layerN_of (List.nodup_range (n := n)) s (by simpa using hs)
  simpa using this
theorem ok_range (zs : List Int) : okFrom (layCl zs) zs.length (List.range zs.length) 0 = true := by
  rw [okFrom_iff (strip_fair zs) List.nodup_range (by simp) (by simp)]
  have none : ∀ f ∈ (layCl zs).crs, ∀ s : Nat, s < zs.length → btwB (layerN (List.range zs.length) s : Int) (layerN (List.range zs.length) f.first : Int) (layerN (List.range zs.length) f.second : Int) = false := by
    intro f hf s hs
    obtain ⟨i, hi, rfl⟩ := mem_crs hf
    rw [layerN_range hs, layerN_range (show i < zs.length by omega), layerN_range hi, Bool.eq_false_iff, Ne, btwB_iff]
    omega
  refine ⟨fun f hf i hi h => ?_, fun f hf g hg _ _ => ?_⟩
  · have := none f hf i hi
    rw [h.2] at this
    cases this
  · obtain ⟨a, b, _⟩ := (strip_fair zs).ends g hg
    rw [none f hf _ a, none f hf _ b]
theorem count_pos (zs : List Int) : 1 ≤ countOf zs := by
  have : List.range zs.length ∈ ordersOf (layCl zs) zs.length := mem_orders.2 ⟨List.nodup_range, by simp, by simp, ok_range zs⟩
  exact List.length_pos_of_mem this

/-- A strip, stretched. -/
theorem posAt_scale (zs : List Int) (t : Int) : ∀ k, posAt (zs.map (· * t)) k = posAt zs k * t
  | 0 => by simp [posAt]
  | k + 1 => by
    have e : (zs.map (· * t))[k]?.getD 0 = zs[k]?.getD 0 * t := by
      rw [List.getElem?_map]
      cases zs[k]? <;> simp
    rw [posAt, posAt, posAt_scale zs t k, e]
    split
    · rw [Int.add_mul]
    · rw [Int.sub_mul]
theorem lt_scale {t a b : Int} (ht : 0 < t) : a * t < b * t ↔ a < b := by
  constructor
  · intro h; exact Int.lt_of_mul_lt_mul_right h (by omega)
  · intro h; exact Int.mul_lt_mul_of_pos_right h ht
theorem btwB_scale {t : Int} (ht : 0 < t) (x a b : Int) : btwB (x * t) (a * t) (b * t) = btwB x a b := by
  rw [Bool.eq_iff_iff, btwB_iff, btwB_iff]
  have h1 := lt_scale ht (a := a) (b := x)
  have h2 := lt_scale ht (a := b) (b := x)
  have h3 := lt_scale ht (a := x) (b := a)
  have h4 := lt_scale ht (a := x) (b := b)
  omega
def Cr.stretch (t : Int) (f : Cr) : Cr := ⟨f.first, f.second, f.pos * t⟩
theorem crs_scale (zs : List Int) (t : Int) : (layCl (zs.map (· * t))).crs = (layCl zs).crs.map (Cr.stretch t) := by
  simp only [layCl, crsTo, List.length_map, List.map_map]
  refine List.map_congr_left fun i _ => ?_
  simp [Cr.stretch, posAt_scale]
theorem mul_inj {t a b : Int} (ht : 0 < t) (h : a * t = b * t) : a = b := Int.eq_of_mul_eq_mul_right (by omega) h
theorem noCross_scale (zs : List Int) {t : Int} (ht : 0 < t) (A : Nat → Int) : NoCross zs.length (posAt (zs.map (· * t))) (layCl (zs.map (· * t))).crs rightS A ↔ NoCross zs.length (posAt zs) (layCl zs).crs rightS A := by
  rw [crs_scale]
  constructor
  · rintro ⟨h1, h2⟩
    refine ⟨fun f hf i hi => ?_, fun f hf g hg e1 e2 => ?_⟩
    · have := h1 _ (List.mem_map_of_mem (f := Cr.stretch t) hf) i hi
      rw [posAt_scale, posAt_scale] at this
      simp only [Cr.stretch, btwB_scale ht] at this
      exact this
    · exact h2 (f.stretch t) (List.mem_map_of_mem hf) (g.stretch t) (List.mem_map_of_mem hg) (by simp only [Cr.stretch, e1]) e2
  · rintro ⟨h1, h2⟩
    refine ⟨fun f hf i hi => ?_, fun f hf g hg e1 e2 => ?_⟩
    · obtain ⟨f', hf', rfl⟩ := List.mem_map.1 hf
      rw [posAt_scale, posAt_scale]
      simp only [Cr.stretch, btwB_scale ht]
      exact h1 f' hf' i hi
    · obtain ⟨f', hf', rfl⟩ := List.mem_map.1 hf
      obtain ⟨g', hg', rfl⟩ := List.mem_map.1 hg
      exact h2 f' hf' g' hg' (mul_inj ht e1) e2
theorem ok_scale {zs : List Int} {t : Int} (ht : 0 < t) {P : List Nat} (hn : P.Nodup) (hv : ∀ x ∈ P, x < zs.length) (hl : P.length = zs.length) :
    okFrom (layCl (zs.map (· * t))) zs.length P 0 = okFrom (layCl zs) zs.length P 0 := by
  have hF := strip_fair (zs.map (· * t))
  rw [List.length_map] at hF
  rw [Bool.eq_iff_iff, okFrom_iff hF hn hv hl, okFrom_iff (strip_fair zs) hn hv hl]
  exact noCross_scale zs ht _
theorem orders_scale (zs : List Int) {t : Int} (ht : 0 < t) : ordersOf (layCl (zs.map (· * t))) zs.length = ordersOf (layCl zs) zs.length := by
  rw [ordersOf, ordersOf, orders_filter, orders_filter]
  refine List.filter_congr fun P hP => ?_
  obtain ⟨e1, e2, e3, _⟩ := permsAll_ok zs.length zs.length [] List.nodup_nil (by simp) P hP
  exact ok_scale ht e2 e3 (by simpa using e1)
theorem count_scale (zs : List Int) {t : Int} (ht : 0 < t) : countOf (zs.map (· * t)) = countOf zs := by
  rw [countOf, countOf, List.length_map, orders_scale zs ht]
theorem letters_scale (zs : List Int) (t : Int) (O : List Nat) : crsOf (zs.map (· * t)) O = crsOf zs O := by
  rw [crsOf, crsOf, crs_scale, List.length_map, lettersZ, lettersZ, List.map_map]
  rfl

/-- Every list of all numbers is an order. -/
theorem orderB_of {O : List Nat} {n : Nat} (hn : O.Nodup) (hv : ∀ x ∈ O, x < n) (hl : O.length = n) : orderB (O.map fun (x : Nat) => (x : Int)) n = true := by
  have hg : ∀ k (hk : k < O.length), (O.map fun (x : Nat) => (x : Int))[k]?.getD 0 = (O[k] : Int) := fun k hk => by simp [hk]
  have hs : ∀ k, k ≤ n → ∀ s, s < n → ((seenTo (O.map fun (x : Nat) => (x : Int)) n k)[s]?.getD false = true → ∃ j, ∃ h : j < O.length, j < k ∧ O[j] = s) := by
    intro k
    induction k with
    | zero => intro _ s hsn h; simp [seenTo, hsn] at h
    | succ k ih =>
      intro hk s hsn h
      rw [seenTo, hg k (by omega), Int.toNat_natCast, List.getElem?_set] at h
      by_cases e : O[k] = s
      · exact ⟨k, by omega, by omega, e⟩
      · rw [if_neg e] at h
        obtain ⟨j, h1, h2, h3⟩ := ih (by omega) s hsn h
        exact ⟨j, h1, by omega, h3⟩
  simp only [orderB, List.length_map, hl, decide_true, Bool.true_and, List.all_eq_true, List.mem_range]
  intro k hk
  have hkv := hv _ (List.getElem_mem (show k < O.length by omega))
  rw [newAt, hg k (by omega), Int.toNat_natCast, decide_eq_true (by omega : (0 : Int) ≤ (O[k] : Int)), decide_eq_true (by omega : (O[k] : Int) < n), Bool.true_and, Bool.true_and, Bool.not_eq_true']
  rw [Bool.eq_false_iff]
  intro h
  obtain ⟨j, h1, h2, h3⟩ := hs k (by omega) _ hkv h
  have := (List.getElem_inj hn).1 h3
  omega

/-- Creases' answer at an order that folds. -/
theorem creasesZ_of {zs : List Int} {O : List Nat} (hs : stripB zs = true) (hO : O ∈ ordersOf (layCl zs) zs.length) : creasesZ zs (O.map fun (x : Nat) => (x : Int)) = (crsOf zs O, 0) := by
  obtain ⟨h1, h2, h3, h4⟩ := mem_orders.1 hO
  have hf : foldsZ zs (O.map fun (x : Nat) => (x : Int)) = (true, 0) := by
    rw [foldsZ, if_pos hs, if_pos (orderB_of h1 h2 h3), toNat_back, h4]
  rw [creasesZ, hf, if_pos rfl, if_pos rfl, toNat_back]

end Go.Proofs.Yteankhgikpejhaa
