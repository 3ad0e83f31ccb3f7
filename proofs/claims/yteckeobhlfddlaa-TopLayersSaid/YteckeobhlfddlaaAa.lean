/-
  Pure: two neighbouring layers of an order that folds a strip may be exchanged if their segments do not overlap.
-/
import Derived.Test.YteckeobhlfddlaaHc
namespace Go.Proofs.Yteckeobhlfddlaa

/-- An order with the layers k and k + 1 exchanged. -/
def swapO (O : List Nat) (k : Nat) : List Nat := (O.set k (O[k + 1]?.getD 0)).set (k + 1) (O[k]?.getD 0)
def sgm (k j : Nat) : Nat := if j = k then k + 1 else if j = k + 1 then k else j
theorem sgm_sgm (k j : Nat) : sgm k (sgm k j) = j := by unfold sgm; (repeat' split) <;> omega
theorem sgm_lt {k j n : Nat} (hk : k + 1 < n) (hj : j < n) : sgm k j < n := by unfold sgm; (repeat' split) <;> omega
theorem swapO_len (O : List Nat) (k : Nat) : (swapO O k).length = O.length := by simp [swapO]
theorem swapO_get {O : List Nat} {k : Nat} (hk : k + 1 < O.length) {j : Nat} (hj : j < O.length) : (swapO O k)[j]'(by rw [swapO_len]; exact hj) = O[sgm k j]'(sgm_lt hk hj) := by
  have hk0 : O[k]?.getD 0 = O[k] := by rw [List.getElem?_eq_getElem (by omega)]; rfl
  have hk1 : O[k + 1]?.getD 0 = O[k + 1] := by rw [List.getElem?_eq_getElem hk]; rfl
  simp only [swapO, List.getElem_set, hk0, hk1]
  by_cases h1 : k + 1 = j
  · subst h1
    rw [if_pos rfl]
    congr 1
    unfold sgm
    rw [if_neg (by omega), if_pos rfl]
  · rw [if_neg h1]
    by_cases h2 : k = j
    · subst h2
      rw [if_pos rfl]
      congr 1
      unfold sgm
      rw [if_pos rfl]
    · rw [if_neg h2]
      congr 1
      unfold sgm
      rw [if_neg (by omega), if_neg (by omega)]
theorem swapO_nodup {O : List Nat} {k : Nat} (hn : O.Nodup) (hk : k + 1 < O.length) : (swapO O k).Nodup := by
  refine List.pairwise_iff_getElem.2 fun i j hi hj hij e => ?_
  rw [swapO_len] at hi hj
  rw [swapO_get hk hi, swapO_get hk hj] at e
  have := (List.getElem_inj hn).1 e
  have := congrArg (sgm k) this
  rw [sgm_sgm, sgm_sgm] at this
  omega
theorem swapO_lt {O : List Nat} {k n : Nat} (hk : k + 1 < O.length) (hv : ∀ x ∈ O, x < n) : ∀ x ∈ swapO O k, x < n := fun x hx => by
  obtain ⟨j, hj, rfl⟩ := List.getElem_of_mem hx
  rw [swapO_len] at hj
  rw [swapO_get hk hj]
  exact hv _ (List.getElem_mem _)
theorem swapO_layer {O : List Nat} {k n : Nat} (hn : O.Nodup) (hv : ∀ x ∈ O, x < n) (hl : O.length = n) (hk : k + 1 < n) {s : Nat} (hs : s < n) : layerN (swapO O k) s = sgm k (layerN O s) := by
  have hk' : k + 1 < O.length := by omega
  have hj := layerN_lt hn hv hl hs
  have hj' : layerN O s < O.length := by omega
  have hg := layerN_at hn hv hl hs
  rw [List.getElem?_eq_getElem hj', Option.getD_some] at hg
  have hσ := sgm_lt hk' hj'
  have h1 := swapO_get hk' hσ
  have h2 : O[sgm k (sgm k (layerN O s))]'(sgm_lt hk' hσ) = s := by
    have : sgm k (sgm k (layerN O s)) = layerN O s := sgm_sgm _ _
    simp only [this]; exact hg
  have := layerN_of (swapO_nodup hn hk') (sgm k (layerN O s)) (by rw [swapO_len]; exact hσ)
  rwa [h1, h2] at this

/-- Two segments have no length in common. -/
def DisZ (zs : List Int) (a b : Nat) : Prop := max (posAt zs a) (posAt zs (a + 1)) ≤ min (posAt zs b) (posAt zs (b + 1)) ∨ max (posAt zs b) (posAt zs (b + 1)) ≤ min (posAt zs a) (posAt zs (a + 1))
theorem seg_len {zs : List Int} (hz : ∀ i, i < zs.length → 1 ≤ zs[i]?.getD 0) {i : Nat} (hi : i < zs.length) : (i % 2 = 0 → posAt zs i < posAt zs (i + 1)) ∧ (¬ i % 2 = 0 → posAt zs (i + 1) < posAt zs i) := by
  have := hz i hi
  rw [posAt]
  constructor
  · intro h; rw [if_pos h]; omega
  · intro h; rw [if_neg h]; omega
/-- Which layer is the lower one stays as it is, but for the two. -/
theorem sgm_order {O : List Nat} {k n : Nat} (hn : O.Nodup) (hv : ∀ x ∈ O, x < n) (hl : O.length = n) (hk : k + 1 < n) {x y : Nat} (hx : x < n) (hy : y < n) (h1 : ¬ (x = O[k]?.getD 0 ∧ y = O[k + 1]?.getD 0)) (h2 : ¬ (x = O[k + 1]?.getD 0 ∧ y = O[k]?.getD 0)) :
    (layerN (swapO O k) x < layerN (swapO O k) y ↔ layerN O x < layerN O y) := by
  rw [swapO_layer hn hv hl hk hx, swapO_layer hn hv hl hk hy]
  have e1 := layerN_at hn hv hl hx
  have e2 := layerN_at hn hv hl hy
  generalize layerN O x = A at e1
  generalize layerN O y = B at e2
  have h1' : ¬ (A = k ∧ B = k + 1) := fun ⟨a, b⟩ => h1 ⟨by rw [← e1, a], by rw [← e2, b]⟩
  have h2' : ¬ (A = k + 1 ∧ B = k) := fun ⟨a, b⟩ => h2 ⟨by rw [← e1, a], by rw [← e2, b]⟩
  unfold sgm
  (repeat' split) <;> omega
theorem btw_keep {a b c a' b' c' : Int} (h1 : a' < b' ↔ a < b) (h2 : b' < a' ↔ b < a) (h3 : a' < c' ↔ a < c) (h4 : c' < a' ↔ c < a) : btwB a' b' c' = btwB a b c := by
  have k : ∀ x y z : Int, btwB x y z = true ↔ (y < x ∨ z < x) ∧ (x < y ∨ x < z) := fun x y z => by rw [btwB_iff]; omega
  rw [Bool.eq_iff_iff, k, k, h1, h2, h3, h4]
def mnZ (zs : List Int) (i : Nat) : Int := min (posAt zs i) (posAt zs (i + 1))
def mxZ (zs : List Int) (i : Nat) : Int := max (posAt zs i) (posAt zs (i + 1))
theorem mn_mx {zs : List Int} (hz : ∀ i, i < zs.length → 1 ≤ zs[i]?.getD 0) {i : Nat} (hi : i < zs.length) : mnZ zs i < mxZ zs i := by
  have := seg_len hz hi
  unfold mnZ mxZ; omega
theorem nd_low {zs : List Int} {i j : Nat} {p : Int} (h1 : mnZ zs i < mxZ zs i) (h2 : mnZ zs j < mxZ zs j) (h3 : mnZ zs i = p) (h4 : mnZ zs j = p) : ¬ DisZ zs i j := by
  have e : DisZ zs i j ↔ mxZ zs i ≤ mnZ zs j ∨ mxZ zs j ≤ mnZ zs i := Iff.rfl
  rw [e]; omega
theorem nd_high {zs : List Int} {i j : Nat} {p : Int} (h1 : mnZ zs i < mxZ zs i) (h2 : mnZ zs j < mxZ zs j) (h3 : mxZ zs i = p) (h4 : mxZ zs j = p) : ¬ DisZ zs i j := by
  have e : DisZ zs i j ↔ mxZ zs i ≤ mnZ zs j ∨ mxZ zs j ≤ mnZ zs i := Iff.rfl
  rw [e]; omega
theorem nd_over {zs : List Int} {i j : Nat} {p : Int} (h2 : mnZ zs j < mxZ zs j) (h1 : mnZ zs i < p ∧ p < mxZ zs i) (h3 : mnZ zs j = p ∨ mxZ zs j = p) : ¬ DisZ zs i j := by
  have e : DisZ zs i j ↔ mxZ zs i ≤ mnZ zs j ∨ mxZ zs j ≤ mnZ zs i := Iff.rfl
  rw [e]; omega
theorem nd_sym {zs : List Int} {i j : Nat} (h : ¬ DisZ zs i j) : ¬ DisZ zs j i := fun k => h k.symm
/-- On which side of its place a crease has its segments. -/
theorem side_low {zs : List Int} (hz : ∀ i, i < zs.length → 1 ≤ zs[i]?.getD 0) {j : Nat} (hj : j + 1 < zs.length) (h : (j + 1) % 2 = 0) : mnZ zs j = posAt zs (j + 1) ∧ mnZ zs (j + 1) = posAt zs (j + 1) := by
  have h1 := (seg_len hz (i := j) (by omega)).2 (by omega)
  have h2 := (seg_len hz hj).1 h
  unfold mnZ; omega
theorem side_high {zs : List Int} (hz : ∀ i, i < zs.length → 1 ≤ zs[i]?.getD 0) {j : Nat} (hj : j + 1 < zs.length) (h : ¬ (j + 1) % 2 = 0) : mxZ zs j = posAt zs (j + 1) ∧ mxZ zs (j + 1) = posAt zs (j + 1) := by
  have h1 := (seg_len hz (i := j) (by omega)).1 (by omega)
  have h2 := (seg_len hz hj).2 h
  unfold mxZ; omega
/-- Two segments at one place, on one side. -/
theorem nd_side {zs : List Int} (hz : ∀ i, i < zs.length → 1 ≤ zs[i]?.getD 0) {j m : Nat} (hj : j + 1 < zs.length) (hm : m + 1 < zs.length) (hp : posAt zs (m + 1) = posAt zs (j + 1)) (hr : (m + 1) % 2 = 0 ↔ (j + 1) % 2 = 0) {x y : Nat} (hx : x = m ∨ x = m + 1) (hy : y = j ∨ y = j + 1) : ¬ DisZ zs x y := by
  have hxn : x < zs.length := by omega
  have hyn : y < zs.length := by omega
  by_cases h : (j + 1) % 2 = 0
  · have a := side_low hz hm (hr.2 h)
    have b := side_low hz hj h
    refine nd_low (p := posAt zs (j + 1)) (mn_mx hz hxn) (mn_mx hz hyn) ?_ ?_
    · rcases hx with rfl | rfl
      · rw [a.1, hp]
      · rw [a.2, hp]
    · rcases hy with rfl | rfl
      · exact b.1
      · exact b.2
  · have a := side_high hz hm (fun k => h (hr.1 k))
    have b := side_high hz hj h
    refine nd_high (p := posAt zs (j + 1)) (mn_mx hz hxn) (mn_mx hz hyn) ?_ ?_
    · rcases hx with rfl | rfl
      · rw [a.1, hp]
      · rw [a.2, hp]
    · rcases hy with rfl | rfl
      · exact b.1
      · exact b.2
theorem swap_folds {zs : List Int} (hz : ∀ i, i < zs.length → 1 ≤ zs[i]?.getD 0) {O : List Nat} {k : Nat} (hO : O ∈ ordersOf (layCl zs) zs.length) (hk : k + 1 < zs.length) (hd : DisZ zs (O[k]?.getD 0) (O[k + 1]?.getD 0)) :
    swapO O k ∈ ordersOf (layCl zs) zs.length ∧ crsOf zs (swapO O k) = crsOf zs O := by
  obtain ⟨hn, hv, hl, hok⟩ := mem_orders.1 hO
  have hk' : k + 1 < O.length := by omega
  have hn' := swapO_nodup hn hk'
  have hv' := swapO_lt hk' hv
  have hl' : (swapO O k).length = zs.length := by rw [swapO_len]; exact hl
  rw [okFrom_iff (strip_fair zs) hn hv hl] at hok
  -- what lies over one another keeps its order
  have keep : ∀ x y, x < zs.length → y < zs.length → ¬ DisZ zs x y → ((layerN (swapO O k) x : Int) < (layerN (swapO O k) y : Int) ↔ (layerN O x : Int) < (layerN O y : Int)) := fun x y hx hy hxy => by
    have := sgm_order hn hv hl hk hx hy (fun ⟨a, b⟩ => hxy (by rw [a, b]; exact hd)) (fun ⟨a, b⟩ => hxy (by rw [a, b]; exact hd.symm))
    rw [Int.ofNat_lt, Int.ofNat_lt]
    exact this
  have keep3 : ∀ x y z, x < zs.length → y < zs.length → z < zs.length → ¬ DisZ zs x y → ¬ DisZ zs x z → btwB (layerN (swapO O k) x : Int) (layerN (swapO O k) y : Int) (layerN (swapO O k) z : Int) = btwB (layerN O x : Int) (layerN O y : Int) (layerN O z : Int) := fun x y z hx hy hz h1 h2 =>
    btw_keep (keep x y hx hy h1) (keep y x hy hx (nd_sym h1)) (keep x z hx hz h2) (keep z x hz hx (nd_sym h2))
  refine ⟨mem_orders.2 ⟨hn', hv', hl', (okFrom_iff (strip_fair zs) hn' hv' hl').2 ⟨fun f hf i hi => ?_, fun f hf g hg hp hr => ?_⟩⟩, ?_⟩
  · have hs := hok.seg f hf i hi
    obtain ⟨j, hj, rfl⟩ := mem_crs hf
    simp only [] at hs ⊢
    rintro ⟨b1, b2⟩
    have b1' := (btwB_iff _ _ _).1 b1
    have hends : (mnZ zs j = posAt zs (j + 1) ∨ mxZ zs j = posAt zs (j + 1)) ∧ (mnZ zs (j + 1) = posAt zs (j + 1) ∨ mxZ zs (j + 1) = posAt zs (j + 1)) := by
      by_cases h : (j + 1) % 2 = 0
      · have := side_low hz hj h; exact ⟨.inl this.1, .inl this.2⟩
      · have := side_high hz hj h; exact ⟨.inr this.1, .inr this.2⟩
    have n1 := nd_over (i := i) (mn_mx hz (i := j) (by omega)) b1' hends.1
    have n2 := nd_over (i := i) (mn_mx hz hj) b1' hends.2
    exact hs ⟨b1, by rw [← keep3 i j (j + 1) hi (by omega) hj n1 n2]; exact b2⟩
  · have hs := hok.cr f hf g hg hp hr
    obtain ⟨j, hj, rfl⟩ := mem_crs hf
    obtain ⟨m, hm, rfl⟩ := mem_crs hg
    simp only [rightS] at hs hp hr ⊢
    have hr' : (m + 1) % 2 = 0 ↔ (j + 1) % 2 = 0 := decide_eq_decide.1 hr
    rw [keep3 m j (j + 1) (by omega) (by omega) hj (nd_side hz hj hm hp hr' (.inl rfl) (.inl rfl)) (nd_side hz hj hm hp hr' (.inl rfl) (.inr rfl)),
      keep3 (m + 1) j (j + 1) hm (by omega) hj (nd_side hz hj hm hp hr' (.inr rfl) (.inl rfl)) (nd_side hz hj hm hp hr' (.inr rfl) (.inr rfl))]
    exact hs
  · refine congrArg strOf ?_
    refine List.map_congr_left fun f hf => ?_
    obtain ⟨j, hj, rfl⟩ := mem_crs hf
    have o1 := keep j (j + 1) (by omega) hj (nd_side hz hj hj rfl Iff.rfl (.inl rfl) (.inr rfl))
    unfold letterZ
    simp only []
    rw [layersOf_at hn' hv' hl' (by omega), layersOf_at hn' hv' hl' hj, layersOf_at hn hv hl (by omega), layersOf_at hn hv hl hj]
    rw [show decide ((layerN (swapO O k) j : Int) < (layerN (swapO O k) (j + 1) : Int)) = decide ((layerN O j : Int) < (layerN O (j + 1) : Int)) from decide_eq_decide.2 o1]

end Go.Proofs.Yteckeobhlfddlaa
