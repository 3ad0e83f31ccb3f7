/-
  A segment that is folded in between its neighbours: if the longer strip folds, the shorter one does (lists and numbers alone).
  A segment that is folded in between its neighbours: if the longer strip folds, the shorter one does: the walk through the places (lists and numbers alone).
-/
import Derived.Test.YtfgenpailmgkiaaMa
namespace Go.Proofs.Ytfgenpailmgkiaa

theorem bound_of (A : Nat → Int) : ∀ n, ∃ K : Int, 0 < K ∧ ∀ i, i < n → -K < A i ∧ A i < K
  | 0 => ⟨1, by omega, fun i h => by omega⟩
  | n + 1 => by
    obtain ⟨K, h0, h⟩ := bound_of A n
    refine ⟨max K (max (A n + 1) (1 - A n)), by omega, fun i hi => ?_⟩
    by_cases e : i = n
    · subst e; omega
    · have := h i (by omega); omega

theorem btw_of {i s t i' s' t' : Int} (h1 : i < s ↔ i' < s') (h2 : s < i ↔ s' < i') (h3 : i < t ↔ i' < t') (h4 : t < i ↔ t' < i') : Btw i s t ↔ Btw i' s' t' := by unfold Btw; omega

/-- What becomes of the layer a left of the fold, right of it, and in it; u, v, w are the layers of the three segments, K is greater than all layers. -/
def QL (u w K a b : Int) : Prop := (a < u ∧ b = a) ∨ (a = u ∧ b = a + 4 * K) ∨ (u < a ∧ a < w ∧ b = a + 6 * K) ∨ (w < a ∧ b = a + 8 * K)
def QR (u w K a b : Int) : Prop := (a < u ∧ b = a) ∨ (u < a ∧ a < w ∧ b = a + 2 * K) ∨ (a = w ∧ b = u + 4 * K) ∨ (w < a ∧ b = a + 8 * K)
def QX (u v w K a b : Int) : Prop := (a < u ∧ b = a) ∨ (a = u ∧ b = a + 4 * K) ∨ (u < a ∧ a < v ∧ b = a + 6 * K) ∨ (v < a ∧ a < w ∧ b = a + 2 * K) ∨ (w < a ∧ b = a + 8 * K)
def QY (u v w K a b : Int) : Prop := (a < u ∧ b = a) ∨ (u < a ∧ a < v ∧ b = a + 6 * K) ∨ (v < a ∧ a < w ∧ b = a + 2 * K) ∨ (a = w ∧ b = u + 4 * K) ∨ (w < a ∧ b = a + 8 * K)

def In (K a : Int) : Prop := -K < a ∧ a < K

theorem QL.lt {u w K a b c d : Int} (hu : In K u) (ha : In K a) (hc : In K c) (huw : u < w) (h1 : QL u w K a b) (h2 : QL u w K c d) : a < c ↔ b < d := by
  unfold QL In at *
  rcases h1 with h | h | h | h <;> rcases h2 with g | g | g | g <;> omega
theorem QR.lt {u w K a b c d : Int} (hu : In K u) (ha : In K a) (hc : In K c) (huw : u < w) (h1 : QR u w K a b) (h2 : QR u w K c d) : a < c ↔ b < d := by
  unfold QR In at *
  rcases h1 with h | h | h | h <;> rcases h2 with g | g | g | g <;> omega
theorem QX.lt {u v w K a b c d : Int} (hu : In K u) (ha : In K a) (hc : In K c) (huv : u < v) (hvw : v < w) (h1 : QX u v w K a b) (h2 : QX u v w K c d) (n1 : ¬ Btw a v w) (n2 : ¬ Btw c v w) : a < c ↔ b < d := by
  unfold QX In Btw at *
  rcases h1 with h | h | h | h | h <;> rcases h2 with g | g | g | g | g <;> omega
theorem QY.lt {u v w K a b c d : Int} (hu : In K u) (ha : In K a) (hc : In K c) (huv : u < v) (hvw : v < w) (h1 : QY u v w K a b) (h2 : QY u v w K c d) (n1 : ¬ Btw a u v) (n2 : ¬ Btw c u v) : a < c ↔ b < d := by
  unfold QY In Btw at *
  rcases h1 with h | h | h | h | h <;> rcases h2 with g | g | g | g | g <;> omega
theorem QL.btw {u w K i s t i' s' t' : Int} (hu : In K u) (hi : In K i) (hs : In K s) (ht : In K t) (huw : u < w) (h1 : QL u w K i i') (h2 : QL u w K s s') (h3 : QL u w K t t') : Btw i s t ↔ Btw i' s' t' :=
  btw_of (h1.lt hu hi hs huw h2) (h2.lt hu hs hi huw h1) (h1.lt hu hi ht huw h3) (h3.lt hu ht hi huw h1)
theorem QR.btw {u w K i s t i' s' t' : Int} (hu : In K u) (hi : In K i) (hs : In K s) (ht : In K t) (huw : u < w) (h1 : QR u w K i i') (h2 : QR u w K s s') (h3 : QR u w K t t') : Btw i s t ↔ Btw i' s' t' :=
  btw_of (h1.lt hu hi hs huw h2) (h2.lt hu hs hi huw h1) (h1.lt hu hi ht huw h3) (h3.lt hu ht hi huw h1)
/-- Inside the block, and outside of it. -/
theorem QX.inside {u v w K a b : Int} (hu : In K u) (ha : In K a) (huv : u < v) (hvw : v < w) (h : QX u v w K a b) (n : Btw a v w) : b = a + 2 * K ∧ K < b ∧ b < 3 * K := by
  unfold QX In Btw at *
  rcases h with h | h | h | h | h <;> omega
theorem QX.outside {u v w K a b : Int} (hu : In K u) (ha : In K a) (huv : u < v) (hvw : v < w) (h : QX u v w K a b) (n : ¬ Btw a v w) (h0 : a ≠ v) (h1 : a ≠ w) : b < K ∨ 3 * K < b := by
  unfold QX In Btw at *
  rcases h with h | h | h | h | h <;> omega
theorem QY.inside {u v w K a b : Int} (hu : In K u) (ha : In K a) (huv : u < v) (hvw : v < w) (h : QY u v w K a b) (n : Btw a u v) : b = a + 6 * K ∧ 5 * K < b ∧ b < 7 * K := by
  unfold QY In Btw at *
  rcases h with h | h | h | h | h <;> omega
theorem QY.outside {u v w K a b : Int} (hu : In K u) (ha : In K a) (huv : u < v) (hvw : v < w) (h : QY u v w K a b) (n : ¬ Btw a u v) : b < 5 * K ∨ 7 * K < b := by
  unfold QY In Btw at *
  rcases h with h | h | h | h | h <;> omega

/-- At an end of the fold: what lies in the block does so with both segments of each crease, and crosses nothing there. -/
theorem QX.seg {u v w K i s t i' s' t' : Int} (hu : In K u) (hi : In K i) (hs : In K s) (ht : In K t) (huv : u < v) (hvw : v < w) (h1 : QX u v w K i i') (h2 : QX u v w K s s') (h3 : QX u v w K t t')
    (nb : Btw s v w ↔ Btw t v w) (ni : ¬ Btw i v w) (n : ¬ Btw i s t) : ¬ Btw i' s' t' := by
  by_cases hb : Btw s v w
  · have e1 := h2.inside hu hs huv hvw hb
    have e2 := h3.inside hu ht huv hvw (nb.1 hb)
    unfold QX In Btw at *
    rcases h1 with h | h | h | h | h <;> omega
  · have hb' : ¬ Btw t v w := fun h => hb (nb.2 h)
    exact fun h => n ((btw_of (h1.lt hu hi hs huv hvw h2 ni hb) (h2.lt hu hs hi huv hvw h1 hb ni) (h1.lt hu hi ht huv hvw h3 ni hb') (h3.lt hu ht hi huv hvw h1 hb' ni)).2 h)
theorem QY.seg {u v w K i s t i' s' t' : Int} (hu : In K u) (hi : In K i) (hs : In K s) (ht : In K t) (huv : u < v) (hvw : v < w) (h1 : QY u v w K i i') (h2 : QY u v w K s s') (h3 : QY u v w K t t')
    (nb : Btw s u v ↔ Btw t u v) (ni : ¬ Btw i u v) (n : ¬ Btw i s t) : ¬ Btw i' s' t' := by
  by_cases hb : Btw s u v
  · have e1 := h2.inside hu hs huv hvw hb
    have e2 := h3.inside hu ht huv hvw (nb.1 hb)
    have e3 := h1.outside hu hi huv hvw ni
    unfold Btw
    omega
  · have hb' : ¬ Btw t u v := fun h => hb (nb.2 h)
    exact fun h => n ((btw_of (h1.lt hu hi hs huv hvw h2 ni hb) (h2.lt hu hs hi huv hvw h1 hb ni) (h1.lt hu hi ht huv hvw h3 ni hb') (h3.lt hu ht hi huv hvw h1 hb' ni)).2 h)
theorem QX.cr {u v w K i j s t i' j' s' t' : Int} (hu : In K u) (hi : In K i) (hj : In K j) (hs : In K s) (ht : In K t) (huv : u < v) (hvw : v < w) (h0 : QX u v w K i i') (h1 : QX u v w K j j') (h2 : QX u v w K s s') (h3 : QX u v w K t t')
    (nb : Btw s v w ↔ Btw t v w) (nc : Btw i v w ↔ Btw j v w) (d1 : s ≠ v ∧ s ≠ w ∧ t ≠ v ∧ t ≠ w) (d2 : i ≠ v ∧ i ≠ w ∧ j ≠ v ∧ j ≠ w) (n : Btw i s t ↔ Btw j s t) : Btw i' s' t' ↔ Btw j' s' t' := by
  by_cases hb : Btw s v w <;> by_cases hc : Btw i v w
  · have e0 := h0.inside hu hi huv hvw hc
    have e1 := h1.inside hu hj huv hvw (nc.1 hc)
    have e2 := h2.inside hu hs huv hvw hb
    have e3 := h3.inside hu ht huv hvw (nb.1 hb)
    clear h0 h1 h2 h3 nb nc hb hc
    unfold Btw at *; omega
  · have e0 := h0.outside hu hi huv hvw hc d2.1 d2.2.1
    have e1 := h1.outside hu hj huv hvw (fun h => hc (nc.2 h)) d2.2.2.1 d2.2.2.2
    have e2 := h2.inside hu hs huv hvw hb
    have e3 := h3.inside hu ht huv hvw (nb.1 hb)
    clear h0 h1 h2 h3 nb nc hb hc n
    unfold Btw at *; omega
  · have e0 := h0.inside hu hi huv hvw hc
    have e1 := h1.inside hu hj huv hvw (nc.1 hc)
    have e2 := h2.outside hu hs huv hvw hb d1.1 d1.2.1
    have e3 := h3.outside hu ht huv hvw (fun h => hb (nb.2 h)) d1.2.2.1 d1.2.2.2
    clear h0 h1 h2 h3 nb nc hb hc n
    unfold Btw at *; omega
  · have hb' : ¬ Btw t v w := fun h => hb (nb.2 h)
    have hc' : ¬ Btw j v w := fun h => hc (nc.2 h)
    rw [← btw_of (h0.lt hu hi hs huv hvw h2 hc hb) (h2.lt hu hs hi huv hvw h0 hb hc) (h0.lt hu hi ht huv hvw h3 hc hb') (h3.lt hu ht hi huv hvw h0 hb' hc),
      ← btw_of (h1.lt hu hj hs huv hvw h2 hc' hb) (h2.lt hu hs hj huv hvw h1 hb hc') (h1.lt hu hj ht huv hvw h3 hc' hb') (h3.lt hu ht hj huv hvw h1 hb' hc')]
    exact n
theorem QY.cr {u v w K i j s t i' j' s' t' : Int} (hu : In K u) (hi : In K i) (hj : In K j) (hs : In K s) (ht : In K t) (huv : u < v) (hvw : v < w) (h0 : QY u v w K i i') (h1 : QY u v w K j j') (h2 : QY u v w K s s') (h3 : QY u v w K t t')
    (nb : Btw s u v ↔ Btw t u v) (nc : Btw i u v ↔ Btw j u v) (n : Btw i s t ↔ Btw j s t) : Btw i' s' t' ↔ Btw j' s' t' := by
  by_cases hb : Btw s u v <;> by_cases hc : Btw i u v
  · have e0 := h0.inside hu hi huv hvw hc
    have e1 := h1.inside hu hj huv hvw (nc.1 hc)
    have e2 := h2.inside hu hs huv hvw hb
    have e3 := h3.inside hu ht huv hvw (nb.1 hb)
    clear h0 h1 h2 h3 nb nc hb hc
    unfold Btw at *; omega
  · have e0 := h0.outside hu hi huv hvw hc
    have e1 := h1.outside hu hj huv hvw (fun h => hc (nc.2 h))
    have e2 := h2.inside hu hs huv hvw hb
    have e3 := h3.inside hu ht huv hvw (nb.1 hb)
    clear h0 h1 h2 h3 nb nc hb hc n
    unfold Btw at *; omega
  · have e0 := h0.inside hu hi huv hvw hc
    have e1 := h1.inside hu hj huv hvw (nc.1 hc)
    have e2 := h2.outside hu hs huv hvw hb
    have e3 := h3.outside hu ht huv hvw (fun h => hb (nb.2 h))
    clear h0 h1 h2 h3 nb nc hb hc n
    unfold Btw at *; omega
  · have hb' : ¬ Btw t u v := fun h => hb (nb.2 h)
    have hc' : ¬ Btw j u v := fun h => hc (nc.2 h)
    rw [← btw_of (h0.lt hu hi hs huv hvw h2 hc hb) (h2.lt hu hs hi huv hvw h0 hb hc) (h0.lt hu hi ht huv hvw h3 hc hb') (h3.lt hu ht hi huv hvw h0 hb' hc),
      ← btw_of (h1.lt hu hj hs huv hvw h2 hc' hb) (h2.lt hu hs hj huv hvw h1 hb hc') (h1.lt hu hj ht huv hvw h3 hc' hb') (h3.lt hu ht hj huv hvw h1 hb' hc')]
    exact n

/-- Strictly inside the fold each crease lies in one of four blocks. -/
def Blk (u v w s t : Int) : Prop := ¬ Btw u s t ∧ ¬ Btw v s t ∧ ¬ Btw w s t ∧ s ≠ u ∧ s ≠ v ∧ s ≠ w ∧ t ≠ u ∧ t ≠ v ∧ t ≠ w
theorem side_of {u s t : Int} (h : ¬ Btw u s t) (h1 : s ≠ u) (h2 : t ≠ u) : (s < u ∧ t < u) ∨ (u < s ∧ u < t) := by unfold Btw at h; omega
set_option maxHeartbeats 1000000 in
theorem QX.blk {u v w K s t s' t' : Int} (hu : In K u) (hs : In K s) (ht : In K t) (huv : u < v) (hvw : v < w) (h2 : QX u v w K s s') (h3 : QX u v w K t t') (hb : Blk u v w s t) :
    (s < u ∧ t < u ∧ s' = s ∧ t' = t) ∨ (u < s ∧ s < v ∧ u < t ∧ t < v ∧ s' = s + 6 * K ∧ t' = t + 6 * K) ∨ (v < s ∧ s < w ∧ v < t ∧ t < w ∧ s' = s + 2 * K ∧ t' = t + 2 * K) ∨ (w < s ∧ w < t ∧ s' = s + 8 * K ∧ t' = t + 8 * K) := by
  obtain ⟨b1, b2, b3, n1, n2, n3, n4, n5, n6⟩ := hb
  have c1 := side_of b1 n1 n4
  have c2 := side_of b2 n2 n5
  have c3 := side_of b3 n3 n6
  clear b1 b2 b3
  unfold QX In at *
  rcases h2 with h | h | h | h | h <;> rcases h3 with g | g | g | g | g <;> first | (exfalso; omega) | (left; omega) | (right; left; omega) | (right; right; left; omega) | (right; right; right; omega)
set_option maxHeartbeats 1000000 in
theorem QX.seg' {u v w K i s t i' s' t' : Int} (hu : In K u) (hi : In K i) (hs : In K s) (ht : In K t) (huv : u < v) (hvw : v < w) (h1 : QX u v w K i i') (h2 : QX u v w K s s') (h3 : QX u v w K t t')
    (hb : Blk u v w s t) (n : ¬ Btw i s t) : ¬ Btw i' s' t' := by
  have h := h2.blk hu hs ht huv hvw h3 hb
  clear h2 h3 hb
  unfold QX In Btw at *
  rcases h with h | h | h | h <;> rcases h1 with g | g | g | g | g <;> omega
set_option maxHeartbeats 1000000 in
theorem QX.cr' {u v w K i j s t i' j' s' t' : Int} (hu : In K u) (hi : In K i) (hj : In K j) (hs : In K s) (ht : In K t) (huv : u < v) (hvw : v < w) (h0 : QX u v w K i i') (h1 : QX u v w K j j') (h2 : QX u v w K s s') (h3 : QX u v w K t t')
    (hb : Blk u v w s t) (hc : Blk u v w i j) (n : Btw i s t ↔ Btw j s t) : Btw i' s' t' ↔ Btw j' s' t' := by
  have h := h2.blk hu hs ht huv hvw h3 hb
  have g := h0.blk hu hi hj huv hvw h1 hc
  clear h2 h3 hb h0 h1 hc
  unfold In Btw at *
  rcases h with h | h | h | h <;> rcases g with g | g | g | g <;> omega

end Go.Proofs.Ytfgenpailmgkiaa

namespace Go.Proofs.Ytfgenpailmgkiaa

set_option maxHeartbeats 2000000 in
theorem crimp_down {N j : Nat} {p p' A : Nat → Int} (hj : j < N) (hz : ∀ i, i < N + 2 → (i % 2 = j % 2 → p i < p (i + 1)) ∧ (i % 2 ≠ j % 2 → p (i + 1) < p i)) (hl : p j ≤ p (j + 2)) (hr : p (j + 1) ≤ p (j + 3))
    (hp1 : ∀ i, i ≤ j → p' i = p i) (hp2 : ∀ i, j < i → i ≤ N → p' i = p (i + 2)) (hi : Inj (N + 2) A) (hn : NC (N + 2) p A) (h1 : A j < A (j + 1)) (h2 : A (j + 1) < A (j + 2)) :
    ∃ (B : Nat → Int) (r : Nat → Nat), (∀ i, i < j → r i = i) ∧ (∀ i, j ≤ i → r i = i + 2) ∧ Inj N B ∧ NC N p' B ∧ ∀ k, k + 1 < N → (B k < B (k + 1) ↔ A (r k) < A (r k + 1)) := by
  obtain ⟨K, hK0, hK'⟩ := bound_of A (N + 2)
  have hK : ∀ i, i < N + 2 → In K (A i) := hK'
  clear hK'
  obtain ⟨x, hx⟩ : ∃ x, p (j + 2) = x := ⟨_, rfl⟩
  obtain ⟨y, hy⟩ : ∃ y, p (j + 1) = y := ⟨_, rfl⟩
  have hxy : x < y := by
    have := (hz (j + 1) (by omega)).2 (by omega)
    rw [← hx, ← hy]; exact this
  have S1 : ∀ i, i < N + 2 → Btw (A i) (A j) (A (j + 1)) → ¬ Btw y (p i) (p (i + 1)) := by
    intro i h hb hc
    rw [← hy] at hc
    exact hn.seg j i (by omega) h hc hb
  have S2 : ∀ i, i < N + 2 → Btw (A i) (A (j + 1)) (A (j + 2)) → ¬ Btw x (p i) (p (i + 1)) := by
    intro i h hb hc
    rw [← hx] at hc
    exact hn.seg (j + 1) i (by omega) h hc hb
  have C1 : ∀ k, k + 1 < N + 2 → p (k + 1) = y → k % 2 = j % 2 → (Btw (A k) (A j) (A (j + 1)) ↔ Btw (A (k + 1)) (A j) (A (j + 1))) := fun k hk e hm => hn.cr k j hk (by omega) (by rw [e, hy]) hm
  have C2 : ∀ k, k + 1 < N + 2 → p (k + 1) = x → k % 2 ≠ j % 2 → (Btw (A k) (A (j + 1)) (A (j + 2)) ↔ Btw (A (k + 1)) (A (j + 1)) (A (j + 2))) := fun k hk e hm => hn.cr k (j + 1) hk (by omega) (by rw [e]; exact hx.symm) (by omega)
  have D0 : ∀ i, i < N + 2 → i ≠ j → A i ≠ A j := fun i h e => hi.ne h (by omega) e
  have D1 : ∀ i, i < N + 2 → i ≠ j + 1 → A i ≠ A (j + 1) := fun i h e => hi.ne h (by omega) e
  have D2 : ∀ i, i < N + 2 → i ≠ j + 2 → A i ≠ A (j + 2) := fun i h e => hi.ne h (by omega) e
  have S3 : ∀ k, k + 1 < N + 2 → x < p (k + 1) → p (k + 1) < y → k ≠ j → k ≠ j + 1 → ¬ Btw (A j) (A k) (A (k + 1)) ∧ ¬ Btw (A (j + 1)) (A k) (A (k + 1)) ∧ ¬ Btw (A (j + 2)) (A k) (A (k + 1)) := by
    intro k hk e1 e2 _ _
    refine ⟨hn.seg k j hk (by omega) ?_, hn.seg k (j + 1) hk (by omega) ?_, hn.seg k (j + 2) hk (by omega) ?_⟩
    · rw [hy]; unfold Btw; omega
    · show Btw _ (p (j + 1)) (p (j + 2))
      rw [hx, hy]; unfold Btw; omega
    · show Btw _ (p (j + 2)) (p (j + 3))
      rw [hx]; unfold Btw; omega
  have kj3 : p (j + 3) = p' (j + 1) := (hp2 (j + 1) (by omega) (by omega)).symm
  rw [hx] at hl
  rw [hy] at hr
  have hl' := hl
  have hr' := hr
  rw [kj3] at hr'
  rw [← hp1 j (Nat.le_refl _)] at hl'
  obtain ⟨lift, hlift⟩ : ∃ f : Nat → Int, ∀ i, f i = if A i < A j then A i else if A (j + 2) < A i then A i + 8 * K else if A i < A (j + 1) then (if max (p i) (p (i + 1)) ≤ y then A i + 6 * K else A i + 2 * K) else (if x ≤ min (p i) (p (i + 1)) then A i + 2 * K else A i + 6 * K) := ⟨_, fun _ => rfl⟩
  obtain ⟨B, hB1, hB2, hB3⟩ : ∃ B : Nat → Int, (∀ i, i < j → B i = lift i) ∧ B j = A j + 4 * K ∧ ∀ i, j < i → B i = lift (i + 2) :=
    ⟨fun i => if i < j then lift i else if i = j then A j + 4 * K else lift (i + 2), fun i h => if_pos h, by show (if j < j then _ else if j = j then _ else _) = _; rw [if_neg (by omega), if_pos rfl], fun i h => by show (if i < j then _ else if i = j then _ else _) = _; rw [if_neg (by omega), if_neg (by omega)]⟩
  obtain ⟨r, hr1, hr2⟩ : ∃ r : Nat → Nat, (∀ i, i < j → r i = i) ∧ ∀ i, j ≤ i → r i = i + 2 := ⟨fun i => if i < j then i else i + 2, fun i h => if_pos h, fun i h => if_neg (by omega)⟩
  obtain ⟨s, hs1, hs2⟩ : ∃ s : Nat → Nat, (∀ i, i ≤ j → s i = i) ∧ ∀ i, j < i → s i = i + 2 := ⟨fun i => if i ≤ j then i else i + 2, fun i h => if_pos h, fun i h => if_neg (by omega)⟩
  have lf : ∀ i, i < N + 2 → i ≠ j → i ≠ j + 1 → i ≠ j + 2 → (min (p i) (p (i + 1)) < x → QL (A j) (A (j + 2)) K (A i) (lift i)) ∧ (y < max (p i) (p (i + 1)) → QR (A j) (A (j + 2)) K (A i) (lift i)) ∧
      (x < max (p i) (p (i + 1)) → min (p i) (p (i + 1)) < y → QX (A j) (A (j + 1)) (A (j + 2)) K (A i) (lift i) ∧ QY (A j) (A (j + 1)) (A (j + 2)) K (A i) (lift i)) ∧
      (lift i = A i ∨ lift i = A i + 2 * K ∨ lift i = A i + 6 * K ∨ lift i = A i + 8 * K) := by
    intro i h e0 e1 e2
    have n0 := D0 i h e0
    have n1 := D1 i h e1
    have n2 := D2 i h e2
    have t1 := S1 i h
    have t2 := S2 i h
    rw [hlift i]
    clear hlift hB1 hB2 hB3 hr1 hr2 hs1 hs2 hl hr hl' hr' kj3 S1 S2 S3 C1 C2 D0 D1 D2 hn hi hK hp1 hp2 hz hx hy
    generalize p i = a at *
    generalize p (i + 1) = b at *
    generalize A i = c at *
    generalize A j = u at *
    generalize A (j + 1) = v at *
    generalize A (j + 2) = w at *
    unfold QL QR QX QY Btw at *
    by_cases c1 : c < u
    · rw [if_pos c1]; omega
    · rw [if_neg c1]
      by_cases c2 : w < c
      · rw [if_pos c2]; omega
      · rw [if_neg c2]
        by_cases c3 : c < v
        · rw [if_pos c3]
          have t1' : ¬ (min a b < y ∧ y < max a b) := t1 (by omega)
          by_cases c4 : max a b ≤ y
          · rw [if_pos c4]; omega
          · rw [if_neg c4]; omega
        · rw [if_neg c3]
          have t2' : ¬ (min a b < x ∧ x < max a b) := t2 (by omega)
          by_cases c4 : x ≤ min a b
          · rw [if_pos c4]; omega
          · rw [if_neg c4]; omega
  have rs : ∀ k, s (k + 1) = r k + 1 := by
    intro k
    by_cases h : k < j
    · rw [hs1 _ (by omega), hr1 k h]
    · rw [hs2 _ (by omega), hr2 k (by omega)]
  have rs0 : ∀ k, k ≠ j → s k = r k := by
    intro k h
    by_cases h' : k < j
    · rw [hs1 k (by omega), hr1 k h']
    · rw [hs2 k (by omega), hr2 k (by omega)]
  have rr : ∀ k, k + 1 ≠ j → r (k + 1) = r k + 1 := by
    intro k h
    by_cases h' : k < j
    · rw [hr1 _ (by omega), hr1 k h']
    · rw [hr2 _ (by omega), hr2 k (by omega)]
  have rlt : ∀ k, k < N → r k < N + 2 := by
    intro k h
    by_cases h' : k < j
    · rw [hr1 k h']; omega
    · rw [hr2 k (by omega)]; omega
  have slt : ∀ k, k < N → s k < N + 2 := by
    intro k h
    by_cases h' : k ≤ j
    · rw [hs1 k h']; omega
    · rw [hs2 k (by omega)]; omega
  have rpar : ∀ k, r k % 2 = k % 2 := by
    intro k
    by_cases h' : k < j
    · rw [hr1 k h']
    · rw [hr2 k (by omega)]; omega
  have rne : ∀ k, k < N → r k ≠ j ∧ r k ≠ j + 1 := by
    intro k h
    by_cases h' : k < j
    · rw [hr1 k h']; omega
    · rw [hr2 k (by omega)]; omega
  have pz : ∀ k, k < N → p' (k + 1) = p (r k + 1) := by
    intro k h
    by_cases h' : k < j
    · rw [hr1 k h', hp1 _ (by omega)]
    · rw [hr2 k (by omega), hp2 _ (by omega) (by omega)]
  have zz : ∀ i, i < N → (i % 2 = j % 2 → p' i < p' (i + 1)) ∧ (i % 2 ≠ j % 2 → p' (i + 1) < p' i) := by
    intro i h
    by_cases h' : i < j
    · rw [hp1 i (by omega), hp1 (i + 1) (by omega)]; exact hz i (by omega)
    · by_cases h'' : i = j
      · subst h''
        refine ⟨fun _ => by omega, fun h => absurd rfl h⟩
      · rw [hp2 i (by omega) (by omega), hp2 (i + 1) (by omega) (by omega)]
        have := hz (i + 2) (by omega)
        have e : (i + 2) % 2 = i % 2 := by omega
        rw [e] at this
        exact this
  have bf : ∀ i, i < N → (min (p' i) (p' (i + 1)) < x → QL (A j) (A (j + 2)) K (A (s i)) (B i)) ∧ (y < max (p' i) (p' (i + 1)) → QR (A j) (A (j + 2)) K (A (r i)) (B i)) ∧
      (x < max (p' i) (p' (i + 1)) → min (p' i) (p' (i + 1)) < y → QX (A j) (A (j + 1)) (A (j + 2)) K (A (s i)) (B i) ∧ QY (A j) (A (j + 1)) (A (j + 2)) K (A (r i)) (B i)) := by
    intro i h
    by_cases h' : i < j
    · rw [hs1 i (by omega), hr1 i h', hB1 i h', hp1 i (by omega), hp1 (i + 1) (by omega)]
      obtain ⟨a, b, c, _⟩ := lf i (by omega) (by omega) (by omega) (by omega)
      exact ⟨a, b, c⟩
    · by_cases h'' : i = j
      · subst h''
        rw [hs1 i (by omega), hr2 i (by omega), hB2]
        exact ⟨fun _ => .inr (.inl ⟨rfl, rfl⟩), fun _ => .inr (.inr (.inl ⟨rfl, rfl⟩)), fun _ _ => ⟨.inr (.inl ⟨rfl, rfl⟩), .inr (.inr (.inr (.inl ⟨rfl, rfl⟩)))⟩⟩
      · rw [hs2 i (by omega), hr2 i (by omega), hB3 i (by omega), hp2 i (by omega) (by omega), hp2 (i + 1) (by omega) (by omega)]
        obtain ⟨a, b, c, _⟩ := lf (i + 2) (by omega) (by omega) (by omega) (by omega)
        exact ⟨a, b, c⟩
  have cont : ∀ i, i < N → ∀ z, Btw z (p' i) (p' (i + 1)) → (z < y → Btw z (p (s i)) (p (s i + 1))) ∧ (x < z → Btw z (p (r i)) (p (r i + 1))) := by
    intro i h z hb
    by_cases h' : i < j
    · rw [hs1 i (by omega), hr1 i h', ← hp1 i (by omega), ← hp1 (i + 1) (by omega)]
      exact ⟨fun _ => hb, fun _ => hb⟩
    · by_cases h'' : i = j
      · subst h''
        rw [hs1 i (by omega), hr2 i (by omega), ← hp1 i (by omega), hy, hx]
        rw [show i + 2 + 1 = i + 3 by omega, kj3]
        have := (zz i h).1 rfl
        unfold Btw at *
        omega
      · rw [hs2 i (by omega), hr2 i (by omega)]
        rw [hp2 i (by omega) (by omega), hp2 (i + 1) (by omega) (by omega)] at hb
        exact ⟨fun _ => hb, fun _ => hb⟩
  have zone : ∀ (z : Int) (q : Prop), (z ≤ x ∧ ∀ k, k + 1 < N → p' (k + 1) = z → (k % 2 = j % 2 ↔ q) → QL (A j) (A (j + 2)) K (A (r k)) (B k) ∧ QL (A j) (A (j + 2)) K (A (r k + 1)) (B (k + 1))) ∨
      (y ≤ z ∧ ∀ k, k + 1 < N → p' (k + 1) = z → (k % 2 = j % 2 ↔ q) → QR (A j) (A (j + 2)) K (A (r k)) (B k) ∧ QR (A j) (A (j + 2)) K (A (r k + 1)) (B (k + 1))) ∨
      (z = x ∧ ∀ k, k + 1 < N → p' (k + 1) = z → (k % 2 = j % 2 ↔ q) → (QX (A j) (A (j + 1)) (A (j + 2)) K (A (r k)) (B k) ∧ QX (A j) (A (j + 1)) (A (j + 2)) K (A (r k + 1)) (B (k + 1))) ∧ (Btw (A (r k)) (A (j + 1)) (A (j + 2)) ↔ Btw (A (r k + 1)) (A (j + 1)) (A (j + 2))) ∧
        (A (r k) ≠ A (j + 1) ∧ A (r k) ≠ A (j + 2) ∧ A (r k + 1) ≠ A (j + 1) ∧ A (r k + 1) ≠ A (j + 2))) ∨
      (z = y ∧ ∀ k, k + 1 < N → p' (k + 1) = z → (k % 2 = j % 2 ↔ q) → (QY (A j) (A (j + 1)) (A (j + 2)) K (A (r k)) (B k) ∧ QY (A j) (A (j + 1)) (A (j + 2)) K (A (r k + 1)) (B (k + 1))) ∧ (Btw (A (r k)) (A j) (A (j + 1)) ↔ Btw (A (r k + 1)) (A j) (A (j + 1)))) ∨
      (x < z ∧ z < y ∧ ∀ k, k + 1 < N → p' (k + 1) = z → (k % 2 = j % 2 ↔ q) → (QX (A j) (A (j + 1)) (A (j + 2)) K (A (r k)) (B k) ∧ QX (A j) (A (j + 1)) (A (j + 2)) K (A (r k + 1)) (B (k + 1))) ∧ Blk (A j) (A (j + 1)) (A (j + 2)) (A (r k)) (A (r k + 1))) := by
    intro z q
    by_cases cL : (q ∧ z ≤ x) ∨ (¬ q ∧ z < x)
    · refine .inl ⟨by omega, fun k hk e hq => ?_⟩
      have b0 := bf k (by omega)
      have b1 := bf (k + 1) hk
      have z0 := zz k (by omega)
      have z1 := zz (k + 1) hk
      have hkj : k ≠ j := by
        intro e'
        subst e'
        omega
      rw [rs0 k hkj] at b0
      rw [rs k] at b1
      rw [e] at b0 b1 z0 z1
      rcases cL with ⟨c, c'⟩ | ⟨c, c'⟩
      · have := hq.2 c
        exact ⟨b0.1 (by omega), b1.1 (by omega)⟩
      · have : ¬ k % 2 = j % 2 := fun h => c (hq.1 h)
        exact ⟨b0.1 (by omega), b1.1 (by omega)⟩
    · by_cases cR : (q ∧ y < z) ∨ (¬ q ∧ y ≤ z)
      · refine .inr (.inl ⟨by omega, fun k hk e hq => ?_⟩)
        have b0 := bf k (by omega)
        have b1 := bf (k + 1) hk
        have z0 := zz k (by omega)
        have z1 := zz (k + 1) hk
        have hkj : k + 1 ≠ j := by
          intro e'
          rw [e'] at e
          omega
        rw [rr k hkj] at b1
        rw [e] at b0 b1 z0 z1
        rcases cR with ⟨c, c'⟩ | ⟨c, c'⟩
        · have := hq.2 c
          exact ⟨b0.2.1 (by omega), b1.2.1 (by omega)⟩
        · have : ¬ k % 2 = j % 2 := fun h => c (hq.1 h)
          exact ⟨b0.2.1 (by omega), b1.2.1 (by omega)⟩
      · by_cases cX : z = x
        · have nq : ¬ q := fun h => cL (.inl ⟨h, by omega⟩)
          refine .inr (.inr (.inl ⟨cX, fun k hk e hq => ?_⟩))
          have b0 := bf k (by omega)
          have b1 := bf (k + 1) hk
          have z0 := zz k (by omega)
          have z1 := zz (k + 1) hk
          have hpar : ¬ k % 2 = j % 2 := fun h => nq (hq.1 h)
          have hkj : k ≠ j := fun e' => hpar (by rw [e'])
          rw [rs0 k hkj] at b0
          rw [rs k] at b1
          rw [e] at b0 b1 z0 z1
          have rn := rne k (by omega)
          have rl := rlt k (by omega)
          have rl1 : r k + 1 < N + 2 := by have := slt (k + 1) hk; rw [rs k] at this; exact this
          have rp := rpar k
          have rk : r k ≠ j + 2 := by
            intro e'
            exact hpar (by omega)
          refine ⟨⟨(b0.2.2 (by omega) (by omega)).1, (b1.2.2 (by omega) (by omega)).1⟩, C2 (r k) rl1 (by rw [← pz k (by omega), e, cX]) (by omega), D1 _ rl rn.2, D2 _ rl rk, D1 _ rl1 (by omega), D2 _ rl1 (by omega)⟩
        · by_cases cY : z = y
          · have nq : q := Classical.byContradiction fun h => cR (.inr ⟨h, by omega⟩)
            refine .inr (.inr (.inr (.inl ⟨cY, fun k hk e hq => ?_⟩)))
            have b0 := bf k (by omega)
            have b1 := bf (k + 1) hk
            have z0 := zz k (by omega)
            have z1 := zz (k + 1) hk
            have hpar : k % 2 = j % 2 := hq.2 nq
            have hkj : k + 1 ≠ j := by omega
            rw [rr k hkj] at b1
            rw [e] at b0 b1 z0 z1
            have rl1 : r k + 1 < N + 2 := by have := slt (k + 1) hk; rw [rs k] at this; exact this
            have rp := rpar k
            exact ⟨⟨(b0.2.2 (by omega) (by omega)).2, (b1.2.2 (by omega) (by omega)).2⟩, C1 (r k) rl1 (by rw [← pz k (by omega), e, cY]) (by omega)⟩
          · have c1 : x < z := by
              by_cases hq : q
              · have : ¬ z ≤ x := fun h => cL (.inl ⟨hq, h⟩)
                omega
              · have : ¬ z < x := fun h => cL (.inr ⟨hq, h⟩)
                omega
            have c2 : z < y := by
              by_cases hq : q
              · have : ¬ y < z := fun h => cR (.inl ⟨hq, h⟩)
                omega
              · have : ¬ y ≤ z := fun h => cR (.inr ⟨hq, h⟩)
                omega
            refine .inr (.inr (.inr (.inr ⟨c1, c2, fun k hk e hq => ?_⟩)))
            clear cL cR
            have b0 := bf k (by omega)
            have b1 := bf (k + 1) hk
            have hkj : k ≠ j := by
              intro e'
              subst e'
              omega
            have hkj1 : k + 1 ≠ j := by
              intro e'
              rw [e'] at e
              omega
            rw [rs0 k hkj] at b0
            rw [rs k] at b1
            rw [e] at b0 b1
            have rn := rne k (by omega)
            have rl := rlt k (by omega)
            have rl1 : r k + 1 < N + 2 := by have := slt (k + 1) hk; rw [rs k] at this; exact this
            have ek := pz k (by omega)
            rw [e] at ek
            have q3 := S3 (r k) rl1 (by omega) (by omega) rn.1 rn.2
            have rk : r k ≠ j + 2 := by
              intro e'
              by_cases h' : k < j
              · rw [hr1 k h'] at e'; omega
              · rw [hr2 k (by omega)] at e'; omega
            have rk1 : r k + 1 ≠ j := by
              intro e'
              by_cases h' : k < j
              · rw [hr1 k h'] at e'; omega
              · rw [hr2 k (by omega)] at e'; omega
            have z0 := zz k (by omega)
            have z1 := zz (k + 1) hk
            rw [e] at z0 z1
            exact ⟨⟨(b0.2.2 (by omega) (by omega)).1, (b1.2.2 (by omega) (by omega)).1⟩, q3.1, q3.2.1, q3.2.2, D0 _ rl rn.1, D1 _ rl rn.2, D2 _ rl rk, D0 _ rl1 rk1, D1 _ rl1 (by omega), D2 _ rl1 (by omega)⟩
  have hKj := hK j (by omega)
  have huw : A j < A (j + 2) := by omega
  refine ⟨B, r, hr1, hr2, ?_, ⟨?_, ?_⟩, ?_⟩
  · have val : ∀ i, i < N → i ≠ j → (B i = A (r i) ∨ B i = A (r i) + 2 * K ∨ B i = A (r i) + 6 * K ∨ B i = A (r i) + 8 * K) := by
      intro i h e
      by_cases h' : i < j
      · rw [hr1 i h', hB1 i h']
        exact (lf i (by omega) (by omega) (by omega) (by omega)).2.2.2
      · rw [hr2 i (by omega), hB3 i (by omega)]
        exact (lf (i + 2) (by omega) (by omega) (by omega) (by omega)).2.2.2
    intro a b ha hb e
    have ka := hK (r a) (rlt a ha)
    have kb := hK (r b) (rlt b hb)
    unfold In at ka kb hKj
    by_cases ea : a = j <;> by_cases eb : b = j
    · omega
    · subst ea
      have := val b hb eb
      rw [hB2] at e
      omega
    · subst eb
      have := val a ha ea
      rw [hB2] at e
      omega
    · have va := val a ha ea
      have vb := val b hb eb
      have : A (r a) = A (r b) := by omega
      have hrr := hi _ _ (rlt a ha) (rlt b hb) this
      clear va vb
      by_cases h1 : a < j <;> by_cases h2 : b < j
      · rw [hr1 a h1, hr1 b h2] at hrr; exact hrr
      · rw [hr1 a h1, hr2 b (by omega)] at hrr; omega
      · rw [hr2 a (by omega), hr1 b h2] at hrr; omega
      · rw [hr2 a (by omega), hr2 b (by omega)] at hrr; omega
  · intro k i hk hi' hb
    have rl := rlt k (by omega)
    have rl1 : r k + 1 < N + 2 := by have := slt (k + 1) hk; rw [rs k] at this; exact this
    have ct := cont i hi' _ hb
    have b := bf i hi'
    have oldS : (Btw (p' (k + 1)) (p (s i)) (p (s i + 1))) → ¬ Btw (A (s i)) (A (r k)) (A (r k + 1)) := fun h => hn.seg (r k) (s i) rl1 (slt i hi') (by rw [← pz k (by omega)]; exact h)
    have oldR : (Btw (p' (k + 1)) (p (r i)) (p (r i + 1))) → ¬ Btw (A (r i)) (A (r k)) (A (r k + 1)) := fun h => hn.seg (r k) (r i) rl1 (rlt i hi') (by rw [← pz k (by omega)]; exact h)
    have hbz : min (p' i) (p' (i + 1)) < p' (k + 1) ∧ p' (k + 1) < max (p' i) (p' (i + 1)) := hb
    rcases zone (p' (k + 1)) (k % 2 = j % 2) with ⟨c, f⟩ | ⟨c, f⟩ | ⟨c, f⟩ | ⟨c, f⟩ | ⟨c, c', f⟩
    · have g := f k hk rfl Iff.rfl
      exact fun h => oldS (ct.1 (by omega)) ((QL.btw hKj (hK _ (slt i hi')) (hK _ rl) (hK _ rl1) huw (b.1 (by omega)) g.1 g.2).2 h)
    · have g := f k hk rfl Iff.rfl
      exact fun h => oldR (ct.2 (by omega)) ((QR.btw hKj (hK _ (rlt i hi')) (hK _ rl) (hK _ rl1) huw (b.2.1 (by omega)) g.1 g.2).2 h)
    · have g := f k hk rfl Iff.rfl
      have o := ct.1 (by omega)
      refine QX.seg hKj (hK _ (slt i hi')) (hK _ rl) (hK _ rl1) h1 h2 (b.2.2 (by omega) (by omega)).1 g.1.1 g.1.2 g.2.1 (fun hc => ?_) (oldS o)
      refine S2 (s i) (slt i hi') hc ?_
      rw [c] at o
      exact o
    · have g := f k hk rfl Iff.rfl
      have o := ct.2 (by omega)
      refine QY.seg hKj (hK _ (rlt i hi')) (hK _ rl) (hK _ rl1) h1 h2 (b.2.2 (by omega) (by omega)).2 g.1.1 g.1.2 g.2 (fun hc => ?_) (oldR o)
      refine S1 (r i) (rlt i hi') hc ?_
      rw [c] at o
      exact o
    · have g := f k hk rfl Iff.rfl
      exact QX.seg' hKj (hK _ (slt i hi')) (hK _ rl) (hK _ rl1) h1 h2 (b.2.2 (by omega) (by omega)).1 g.1.1 g.1.2 g.2 (oldS (ct.1 (by omega)))
  · intro m k hm hk e hpar
    have rl := rlt k (by omega)
    have rl1 : r k + 1 < N + 2 := by have := slt (k + 1) hk; rw [rs k] at this; exact this
    have ml := rlt m (by omega)
    have ml1 : r m + 1 < N + 2 := by have := slt (m + 1) hm; rw [rs m] at this; exact this
    have old := hn.cr (r m) (r k) ml1 rl1 (by rw [← pz k (by omega), ← pz m (by omega)]; exact e) (by rw [rpar, rpar]; exact hpar)
    have iffm : m % 2 = j % 2 ↔ k % 2 = j % 2 := by rw [hpar]
    rcases zone (p' (k + 1)) (k % 2 = j % 2) with ⟨c, f⟩ | ⟨c, f⟩ | ⟨c, f⟩ | ⟨c, f⟩ | ⟨c, c', f⟩
    · have g := f k hk rfl Iff.rfl
      have g' := f m hm e iffm
      rw [← QL.btw hKj (hK _ ml) (hK _ rl) (hK _ rl1) huw g'.1 g.1 g.2, ← QL.btw hKj (hK _ ml1) (hK _ rl) (hK _ rl1) huw g'.2 g.1 g.2]
      exact old
    · have g := f k hk rfl Iff.rfl
      have g' := f m hm e iffm
      rw [← QR.btw hKj (hK _ ml) (hK _ rl) (hK _ rl1) huw g'.1 g.1 g.2, ← QR.btw hKj (hK _ ml1) (hK _ rl) (hK _ rl1) huw g'.2 g.1 g.2]
      exact old
    · have g := f k hk rfl Iff.rfl
      have g' := f m hm e iffm
      exact QX.cr hKj (hK _ ml) (hK _ ml1) (hK _ rl) (hK _ rl1) h1 h2 g'.1.1 g'.1.2 g.1.1 g.1.2 g.2.1 g'.2.1 g.2.2 g'.2.2 old
    · have g := f k hk rfl Iff.rfl
      have g' := f m hm e iffm
      exact QY.cr hKj (hK _ ml) (hK _ ml1) (hK _ rl) (hK _ rl1) h1 h2 g'.1.1 g'.1.2 g.1.1 g.1.2 g.2 g'.2 old
    · have g := f k hk rfl Iff.rfl
      have g' := f m hm e iffm
      exact QX.cr' hKj (hK _ ml) (hK _ ml1) (hK _ rl) (hK _ rl1) h1 h2 g'.1.1 g'.1.2 g.1.1 g.1.2 g.2 g'.2 old
  · intro k hk
    have rl := rlt k (by omega)
    have rl1 : r k + 1 < N + 2 := by have := slt (k + 1) hk; rw [rs k] at this; exact this
    rcases zone (p' (k + 1)) (k % 2 = j % 2) with ⟨c, f⟩ | ⟨c, f⟩ | ⟨c, f⟩ | ⟨c, f⟩ | ⟨c, c', f⟩
    · have g := f k hk rfl Iff.rfl
      exact (QL.lt hKj (hK _ rl) (hK _ rl1) huw g.1 g.2).symm
    · have g := f k hk rfl Iff.rfl
      exact (QR.lt hKj (hK _ rl) (hK _ rl1) huw g.1 g.2).symm
    · have g := f k hk rfl Iff.rfl
      by_cases hb : Btw (A (r k)) (A (j + 1)) (A (j + 2))
      · have e1 := g.1.1.inside hKj (hK _ rl) h1 h2 hb
        have e2 := g.1.2.inside hKj (hK _ rl1) h1 h2 (g.2.1.1 hb)
        omega
      · exact (QX.lt hKj (hK _ rl) (hK _ rl1) h1 h2 g.1.1 g.1.2 hb (fun h => hb (g.2.1.2 h))).symm
    · have g := f k hk rfl Iff.rfl
      by_cases hb : Btw (A (r k)) (A j) (A (j + 1))
      · have e1 := g.1.1.inside hKj (hK _ rl) h1 h2 hb
        have e2 := g.1.2.inside hKj (hK _ rl1) h1 h2 (g.2.1 hb)
        omega
      · exact (QY.lt hKj (hK _ rl) (hK _ rl1) h1 h2 g.1.1 g.1.2 hb (fun h => hb (g.2.2 h))).symm
    · have g := f k hk rfl Iff.rfl
      have := g.1.1.blk hKj (hK _ rl) (hK _ rl1) h1 h2 g.1.2 g.2
      omega

end Go.Proofs.Ytfgenpailmgkiaa

