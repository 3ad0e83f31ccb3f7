/-
  A segment that is folded in between its neighbours: if the longer strip folds, the shorter one does (lists and numbers alone).
-/
import Derived.Test.YtfgenpailmgkiaaMb
namespace Go.Proofs.Ytfgenpailmgkiaa

theorem bound_of (A : Nat → Int) : ∀ n, ∃ K : Int, 0 < K ∧ ∀ i, i < n → -K < A i ∧ A i < K
  | 0 => ⟨1, by omega, fun i h => by omega⟩
  | n + 1 => by
    obtain ⟨K, h0, h⟩ := bound_of A n
    refine ⟨max K (max (A n + 1) (1 - A n)), by omega, fun i hi => ?_⟩
    by_cases e : i = n
    · subst e; omega
    · have := h i (by omega); omega

theorem btw_of {i s t i' s' t' : Int} (h1 : i < s ↔ i' < s') (h2 : s < i ↔ s' < i') (h3 : i < t ↔ i' < t') (h4 : t < i ↔ t' < i') : Btw i s t ↔ Btw i' s' t' := by unfold Btw; omega

/-- What becomes of the layer a left of the fold, right of it, and in it; u, v, w are the layers of the three segments, K is greater than all layers. -/
def QL (u w K a b : Int) : Prop := (a < u ∧ b = a) ∨ (a = u ∧ b = a + 4 * K) ∨ (u < a ∧ a < w ∧ b = a + 6 * K) ∨ (w < a ∧ b = a + 8 * K)
def QR (u w K a b : Int) : Prop := (a < u ∧ b = a) ∨ (u < a ∧ a < w ∧ b = a + 2 * K) ∨ (a = w ∧ b = u + 4 * K) ∨ (w < a ∧ b = a + 8 * K)
def QX (u v w K a b : Int) : Prop := (a < u ∧ b = a) ∨ (a = u ∧ b = a + 4 * K) ∨ (u < a ∧ a < v ∧ b = a + 6 * K) ∨ (v < a ∧ a < w ∧ b = a + 2 * K) ∨ (w < a ∧ b = a + 8 * K)
def QY (u v w K a b : Int) : Prop := (a < u ∧ b = a) ∨ (u < a ∧ a < v ∧ b = a + 6 * K) ∨ (v < a ∧ a < w ∧ b = a + 2 * K) ∨ (a = w ∧ b = u + 4 * K) ∨ (w < a ∧ b = a + 8 * K)

def In (K a : Int) : Prop := -K < a ∧ a < K

theorem QL.lt {u w K a b c d : Int} (hu : In K u) (ha : In K a) (hc : In K c) (huw : u < w) (h1 : QL u w K a b) (h2 : QL u w K c d) : a < c ↔ b < d := by
  unfold QL In at *
  rcases h1 with h | h | h | h <;> rcases h2 with g | g | g | g <;> omega
theorem QR.lt {u w K a b c d : Int} (hu : In K u) (ha : In K a) (hc : In K c) (huw : u < w) (h1 : QR u w K a b) (h2 : QR u w K c d) : a < c ↔ b < d := by
  unfold QR In at *
  rcases h1 with h | h | h | h <;> rcases h2 with g | g | g | g <;> omega
theorem QX.lt {u v w K a b c d : Int} (hu : In K u) (ha : In K a) (hc : In K c) (huv : u < v) (hvw : v < w) (h1 : QX u v w K a b) (h2 : QX u v w K c d) (n1 : ¬ Btw a v w) (n2 : ¬ Btw c v w) : a < c ↔ b < d := by
  unfold QX In Btw at *
  rcases h1 with h | h | h | h | h <;> rcases h2 with g | g | g | g | g <;> omega
theorem QY.lt {u v w K a b c d : Int} (hu : In K u) (ha : In K a) (hc : In K c) (huv : u < v) (hvw : v < w) (h1 : QY u v w K a b) (h2 : QY u v w K c d) (n1 : ¬ Btw a u v) (n2 : ¬ Btw c u v) : a < c ↔ b < d := by
  unfold QY In Btw at *
  rcases h1 with h | h | h | h | h <;> rcases h2 with g | g | g | g | g <;> omega
theorem QL.btw {u w K i s t i' s' t' : Int} (hu : In K u) (hi : In K i) (hs : In K s) (ht : In K t) (huw : u < w) (h1 : QL u w K i i') (h2 : QL u w K s s') (h3 : QL u w K t t') : Btw i s t ↔ Btw i' s' t' :=
  btw_of (h1.lt hu hi hs huw h2) (h2.lt hu hs hi huw h1) (h1.lt hu hi ht huw h3) (h3.lt hu ht hi huw h1)
theorem QR.btw {u w K i s t i' s' t' : Int} (hu : In K u) (hi : In K i) (hs : In K s) (ht : In K t) (huw : u < w) (h1 : QR u w K i i') (h2 : QR u w K s s') (h3 : QR u w K t t') : Btw i s t ↔ Btw i' s' t' :=
  btw_of (h1.lt hu hi hs huw h2) (h2.lt hu hs hi huw h1) (h1.lt hu hi ht huw h3) (h3.lt hu ht hi huw h1)
/-- Inside the block, and outside of it. -/
theorem QX.inside {u v w K a b : Int} (hu : In K u) (ha : In K a) (huv : u < v) (hvw : v < w) (h : QX u v w K a b) (n : Btw a v w) : b = a + 2 * K ∧ K < b ∧ b < 3 * K := by
  unfold QX In Btw at *
  rcases h with h | h | h | h | h <;> omega
theorem QX.outside {u v w K a b : Int} (hu : In K u) (ha : In K a) (huv : u < v) (hvw : v < w) (h : QX u v w K a b) (n : ¬ Btw a v w) (h0 : a ≠ v) (h1 : a ≠ w) : b < K ∨ 3 * K < b := by
  unfold QX In Btw at *
  rcases h with h | h | h | h | h <;> omega
theorem QY.inside {u v w K a b : Int} (hu : In K u) (ha : In K a) (huv : u < v) (hvw : v < w) (h : QY u v w K a b) (n : Btw a u v) : b = a + 6 * K ∧ 5 * K < b ∧ b < 7 * K := by
  unfold QY In Btw at *
  rcases h with h | h | h | h | h <;> omega
theorem QY.outside {u v w K a b : Int} (hu : In K u) (ha : In K a) (huv : u < v) (hvw : v < w) (h : QY u v w K a b) (n : ¬ Btw a u v) : b < 5 * K ∨ 7 * K < b := by
  unfold QY In Btw at *
  rcases h with h | h | h | h | h <;> omega

/-- At an end of the fold: what lies in the block does so with both segments of each crease, and crosses nothing there. -/
theorem QX.seg {u v w K i s t i' s' t' : Int} (hu : In K u) (hi : In K i) (hs : In K s) (ht : In K t) (huv : u < v) (hvw : v < w) (h1 : QX u v w K i i') (h2 : QX u v w K s s') (h3 : QX u v w K t t')
    (nb : Btw s v w ↔ Btw t v w) (ni : ¬ Btw i v w) (n : ¬ Btw i s t) : ¬ Btw i' s' t' := by
  by_cases hb : Btw s v w
  · have e1 := h2.inside hu hs huv hvw hb
    have e2 := h3.inside hu ht huv hvw (nb.1 hb)
    unfold QX In Btw at *
    rcases h1 with h | h | h | h | h <;> omega
  · have hb' : ¬ Btw t v w := fun h => hb (nb.2 h)
    exact fun h => n ((btw_of (h1.lt hu hi hs huv hvw h2 ni hb) (h2.lt hu hs hi huv hvw h1 hb ni) (h1.lt hu hi ht huv hvw h3 ni hb') (h3.lt hu ht hi huv hvw h1 hb' ni)).2 h)
theorem QY.seg {u v w K i s t i' s' t' : Int} (hu : In K u) (hi : In K i) (hs : In K s) (ht : In K t) (huv : u < v) (hvw : v < w) (h1 : QY u v w K i i') (h2 : QY u v w K s s') (h3 : QY u v w K t t')
    (nb : Btw s u v ↔ Btw t u v) (ni : ¬ Btw i u v) (n : ¬ Btw i s t) : ¬ Btw i' s' t' := by
  by_cases hb : Btw s u v
  · have e1 := h2.inside hu hs huv hvw hb
    have e2 := h3.inside hu ht huv hvw (nb.1 hb)
    have e3 := h1.outside hu hi huv hvw ni
    unfold Btw
    omega
  · have hb' : ¬ Btw t u v := fun h => hb (nb.2 h)
    exact fun h => n ((btw_of (h1.lt hu hi hs huv hvw h2 ni hb) (h2.lt hu hs hi huv hvw h1 hb ni) (h1.lt hu hi ht huv hvw h3 ni hb') (h3.lt hu ht hi huv hvw h1 hb' ni)).2 h)
theorem QX.cr {u v w K i j s t i' j' s' t' : Int} (hu : In K u) (hi : In K i) (hj : In K j) (hs : In K s) (ht : In K t) (huv : u < v) (hvw : v < w) (h0 : QX u v w K i i') (h1 : QX u v w K j j') (h2 : QX u v w K s s') (h3 : QX u v w K t t')
    (nb : Btw s v w ↔ Btw t v w) (nc : Btw i v w ↔ Btw j v w) (d1 : s ≠ v ∧ s ≠ w ∧ t ≠ v ∧ t ≠ w) (d2 : i ≠ v ∧ i ≠ w ∧ j ≠ v ∧ j ≠ w) (n : Btw i s t ↔ Btw j s t) : Btw i' s' t' ↔ Btw j' s' t' := by
  by_cases hb : Btw s v w <;> by_cases hc : Btw i v w
  · have e0 := h0.inside hu hi huv hvw hc
    have e1 := h1.inside hu hj huv hvw (nc.1 hc)
    have e2 := h2.inside hu hs huv hvw hb
    have e3 := h3.inside hu ht huv hvw (nb.1 hb)
    clear h0 h1 h2 h3 nb nc hb hc
    unfold Btw at *; omega
  · have e0 := h0.outside hu hi huv hvw hc d2.1 d2.2.1
    have e1 := h1.outside hu hj huv hvw (fun h => hc (nc.2 h)) d2.2.2.1 d2.2.2.2
    have e2 := h2.inside hu hs huv hvw hb
    have e3 := h3.inside hu ht huv hvw (nb.1 hb)
    clear h0 h1 h2 h3 nb nc hb hc n
    unfold Btw at *; omega
  · have e0 := h0.inside hu hi huv hvw hc
    have e1 := h1.inside hu hj huv hvw (nc.1 hc)
    have e2 := h2.outside hu hs huv hvw hb d1.1 d1.2.1
    have e3 := h3.outside hu ht huv hvw (fun h => hb (nb.2 h)) d1.2.2.1 d1.2.2.2
    clear h0 h1 h2 h3 nb nc hb hc n
    unfold Btw at *; omega
  · have hb' : ¬ Btw t v w := fun h => hb (nb.2 h)
    have hc' : ¬ Btw j v w := fun h => hc (nc.2 h)
    rw [← btw_of (h0.lt hu hi hs huv hvw h2 hc hb) (h2.lt hu hs hi huv hvw h0 hb hc) (h0.lt hu hi ht huv hvw h3 hc hb') (h3.lt hu ht hi huv hvw h0 hb' hc),
      ← btw_of (h1.lt hu hj hs huv hvw h2 hc' hb) (h2.lt hu hs hj huv hvw h1 hb hc') (h1.lt hu hj ht huv hvw h3 hc' hb') (h3.lt hu ht hj huv hvw h1 hb' hc')]
    exact n
theorem QY.cr {u v w K i j s t i' j' s' t' : Int} (hu : In K u) (hi : In K i) (hj : In K j) (hs : In K s) (ht : In K t) (huv : u < v) (hvw : v < w) (h0 : QY u v w K i i') (h1 : QY u v w K j j') (h2 : QY u v w K s s') (h3 : QY u v w K t t')
    (nb : Btw s u v ↔ Btw t u v) (nc : Btw i u v ↔ Btw j u v) (n : Btw i s t ↔ Btw j s t) : Btw i' s' t' ↔ Btw j' s' t' := by
  by_cases hb : Btw s u v <;> by_cases hc : Btw i u v
  · have e0 := h0.inside hu hi huv hvw hc
    have e1 := h1.inside hu hj huv hvw (nc.1 hc)
    have e2 := h2.inside hu hs huv hvw hb
    have e3 := h3.inside hu ht huv hvw (nb.1 hb)
    clear h0 h1 h2 h3 nb nc hb hc
    unfold Btw at *; omega
  · have e0 := h0.outside hu hi huv hvw hc
    have e1 := h1.outside hu hj huv hvw (fun h => hc (nc.2 h))
    have e2 := h2.inside hu hs huv hvw hb
    have e3 := h3.inside hu ht huv hvw (nb.1 hb)
    clear h0 h1 h2 h3 nb nc hb hc n
    unfold Btw at *; omega
  · have e0 := h0.inside hu hi huv hvw hc
    have e1 := h1.inside hu hj huv hvw (nc.1 hc)
    have e2 := h2.outside hu hs huv hvw hb
    have e3 := h3.outside hu ht huv hvw (fun h => hb (nb.2 h))
    clear h0 h1 h2 h3 nb nc hb hc n
    unfold Btw at *; omega
  · have hb' : ¬ Btw t u v := fun h => hb (nb.2 h)
    have hc' : ¬ Btw j u v := fun h => hc (nc.2 h)
    rw [← btw_of (h0.lt hu hi hs huv hvw h2 hc hb) (h2.lt hu hs hi huv hvw h0 hb hc) (h0.lt hu hi ht huv hvw h3 hc hb') (h3.lt hu ht hi huv hvw h0 hb' hc),
      ← btw_of (h1.lt hu hj hs huv hvw h2 hc' hb) (h2.lt hu hs hj huv hvw h1 hb hc') (h1.lt hu hj ht huv hvw h3 hc' hb') (h3.lt hu ht hj huv hvw h1 hb' hc')]
    exact n

/-- Strictly inside the fold each crease lies in one of four blocks. -/
def Blk (u v w s t : Int) : Prop := ¬ Btw u s t ∧ ¬ Btw v s t ∧ ¬ Btw w s t ∧ s ≠ u ∧ s ≠ v ∧ s ≠ w ∧ t ≠ u ∧ t ≠ v ∧ t ≠ w
theorem side_of {u s t : Int} (h : ¬ Btw u s t) (h1 : s ≠ u) (h2 : t ≠ u) : (s < u ∧ t < u) ∨ (u < s ∧ u < t) := by unfold Btw at h; omega
set_option maxHeartbeats 1000000 in
theorem QX.blk {u v w K s t s' t' : Int} (hu : In K u) (hs : In K s) (ht : In K t) (huv : u < v) (hvw : v < w) (h2 : QX u v w K s s') (h3 : QX u v w K t t') (hb : Blk u v w s t) :
    (s < u ∧ t < u ∧ s' = s ∧ t' = t) ∨ (u < s ∧ s < v ∧ u < t ∧ t < v ∧ s' = s + 6 * K ∧ t' = t + 6 * K) ∨ (v < s ∧ s < w ∧ v < t ∧ t < w ∧ s' = s + 2 * K ∧ t' = t + 2 * K) ∨ (w < s ∧ w < t ∧ s' = s + 8 * K ∧ t' = t + 8 * K) := by
  obtain ⟨b1, b2, b3, n1, n2, n3, n4, n5, n6⟩ := hb
  have c1 := side_of b1 n1 n4
  have c2 := side_of b2 n2 n5
  have c3 := side_of b3 n3 n6
  clear b1 b2 b3
  unfold QX In at *
  rcases h2 with h | h | h | h | h <;> rcases h3 with g | g | g | g | g <;> first | (exfalso; omega) | (left; omega) | (right; left; omega) | (right; right; left; omega) | (right; right; right; omega)
set_option maxHeartbeats 1000000 in
theorem QX.seg' {u v w K i s t i' s' t' : Int} (hu : In K u) (hi : In K i) (hs : In K s) (ht : In K t) (huv : u < v) (hvw : v < w) (h1 : QX u v w K i i') (h2 : QX u v w K s s') (h3 : QX u v w K t t')
    (hb : Blk u v w s t) (n : ¬ Btw i s t) : ¬ Btw i' s' t' := by
  have h := h2.blk hu hs ht huv hvw h3 hb
  clear h2 h3 hb
  unfold QX In Btw at *
  rcases h with h | h | h | h <;> rcases h1 with g | g | g | g | g <;> omega
set_option maxHeartbeats 1000000 in
theorem QX.cr' {u v w K i j s t i' j' s' t' : Int} (hu : In K u) (hi : In K i) (hj : In K j) (hs : In K s) (ht : In K t) (huv : u < v) (hvw : v < w) (h0 : QX u v w K i i') (h1 : QX u v w K j j') (h2 : QX u v w K s s') (h3 : QX u v w K t t')
    (hb : Blk u v w s t) (hc : Blk u v w i j) (n : Btw i s t ↔ Btw j s t) : Btw i' s' t' ↔ Btw j' s' t' := by
  have h := h2.blk hu hs ht huv hvw h3 hb
  have g := h0.blk hu hi hj huv hvw h1 hc
  clear h2 h3 hb h0 h1 hc
  unfold In Btw at *
  rcases h with h | h | h | h <;> rcases g with g | g | g | g <;> omega

end Go.Proofs.Ytfgenpailmgkiaa
