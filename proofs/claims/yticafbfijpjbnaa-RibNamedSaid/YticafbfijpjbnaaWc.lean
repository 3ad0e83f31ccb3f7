/-
  Dirac, pure: a set of nodes that is stuck, and of which no smaller part is, is a cycle: each of its nodes has two neighbours in it, which are no neighbours of each other.
-/
import Derived.Test.YticafbfijpjbnaaWb
namespace Go.Proofs.Yticafbfijpjbnaa

/-- The set of what a test holds for, as a number. -/
def maskP (f : Nat → Bool) : Nat → Nat
  | 0 => 0
  | n + 1 => maskP f n ||| (if f n then 2 ^ n else 0)
theorem maskP_bit (f : Nat → Bool) : ∀ (n b : Nat), (maskP f n).testBit b = (decide (b < n) && f b)
  | 0, b => by simp [maskP]
  | n + 1, b => by
    rw [maskP, Nat.testBit_or, maskP_bit f n b]
    by_cases hf : f n = true
    · rw [if_pos hf, Nat.testBit_two_pow]
      by_cases h1 : b < n
      · have : ¬ n = b := by omega
        have h2 : b < n + 1 := by omega
        simp [h1, h2, this]
      · by_cases h2 : n = b
        · subst h2; simp [hf]
        · have h3 : ¬ b < n + 1 := by omega
          simp [h1, h2, h3]
    · rw [if_neg hf, Nat.zero_testBit, Bool.or_false]
      by_cases h1 : b < n
      · have h2 : b < n + 1 := by omega
        simp [h1, h2]
      · by_cases h2 : n = b
        · subst h2; simp [Bool.not_eq_true _ ▸ hf]
        · have h3 : ¬ b < n + 1 := by omega
          simp [h1, h3]
theorem maskP_lt (f : Nat → Bool) (n : Nat) : maskP f n < 2 ^ n := by
  refine Nat.lt_pow_two_of_testBit _ fun i hi => ?_
  rw [maskP_bit, decide_eq_false (by omega)]; rfl
/-- The part of a set of what is so. -/
noncomputable def partP (s n : Nat) (p : Nat → Prop) : Nat := maskP (fun b => s.testBit b && @decide (p b) (Classical.propDecidable _)) n
theorem partP_bit {s n b : Nat} {p : Nat → Prop} (hs : s < 2 ^ n) : (partP s n p).testBit b = true ↔ s.testBit b = true ∧ p b := by
  rw [partP, maskP_bit, Bool.and_eq_true, Bool.and_eq_true, decide_eq_true_iff, @decide_eq_true_iff (p b) (Classical.propDecidable _)]
  exact ⟨fun h => h.2, fun h => ⟨bit_lt hs h.1, h⟩⟩
theorem partP_lt (s n : Nat) (p : Nat → Prop) : partP s n p < 2 ^ n := maskP_lt _ _
theorem Sub.le {a b : Nat} (h : Sub a b) : a ≤ b := by
  have : a = a &&& b := Nat.eq_of_testBit_eq fun i => by
    rw [Nat.testBit_and]
    cases ha : a.testBit i with
    | false => rfl
    | true => rw [h i ha]; rfl
  rw [this]; exact Nat.and_le_right
theorem Sub.lt {a b x : Nat} (h : Sub a b) (hb : b.testBit x = true) (ha : ¬ a.testBit x = true) : a < b := by
  have := h.le
  have : a ≠ b := fun e => ha (e ▸ hb)
  omega
theorem some_bit {s : Nat} (h : s ≠ 0) : ∃ b, s.testBit b = true := Nat.exists_testBit_of_ne_zero h
theorem not_zero {s b : Nat} (h : s.testBit b = true) : s ≠ 0 := fun e => by subst e; rw [Nat.zero_testBit] at h; cases h

/-- A node of a set whose neighbours in it are a clique. -/
def Simp (E : Nat → Nat → Prop) (s v : Nat) : Prop := s.testBit v = true ∧ ∀ a b, s.testBit a = true → s.testBit b = true → E v a → E v b → a ≠ b → E a b
/-- Each part has such a node. -/
def Chd (E : Nat → Nat → Prop) (n s : Nat) : Prop := ∀ T, T < 2 ^ n → T ≠ 0 → Sub T s → ∃ v, Simp E T v
theorem Chd.sub {E : Nat → Nat → Prop} {n s T : Nat} (h : Chd E n s) (k : Sub T s) : Chd E n T := fun U hU h0 hs => h U hU h0 (hs.trans k)

theorem dirac {E : Nat → Nat → Prop} (hsym : ∀ a b, E a b → E b a) {n : Nat} (H : Nat) : H < 2 ^ n → Chd E n H → ∀ K : Nat → Prop, (∀ a b, K a → K b → a ≠ b → E a b) → ∀ x, H.testBit x = true → ¬ K x → ∃ v, Simp E H v ∧ ¬ K v := by
  induction H using Nat.strongRecOn with
  | ind H ih =>
  intro hH hc K hK x hx hxK
  obtain ⟨s, hs1, hs2⟩ := hc H hH (not_zero hx) (Sub.refl H)
  by_cases hsK : K s
  · by_cases hall : ∀ y, H.testBit y = true → y ≠ s → E s y
    · refine ⟨x, ⟨hx, fun a b ha hb _ _ hab => ?_⟩, hxK⟩
      by_cases h1 : a = s
      · subst h1; exact hall b hb (Ne.symm hab)
      · by_cases h2 : b = s
        · subst h2; exact hsym _ _ (hall a ha h1)
        · exact hs2 a b ha hb (hall a ha h1) (hall b hb h2) hab
    · have : ∃ y, H.testBit y = true ∧ y ≠ s ∧ ¬ E s y := by
        refine Classical.byContradiction fun h => hall fun y h1 h2 => Classical.byContradiction fun h3 => h ⟨y, h1, h2, h3⟩
      obtain ⟨y, hy1, hy2, hy3⟩ := this
      have hsub : Sub (partP H n (· ≠ s)) H := fun b hb => ((partP_bit hH).1 hb).1
      obtain ⟨t, ⟨ht1, ht2⟩, ht3⟩ := ih _ (hsub.lt hs1 fun h => ((partP_bit hH).1 h).2 rfl) (partP_lt _ _ _) (hc.sub hsub) (fun b => H.testBit b = true ∧ E s b) (fun a b ha hb hab => hs2 a b ha.1 hb.1 ha.2 hb.2 hab) y ((partP_bit hH).2 ⟨hy1, hy2⟩) fun h => hy3 h.2
      have ht := (partP_bit hH).1 ht1
      have hts : ¬ E s t := fun h => ht3 ⟨ht.1, h⟩
      have inn : ∀ a, H.testBit a = true → E t a → (partP H n (· ≠ s)).testBit a = true := fun a ha hta => (partP_bit hH).2 ⟨ha, fun e => hts (hsym _ _ (e ▸ hta))⟩
      exact ⟨t, ⟨ht.1, fun a b ha hb h1 h2 hab => ht2 a b (inn a ha h1) (inn b hb h2) h1 h2 hab⟩, fun h => hts (hK s t hsK h (Ne.symm ht.2))⟩
  · exact ⟨s, ⟨hs1, hs2⟩, hsK⟩

/-- What can't be cut in two. -/
def Conn (E : Nat → Nat → Prop) (K : Nat) : Prop := ∀ T : Nat → Prop, (∃ t, K.testBit t = true ∧ T t) → (∃ u, K.testBit u = true ∧ ¬ T u) → ∃ t u, K.testBit t = true ∧ K.testBit u = true ∧ T t ∧ ¬ T u ∧ E t u

/-- A way from x to y, away from v, closes a ring: that is not chordal. -/
theorem ring_not {E : Nat → Nat → Prop} (hsym : ∀ a b, E a b → E b a) {n v x y : Nat} (hvx : E v x) (hvy : E v y) (hxy : ¬ E x y) (nxy : x ≠ y) (nvx : v ≠ x) (nvy : v ≠ y) (K : Nat) : ∀ H, H < 2 ^ n → (∀ b, H.testBit b = true ↔ (b = v ∨ b = x ∨ b = y ∨ K.testBit b = true)) → Conn E K → K.testBit v = false → K.testBit x = false → K.testBit y = false → (∀ k, K.testBit k = true → ¬ E v k) → (∃ k, K.testBit k = true ∧ E x k) → (∃ k, K.testBit k = true ∧ E y k) → ¬ Chd E n H := by
  induction K using Nat.strongRecOn with
  | ind K ih =>
  intro H hH hb hcon kv kx ky hvk ⟨k1, hk1, hxk⟩ ⟨k2, hk2, hyk⟩ hc
  obtain ⟨s, ⟨hs1, hs2⟩, hs3⟩ := dirac hsym H hH hc (fun b => b = v ∨ b = x) (by
    rintro a b (rfl | rfl) (rfl | rfl) hab
    · exact absurd rfl hab
    · exact hvx
    · exact hsym _ _ hvx
    · exact absurd rfl hab) y ((hb y).2 (.inr (.inr (.inl rfl)))) (by rintro (h | h); exact nvy h.symm; exact nxy h.symm)
  have ne : ∀ {a b}, K.testBit a = true → K.testBit b = false → a ≠ b := fun h1 h2 e => by subst e; rw [h1] at h2; cases h2
  rcases (hb s).1 hs1 with rfl | rfl | rfl | hsK
  · exact hs3 (.inl rfl)
  · exact hs3 (.inr rfl)
  · exact hvk k2 hk2 (hs2 v k2 ((hb v).2 (.inl rfl)) ((hb k2).2 (.inr (.inr (.inr hk2)))) (hsym _ _ hvy) hyk (Ne.symm (ne hk2 kv)))
  · by_cases hone : ∃ u, K.testBit u = true ∧ u ≠ s
    · obtain ⟨t, u, ht, hu, rfl, hut, htu⟩ := hcon (· = s) ⟨s, hsK, rfl⟩ hone
      have hKlt : K < 2 ^ n := Nat.lt_of_le_of_lt (Sub.le (a := K) (b := H) fun b h => (hb b).2 (.inr (.inr (.inr h)))) hH
      have bit : ∀ b, (partP K n (· ≠ t)).testBit b = true ↔ K.testBit b = true ∧ b ≠ t := fun b => partP_bit hKlt
      have bitH : ∀ b, (partP H n (· ≠ t)).testBit b = true ↔ H.testBit b = true ∧ b ≠ t := fun b => partP_bit hH
      have off : ∀ {b}, K.testBit b = false → (partP K n (· ≠ t)).testBit b = false := fun {b} h => by
        rw [Bool.eq_false_iff]; intro h'; rw [((bit b).1 h').1] at h; cases h
      have near : ∀ {z}, z ≠ t → H.testBit z = true → K.testBit z = false → (∃ k, K.testBit k = true ∧ E z k) → ∃ k, (partP K n (· ≠ t)).testBit k = true ∧ E z k := by
        rintro z hzt hz hzK ⟨k, hk, hzk⟩
        by_cases e : k = t
        · subst e
          exact ⟨u, (bit u).2 ⟨hu, hut⟩, hs2 z u hz ((hb u).2 (.inr (.inr (.inr hu)))) (hsym _ _ hzk) htu (Ne.symm (ne hu hzK))⟩
        · exact ⟨k, (bit k).2 ⟨hk, e⟩, hzk⟩
      refine ih _ (Sub.lt (fun b h => ((bit b).1 h).1) hsK fun h => ((bit t).1 h).2 rfl) (partP H n (· ≠ t)) (partP_lt _ _ _) (fun b => ?_) ?_ (off kv) (off kx) (off ky) (fun k hk => hvk k ((bit k).1 hk).1) ?_ ?_ (hc.sub fun b h => ((bitH b).1 h).1)
      · rw [bitH, bit, hb]
        constructor
        · rintro ⟨h | h | h | h, h2⟩
          · exact .inl h
          · exact .inr (.inl h)
          · exact .inr (.inr (.inl h))
          · exact .inr (.inr (.inr ⟨h, h2⟩))
        · rintro (rfl | rfl | rfl | ⟨h, h2⟩)
          · exact ⟨.inl rfl, Ne.symm (ne ht kv)⟩
          · exact ⟨.inr (.inl rfl), Ne.symm (ne ht kx)⟩
          · exact ⟨.inr (.inr (.inl rfl)), Ne.symm (ne ht ky)⟩
          · exact ⟨.inr (.inr (.inr h)), h2⟩
      · rintro T ⟨p, hp, hpT⟩ ⟨q, hq, hqT⟩
        refine Classical.byContradiction fun hno => ?_
        have no : ∀ a b, (partP K n (· ≠ t)).testBit a = true → (partP K n (· ≠ t)).testBit b = true → T a → ¬ T b → ¬ E a b := fun a b h1 h2 h3 h4 h5 => hno ⟨a, b, h1, h2, h3, h4, h5⟩
        obtain ⟨a, b, ha, hbK, ⟨haT, hat⟩, hbT, hab⟩ := hcon (fun z => T z ∧ z ≠ t) ⟨p, ((bit p).1 hp).1, hpT, ((bit p).1 hp).2⟩ ⟨q, ((bit q).1 hq).1, fun h => hqT h.1⟩
        have hbt : b = t := Classical.byContradiction fun e => no a b ((bit a).2 ⟨ha, hat⟩) ((bit b).2 ⟨hbK, e⟩) haT (fun h => hbT ⟨h, e⟩) hab
        subst hbt
        obtain ⟨c, d, hcK, hd, hcT, hdT, hcd⟩ := hcon (fun z => T z ∨ z = b) ⟨p, ((bit p).1 hp).1, .inl hpT⟩ ⟨q, ((bit q).1 hq).1, fun h => h.elim hqT ((bit q).1 hq).2⟩
        have hdb : d ≠ b := fun e => hdT (.inr e)
        have hd' : (partP K n (· ≠ b)).testBit d = true := (bit d).2 ⟨hd, hdb⟩
        rcases Classical.em (c = b) with e | e
        · subst e
          exact no a d ((bit a).2 ⟨ha, hat⟩) hd' haT (fun h => hdT (.inl h)) (hs2 a d ((hb a).2 (.inr (.inr (.inr ha)))) ((hb d).2 (.inr (.inr (.inr hd)))) (hsym _ _ hab) hcd fun e => hdT (.inl (e ▸ haT)))
        · exact no c d ((bit c).2 ⟨hcK, e⟩) hd' (hcT.resolve_right e) (fun h => hdT (.inl h)) hcd
      · exact near (Ne.symm (ne ht kx)) ((hb x).2 (.inr (.inl rfl))) kx ⟨k1, hk1, hxk⟩
      · exact near (Ne.symm (ne ht ky)) ((hb y).2 (.inr (.inr (.inl rfl)))) ky ⟨k2, hk2, hyk⟩
    · have only : ∀ k, K.testBit k = true → k = s := fun k hk => Classical.byContradiction fun h => hone ⟨k, hk, h⟩
      have e1 := only k1 hk1
      have e2 := only k2 hk2
      subst e1
      subst e2
      exact hxy (hs2 x y ((hb x).2 (.inr (.inl rfl))) ((hb y).2 (.inr (.inr (.inl rfl)))) (hsym _ _ hxk) (hsym _ _ hyk) nxy)

/-- A part of R that is not empty, cannot be left, and cannot be cut in two. -/
theorem component {E : Nat → Nat → Prop} {n R : Nat} (hR : R < 2 ^ n) (h0 : R ≠ 0) : ∃ K, K ≠ 0 ∧ Sub K R ∧ (∀ t u, K.testBit t = true → R.testBit u = true → E t u → K.testBit u = true) ∧ Conn E K := by
  have key : ∀ K : Nat, K ≠ 0 → Sub K R → (∀ t u, K.testBit t = true → R.testBit u = true → E t u → K.testBit u = true) → ∃ K, K ≠ 0 ∧ Sub K R ∧ (∀ t u, K.testBit t = true → R.testBit u = true → E t u → K.testBit u = true) ∧ Conn E K := by
    intro K
    induction K using Nat.strongRecOn with
    | ind K ih =>
    intro hK hsub hcl
    by_cases hcon : Conn E K
    · exact ⟨K, hK, hsub, hcl, hcon⟩
    · have : ∃ T : Nat → Prop, (∃ t, K.testBit t = true ∧ T t) ∧ (∃ u, K.testBit u = true ∧ ¬ T u) ∧ ∀ t u, K.testBit t = true → K.testBit u = true → T t → ¬ T u → ¬ E t u := by
        refine Classical.byContradiction fun h => hcon fun T h1 h2 => Classical.byContradiction fun h3 => h ⟨T, h1, h2, fun t u a b c d e => h3 ⟨t, u, a, b, c, d, e⟩⟩
      obtain ⟨T, ⟨t, ht, htT⟩, ⟨u, hu, huT⟩, hno⟩ := this
      have hKlt : K < 2 ^ n := Nat.lt_of_le_of_lt hsub.le hR
      have bit : ∀ b, (partP K n T).testBit b = true ↔ K.testBit b = true ∧ T b := fun b => partP_bit hKlt
      refine ih _ (Sub.lt (fun b h => ((bit b).1 h).1) hu fun h => huT ((bit u).1 h).2) (not_zero ((bit t).2 ⟨ht, htT⟩)) (fun b h => hsub b ((bit b).1 h).1) fun a b ha hb hab => ?_
      have ha' := (bit a).1 ha
      have hbK := hcl a b ha'.1 hb hab
      exact (bit b).2 ⟨hbK, Classical.byContradiction fun h => hno a b ha'.1 hbK ha'.2 h hab⟩
  exact key R h0 (Sub.refl R) fun _ u _ hu _ => hu

/-- Each node of a least set that is not chordal has two neighbours in it, which are no neighbours of each other. -/
theorem two_near {E : Nat → Nat → Prop} (hsym : ∀ a b, E a b → E b a) (hirr : ∀ a, ¬ E a a) {n L : Nat} (hL : L < 2 ^ n) (hst : ∀ v, ¬ Simp E L v) (hmin : ∀ T, T < 2 ^ n → Sub T L → T ≠ L → Chd E n T) {v : Nat} (hv : L.testBit v = true) :
    ∃ x y, L.testBit x = true ∧ L.testBit y = true ∧ x ≠ y ∧ ¬ E x y ∧ E v x ∧ E v y ∧ ∀ w, L.testBit w = true → E v w → w = x ∨ w = y := by
  have bitR : ∀ b, (partP L n fun b => b ≠ v ∧ ¬ E v b).testBit b = true ↔ L.testBit b = true ∧ b ≠ v ∧ ¬ E v b := fun b => partP_bit hL
  have bitV : ∀ b, (partP L n (· ≠ v)).testBit b = true ↔ L.testBit b = true ∧ b ≠ v := fun b => partP_bit hL
  have h0 : (partP L n fun b => b ≠ v ∧ ¬ E v b) ≠ 0 := fun e0 => by
    have all : ∀ b, L.testBit b = true → b ≠ v → E v b := fun b hb hbv => Classical.byContradiction fun h => not_zero ((bitR b).2 ⟨hb, hbv, h⟩) e0
    have hz : (partP L n (· ≠ v)) ≠ 0 := fun e1 => hst v ⟨hv, fun a b ha hb h1 _ _ => absurd ((bitV a).2 ⟨ha, fun e => hirr v (e ▸ h1)⟩) (fun h => not_zero h e1)⟩
    obtain ⟨s, hs1, hs2⟩ := hmin (partP L n (· ≠ v)) (partP_lt _ _ _) (fun b h => ((bitV b).1 h).1) (fun e => ((bitV v).1 (by rw [e]; exact hv)).2 rfl) _ (partP_lt _ _ _) hz (Sub.refl _)
    refine hst s ⟨((bitV s).1 hs1).1, fun a b ha hb h1 h2 hab => ?_⟩
    by_cases ea : a = v
    · subst ea; exact all b hb (Ne.symm hab)
    · by_cases eb : b = v
      · subst eb; exact hsym _ _ (all a ha ea)
      · exact hs2 a b ((bitV a).2 ⟨ha, ea⟩) ((bitV b).2 ⟨hb, eb⟩) h1 h2 hab
  obtain ⟨K, hK0, hKR, hKc, hcon⟩ := component (E := E) (partP_lt _ _ _) h0
  have inR : ∀ b, K.testBit b = true → L.testBit b = true ∧ b ≠ v ∧ ¬ E v b := fun b hb => (bitR b).1 (hKR b hb)
  obtain ⟨k0, hk0⟩ := some_bit hK0
  have hexi : ∃ x y, (L.testBit x = true ∧ E v x ∧ ∃ k, K.testBit k = true ∧ E x k) ∧ (L.testBit y = true ∧ E v y ∧ ∃ k, K.testBit k = true ∧ E y k) ∧ x ≠ y ∧ ¬ E x y := by
    refine Classical.byContradiction fun hno => ?_
    have bitH : ∀ b, (partP L n fun b => K.testBit b = true ∨ (E v b ∧ ∃ k, K.testBit k = true ∧ E b k)).testBit b = true ↔ L.testBit b = true ∧ (K.testBit b = true ∨ (E v b ∧ ∃ k, K.testBit k = true ∧ E b k)) := fun b => partP_bit hL
    have hsub : Sub (partP L n fun b => K.testBit b = true ∨ (E v b ∧ ∃ k, K.testBit k = true ∧ E b k)) L := fun b h => ((bitH b).1 h).1
    have hc := hmin _ (partP_lt _ _ _) hsub (fun e => by
      have := (bitH v).1 (by rw [e]; exact hv)
      rcases this.2 with h | h
      · exact (inR v h).2.1 rfl
      · exact hirr v h.1)
    obtain ⟨s, ⟨hs1, hs2⟩, hs3⟩ := dirac hsym _ (partP_lt _ _ _) hc (fun b => L.testBit b = true ∧ E v b ∧ ∃ k, K.testBit k = true ∧ E b k) (fun a b ha hb hab => Classical.byContradiction fun h => hno ⟨a, b, ha, hb, hab, h⟩) k0 ((bitH k0).2 ⟨(inR k0 hk0).1, .inl hk0⟩) fun h => (inR k0 hk0).2.2 h.2.1
    have hs := (bitH s).1 hs1
    have hsK : K.testBit s = true := hs.2.resolve_right fun h => hs3 ⟨hs.1, h.1, h.2⟩
    have near : ∀ a, L.testBit a = true → E s a → (partP L n fun b => K.testBit b = true ∨ (E v b ∧ ∃ k, K.testBit k = true ∧ E b k)).testBit a = true := fun a ha hsa => by
      refine (bitH a).2 ⟨ha, ?_⟩
      by_cases hva : E v a
      · exact .inr ⟨hva, s, hsK, hsym _ _ hsa⟩
      · exact .inl (hKc s a hsK ((bitR a).2 ⟨ha, fun e => (inR s hsK).2.2 (hsym _ _ (e ▸ hsa)), hva⟩) hsa)
    exact hst s ⟨hs.1, fun a b ha hb h1 h2 hab => hs2 a b (near a ha h1) (near b hb h2) h1 h2 hab⟩
  obtain ⟨x, y, ⟨hx, hvx, hxk⟩, ⟨hy, hvy, hyk⟩, hxy, hne⟩ := hexi
  have bitH : ∀ b, (partP L n fun b => b = v ∨ b = x ∨ b = y ∨ K.testBit b = true).testBit b = true ↔ L.testBit b = true ∧ (b = v ∨ b = x ∨ b = y ∨ K.testBit b = true) := fun b => partP_bit hL
  have off : ∀ {z}, E v z → K.testBit z = false := fun {z} hz => by
    rw [Bool.eq_false_iff]; intro h; exact (inR z h).2.2 hz
  have hnot := ring_not (n := n) hsym hvx hvy hne hxy (fun e => hirr v (e ▸ hvx)) (fun e => hirr v (e ▸ hvy)) K (partP L n fun b => b = v ∨ b = x ∨ b = y ∨ K.testBit b = true) (partP_lt _ _ _) (fun b => by
    rw [bitH]
    refine ⟨fun h => h.2, fun h => ⟨?_, h⟩⟩
    rcases h with rfl | rfl | rfl | h
    · exact hv
    · exact hx
    · exact hy
    · exact (inR b h).1) hcon (by rw [Bool.eq_false_iff]; intro h; exact (inR v h).2.1 rfl) (off hvx) (off hvy) (fun k hk => (inR k hk).2.2) hxk hyk
  refine ⟨x, y, hx, hy, hxy, hne, hvx, hvy, fun w hw hvw => ?_⟩
  have heq : (partP L n fun b => b = v ∨ b = x ∨ b = y ∨ K.testBit b = true) = L := Classical.byContradiction fun e => hnot (hmin _ (partP_lt _ _ _) (fun b h => ((bitH b).1 h).1) e)
  rcases ((bitH w).1 (by rw [heq]; exact hw)).2 with rfl | h | h | h
  · exact absurd hvw (hirr w)
  · exact .inl h
  · exact .inr h
  · exact absurd hvw (inR w h).2.2

end Go.Proofs.Yticafbfijpjbnaa
