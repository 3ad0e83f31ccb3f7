/-
  Stuck sets, Dirac, orders, pure.
-/
import Derived.Test.YteckeobhlfddlaaUa
namespace Go.Proofs.Yteckeobhlfddlaa.Rib

section
open Go.RowKit Go.Sort

def Sub (T s : Nat) : Prop := ∀ b, T.testBit b = true → s.testBit b = true
theorem Sub.refl (s : Nat) : Sub s s := fun _ h => h
theorem Sub.trans {a b c : Nat} (h : Sub a b) (k : Sub b c) : Sub a c := fun x hx => k x (h x hx)
/-- What can be eliminated from a set can be eliminated from each of its parts. -/
theorem elim_sub {n : Nat} {gs : List Nat} {es : List (Int × Int)} (h : Adj n gs es) (hn : n ≤ 12) {s T v : Nat} (hs : s < 2 ^ n) (hT : T < 2 ^ n) (hsub : Sub T s) (hv : T.testBit v = true) (he : elimAt gs s v = true) : elimAt gs T v = true := by
  rw [elimAt, Bool.and_eq_true] at he ⊢
  refine ⟨hv, ?_⟩
  rw [cliqueB_iff h hn (by rw [Nat.and_comm]; exact and_lt_pow hT)]
  have h2 := he.2
  rw [cliqueB_iff h hn (by rw [Nat.and_comm]; exact and_lt_pow hs)] at h2
  have key : ∀ b, (gs[v]?.getD 0 &&& T).testBit b = true → (gs[v]?.getD 0 &&& s).testBit b = true := fun b hb => by
    rw [Nat.testBit_and, Bool.and_eq_true] at hb ⊢
    exact ⟨hb.1, hsub b hb.2⟩
  exact fun a b ha hb hab => h2 a b (key a ha) (key b hb) hab
theorem elimOf_at {gs : List Nat} {s v : Nat} (h : elimOf gs s = some v) : elimAt gs s v = true := List.find?_some h
theorem elimOf_none {n : Nat} {gs : List Nat} {es : List (Int × Int)} (h : Adj n gs es) {s : Nat} (hn : elimOf gs s = none) {v : Nat} (hv : v < n) : elimAt gs s v = false := by
  rw [elimOf, List.find?_eq_none] at hn
  have := hn v (List.mem_range.2 (by rw [h.len]; exact hv))
  simpa using this
theorem without_bit {s v b : Nat} (hv : v < 12) (hs : s < 65536) : (s &&& (65535 - 2 ^ v)).testBit b = (s.testBit b && !decide (v = b)) := by
  have hp : 2 ^ v < 65536 := Nat.pow_lt_pow_right (m := v) (n := 16) (by omega) (by omega)
  rw [Nat.testBit_and, testBit_comp hp, Nat.testBit_two_pow]
  cases hb : s.testBit b with
  | false => rfl
  | true =>
    have : b < 16 := by
      rcases Nat.lt_or_ge b 16 with h | h
      · exact h
      · rw [Nat.testBit_lt_two_pow (Nat.lt_of_lt_of_le hs (show 2 ^ 16 ≤ 2 ^ b from Nat.pow_le_pow_right (by omega) h))] at hb; cases hb
    simp [this]
/-- Of a set that contains a stuck one not all is eliminated. -/
theorem stuck_left {n : Nat} {gs : List Nat} {es : List (Int × Int)} (h : Adj n gs es) (hn : n ≤ 12) {T : Nat} (hT : T < 2 ^ n) (hst : elimOf gs T = none) : ∀ (f s : Nat), s < 2 ^ n → Sub T s → ∃ r, (elimAll gs f s).length + (bitsN r n).length ≤ (bitsN s n).length ∧ r < 2 ^ n ∧ Sub T r
  | 0, s, hs, hsub => ⟨s, by simp [elimAll], hs, hsub⟩
  | f + 1, s, hs, hsub => by
    rw [elimAll]
    cases he : elimOf gs s with
    | none => exact ⟨s, by simp, hs, hsub⟩
    | some v =>
      have hv := elimOf_some he
      rw [h.len] at hv
      have hTv : T.testBit v = false := by
        rw [Bool.eq_false_iff]
        intro hb
        have := elim_sub h hn hs hT hsub hb (elimOf_at he)
        rw [elimOf_none h hst hv.1] at this
        cases this
      have hs16 : s < 65536 := Nat.lt_of_lt_of_le hs (Nat.le_trans (Nat.pow_le_pow_right (by omega) hn) (by decide))
      obtain ⟨r, hr, hr2, hr3⟩ := stuck_left h hn hT hst f (s &&& (65535 - 2 ^ v)) (Nat.lt_of_le_of_lt Nat.and_le_left hs) fun b hb => by
        rw [without_bit (by omega) hs16, hsub b hb]
        have : ¬ v = b := fun e => by subst e; rw [hTv] at hb; cases hb
        simpa using this
      refine ⟨r, ?_, hr2, hr3⟩
      have hm : v ∈ bitsN s n := List.mem_filter.2 ⟨List.mem_range.2 hv.1, hv.2⟩
      obtain ⟨i, hi, e⟩ := List.getElem_of_mem hm
      have hw := congrArg List.length (without_same hn hi)
      rw [without_len _ _ (by rw [bitsR_N, List.length_map]; exact hi), bitsR_N, bitsR_N, List.length_map, List.length_map, e] at hw
      rw [List.length_cons]
      omega
theorem bits_pos {s n : Nat} (hs : s < 2 ^ n) (h0 : s ≠ 0) : 1 ≤ (bitsN s n).length := by
  refine List.length_pos_iff.2 fun e => h0 (Nat.eq_of_testBit_eq fun b => ?_)
  rw [Nat.zero_testBit, Bool.eq_false_iff]
  intro hb
  have : b ∈ bitsN s n := List.mem_filter.2 ⟨List.mem_range.2 (bit_lt hs hb), hb⟩
  rw [e] at this; simp at this
/-- A set is chordal exactly if no part of it is stuck. -/
theorem chordal_iff {n : Nat} {gs : List Nat} {es : List (Int × Int)} (h : Adj n gs es) (hn : n ≤ 12) {s f : Nat} (hs : s < 2 ^ n) (hf : s < f) : (elimAll gs f s).length = (bitsN s n).length ↔ ∀ T, T < 2 ^ n → T ≠ 0 → Sub T s → elimOf gs T ≠ none := by
  constructor
  · intro he T hT h0 hsub hst
    obtain ⟨r, hr, hr2, hr3⟩ := stuck_left h hn hT hst f s hs hsub
    have : r ≠ 0 := fun e => by
      subst e
      refine h0 (Nat.eq_of_testBit_eq fun b => ?_)
      rw [Nat.zero_testBit, Bool.eq_false_iff]
      intro hb
      have := hr3 b hb
      rw [Nat.zero_testBit] at this; cases this
    have := bits_pos hr2 this
    omega
  · intro hall
    have key : ∀ (f s : Nat), s < 2 ^ n → s < f → (∀ T, T < 2 ^ n → T ≠ 0 → Sub T s → elimOf gs T ≠ none) → (elimAll gs f s).length = (bitsN s n).length := by
      intro f
      induction f with
      | zero => intro s _ hf; omega
      | succ f ih =>
        intro s hs hf hall
        rw [elimAll]
        cases he : elimOf gs s with
        | none =>
          by_cases h0 : s = 0
          · subst h0
            have e0 : bitsN 0 n = [] := List.filter_eq_nil_iff.2 (by simp)
            rw [e0]
          · exact absurd he (hall s hs h0 (Sub.refl s))
        | some v =>
          have hv := elimOf_some he
          rw [h.len] at hv
          have hl := less_without (v := v) (by omega) hv.2
          have hs16 : s < 65536 := Nat.lt_of_lt_of_le hs (Nat.le_trans (Nat.pow_le_pow_right (by omega) hn) (by decide))
          have := ih (s &&& (65535 - 2 ^ v)) (Nat.lt_trans hl hs) (by omega) fun T hT h0 hsub => hall T hT h0 fun b hb => by
            have := hsub b hb
            rw [without_bit (by omega) hs16, Bool.and_eq_true] at this
            exact this.1
          have hm : v ∈ bitsN s n := List.mem_filter.2 ⟨List.mem_range.2 hv.1, hv.2⟩
          obtain ⟨i, hi, e⟩ := List.getElem_of_mem hm
          have hw := congrArg List.length (without_same hn hi)
          rw [without_len _ _ (by rw [bitsR_N, List.length_map]; exact hi), bitsR_N, bitsR_N, List.length_map, List.length_map, e] at hw
          rw [List.length_cons, this]
          have : 1 ≤ (bitsN s n).length := List.length_pos_iff.2 (List.ne_nil_of_mem hm)
          omega
    exact key f s hs hf hall
end

section
/-- The set of what a test holds for, as a number. -/
def maskP (f : Nat → Bool) : Nat → Nat
  | 0 => 0
  | n + 1 => maskP f n ||| (if f n then 2 ^ n else 0)
theorem maskP_bit (f : Nat → Bool) : ∀ (n b : Nat), (maskP f n).testBit b = (decide (b < n) && f b)
  | 0, b => by simp [maskP]
  | n + 1, b => by
    rw [maskP, Nat.testBit_or, maskP_bit f n b]
    by_cases hf : f n = true
    · rw [if_pos hf, Nat.testBit_two_pow]
      by_cases h1 : b < n
      · have : ¬ n = b := by omega
        have h2 : b < n + 1 := by omega
        simp [h1, h2, this]
      · by_cases h2 : n = b
        · subst h2; simp [hf]
        · have h3 : ¬ b < n + 1 := by omega
          simp [h1, h2, h3]
    · rw [if_neg hf, Nat.zero_testBit, Bool.or_false]
      by_cases h1 : b < n
      · have h2 : b < n + 1 := by omega
        simp [h1, h2]
      · by_cases h2 : n = b
        · subst h2; simp [Bool.not_eq_true _ ▸ hf]
        · have h3 : ¬ b < n + 1 := by omega
          simp [h1, h3]
theorem maskP_lt (f : Nat → Bool) (n : Nat) : maskP f n < 2 ^ n := by
  refine Nat.lt_pow_two_of_testBit _ fun i hi => ?_
  rw [maskP_bit, decide_eq_false (by omega)]; rfl
/-- The part of a set of what is so. -/
noncomputable def partP (s n : Nat) (p : Nat → Prop) : Nat := maskP (fun b => s.testBit b && @decide (p b) (Classical.propDecidable _)) n
theorem partP_bit {s n b : Nat} {p : Nat → Prop} (hs : s < 2 ^ n) : (partP s n p).testBit b = true ↔ s.testBit b = true ∧ p b := by
  rw [partP, maskP_bit, Bool.and_eq_true, Bool.and_eq_true, decide_eq_true_iff, @decide_eq_true_iff (p b) (Classical.propDecidable _)]
  exact ⟨fun h => h.2, fun h => ⟨bit_lt hs h.1, h⟩⟩
theorem partP_lt (s n : Nat) (p : Nat → Prop) : partP s n p < 2 ^ n := maskP_lt _ _
theorem Sub.le {a b : Nat} (h : Sub a b) : a ≤ b := by
  have : a = a &&& b := Nat.eq_of_testBit_eq fun i => by
    rw [Nat.testBit_and]
    cases ha : a.testBit i with
    | false => rfl
    | true => rw [h i ha]; rfl
  rw [this]; exact Nat.and_le_right
theorem Sub.lt {a b x : Nat} (h : Sub a b) (hb : b.testBit x = true) (ha : ¬ a.testBit x = true) : a < b := by
  have := h.le
  have : a ≠ b := fun e => ha (e ▸ hb)
  omega
theorem some_bit {s : Nat} (h : s ≠ 0) : ∃ b, s.testBit b = true := Nat.exists_testBit_of_ne_zero h
theorem not_zero {s b : Nat} (h : s.testBit b = true) : s ≠ 0 := fun e => by subst e; rw [Nat.zero_testBit] at h; cases h

/-- A node of a set whose neighbours in it are a clique. -/
def Simp (E : Nat → Nat → Prop) (s v : Nat) : Prop := s.testBit v = true ∧ ∀ a b, s.testBit a = true → s.testBit b = true → E v a → E v b → a ≠ b → E a b
/-- Each part has such a node. -/
def Chd (E : Nat → Nat → Prop) (n s : Nat) : Prop := ∀ T, T < 2 ^ n → T ≠ 0 → Sub T s → ∃ v, Simp E T v
theorem Chd.sub {E : Nat → Nat → Prop} {n s T : Nat} (h : Chd E n s) (k : Sub T s) : Chd E n T := fun U hU h0 hs => h U hU h0 (hs.trans k)

theorem dirac {E : Nat → Nat → Prop} (hsym : ∀ a b, E a b → E b a) {n : Nat} (H : Nat) : H < 2 ^ n → Chd E n H → ∀ K : Nat → Prop, (∀ a b, K a → K b → a ≠ b → E a b) → ∀ x, H.testBit x = true → ¬ K x → ∃ v, Simp E H v ∧ ¬ K v := by
  induction H using Nat.strongRecOn with
  | ind H ih =>
  intro hH hc K hK x hx hxK
  obtain ⟨s, hs1, hs2⟩ := hc H hH (not_zero hx) (Sub.refl H)
  by_cases hsK : K s
  · by_cases hall : ∀ y, H.testBit y = true → y ≠ s → E s y
    · refine ⟨x, ⟨hx, fun a b ha hb _ _ hab => ?_⟩, hxK⟩
      by_cases h1 : a = s
      · subst h1; exact hall b hb (Ne.symm hab)
      · by_cases h2 : b = s
        · subst h2; exact hsym _ _ (hall a ha h1)
        · exact hs2 a b ha hb (hall a ha h1) (hall b hb h2) hab
    · have : ∃ y, H.testBit y = true ∧ y ≠ s ∧ ¬ E s y := by
        refine Classical.byContradiction fun h => hall fun y h1 h2 => Classical.byContradiction fun h3 => h ⟨y, h1, h2, h3⟩
      obtain ⟨y, hy1, hy2, hy3⟩ := this
      have hsub : Sub (partP H n (· ≠ s)) H := fun b hb => ((partP_bit hH).1 hb).1
      obtain ⟨t, ⟨ht1, ht2⟩, ht3⟩ := ih _ (hsub.lt hs1 fun h => ((partP_bit hH).1 h).2 rfl) (partP_lt _ _ _) (hc.sub hsub) (fun b => H.testBit b = true ∧ E s b) (fun a b ha hb hab => hs2 a b ha.1 hb.1 ha.2 hb.2 hab) y ((partP_bit hH).2 ⟨hy1, hy2⟩) fun h => hy3 h.2
      have ht := (partP_bit hH).1 ht1
      have hts : ¬ E s t := fun h => ht3 ⟨ht.1, h⟩
      have inn : ∀ a, H.testBit a = true → E t a → (partP H n (· ≠ s)).testBit a = true := fun a ha hta => (partP_bit hH).2 ⟨ha, fun e => hts (hsym _ _ (e ▸ hta))⟩
      exact ⟨t, ⟨ht.1, fun a b ha hb h1 h2 hab => ht2 a b (inn a ha h1) (inn b hb h2) h1 h2 hab⟩, fun h => hts (hK s t hsK h (Ne.symm ht.2))⟩
  · exact ⟨s, ⟨hs1, hs2⟩, hsK⟩

/-- What can't be cut in two. -/
def Conn (E : Nat → Nat → Prop) (K : Nat) : Prop := ∀ T : Nat → Prop, (∃ t, K.testBit t = true ∧ T t) → (∃ u, K.testBit u = true ∧ ¬ T u) → ∃ t u, K.testBit t = true ∧ K.testBit u = true ∧ T t ∧ ¬ T u ∧ E t u

/-- A way from x to y, away from v, closes a ring: that is not chordal. -/
theorem ring_not {E : Nat → Nat → Prop} (hsym : ∀ a b, E a b → E b a) {n v x y : Nat} (hvx : E v x) (hvy : E v y) (hxy : ¬ E x y) (nxy : x ≠ y) (nvx : v ≠ x) (nvy : v ≠ y) (K : Nat) : ∀ H, H < 2 ^ n → (∀ b, H.testBit b = true ↔ (b = v ∨ b = x ∨ b = y ∨ K.testBit b = true)) → Conn E K → K.testBit v = false → K.testBit x = false → K.testBit y = false → (∀ k, K.testBit k = true → ¬ E v k) → (∃ k, K.testBit k = true ∧ E x k) → (∃ k, K.testBit k = true ∧ E y k) → ¬ Chd E n H := by
  induction K using Nat.strongRecOn with
  | ind K ih =>
  intro H hH hb hcon kv kx ky hvk ⟨k1, hk1, hxk⟩ ⟨k2, hk2, hyk⟩ hc
  obtain ⟨s, ⟨hs1, hs2⟩, hs3⟩ := dirac hsym H hH hc (fun b => b = v ∨ b = x) (by
    rintro a b (rfl | rfl) (rfl | rfl) hab
    · exact absurd rfl hab
    · exact hvx
    · exact hsym _ _ hvx
    · exact absurd rfl hab) y ((hb y).2 (.inr (.inr (.inl rfl)))) (by rintro (h | h); exact nvy h.symm; exact nxy h.symm)
  have ne : ∀ {a b}, K.testBit a = true → K.testBit b = false → a ≠ b := fun h1 h2 e => by subst e; rw [h1] at h2; cases h2
  rcases (hb s).1 hs1 with rfl | rfl | rfl | hsK
  · exact hs3 (.inl rfl)
  · exact hs3 (.inr rfl)
  · exact hvk k2 hk2 (hs2 v k2 ((hb v).2 (.inl rfl)) ((hb k2).2 (.inr (.inr (.inr hk2)))) (hsym _ _ hvy) hyk (Ne.symm (ne hk2 kv)))
  · by_cases hone : ∃ u, K.testBit u = true ∧ u ≠ s
    · obtain ⟨t, u, ht, hu, rfl, hut, htu⟩ := hcon (· = s) ⟨s, hsK, rfl⟩ hone
      have hKlt : K < 2 ^ n := Nat.lt_of_le_of_lt (Sub.le (a := K) (b := H) fun b h => (hb b).2 (.inr (.inr (.inr h)))) hH
      have bit : ∀ b, (partP K n (· ≠ t)).testBit b = true ↔ K.testBit b = true ∧ b ≠ t := fun b => partP_bit hKlt
      have bitH : ∀ b, (partP H n (· ≠ t)).testBit b = true ↔ H.testBit b = true ∧ b ≠ t := fun b => partP_bit hH
      have off : ∀ {b}, K.testBit b = false → (partP K n (· ≠ t)).testBit b = false := fun {b} h => by
        rw [Bool.eq_false_iff]; intro h'; rw [((bit b).1 h').1] at h; cases h
      have near : ∀ {z}, z ≠ t → H.testBit z = true → K.testBit z = false → (∃ k, K.testBit k = true ∧ E z k) → ∃ k, (partP K n (· ≠ t)).testBit k = true ∧ E z k := by
        rintro z hzt hz hzK ⟨k, hk, hzk⟩
        by_cases e : k = t
        · subst e
          exact ⟨u, (bit u).2 ⟨hu, hut⟩, hs2 z u hz ((hb u).2 (.inr (.inr (.inr hu)))) (hsym _ _ hzk) htu (Ne.symm (ne hu hzK))⟩
        · exact ⟨k, (bit k).2 ⟨hk, e⟩, hzk⟩
      refine ih _ (Sub.lt (fun b h => ((bit b).1 h).1) hsK fun h => ((bit t).1 h).2 rfl) (partP H n (· ≠ t)) (partP_lt _ _ _) (fun b => ?_) ?_ (off kv) (off kx) (off ky) (fun k hk => hvk k ((bit k).1 hk).1) ?_ ?_ (hc.sub fun b h => ((bitH b).1 h).1)
      · rw [bitH, bit, hb]
        constructor
        · rintro ⟨h | h | h | h, h2⟩
          · exact .inl h
          · exact .inr (.inl h)
          · exact .inr (.inr (.inl h))
          · exact .inr (.inr (.inr ⟨h, h2⟩))
        · rintro (rfl | rfl | rfl | ⟨h, h2⟩)
          · exact ⟨.inl rfl, Ne.symm (ne ht kv)⟩
          · exact ⟨.inr (.inl rfl), Ne.symm (ne ht kx)⟩
          · exact ⟨.inr (.inr (.inl rfl)), Ne.symm (ne ht ky)⟩
          · exact ⟨.inr (.inr (.inr h)), h2⟩
      · rintro T ⟨p, hp, hpT⟩ ⟨q, hq, hqT⟩
        refine Classical.byContradiction fun hno => ?_
        have no : ∀ a b, (partP K n (· ≠ t)).testBit a = true → (partP K n (· ≠ t)).testBit b = true → T a → ¬ T b → ¬ E a b := fun a b h1 h2 h3 h4 h5 => hno ⟨a, b, h1, h2, h3, h4, h5⟩
        obtain ⟨a, b, ha, hbK, ⟨haT, hat⟩, hbT, hab⟩ := hcon (fun z => T z ∧ z ≠ t) ⟨p, ((bit p).1 hp).1, hpT, ((bit p).1 hp).2⟩ ⟨q, ((bit q).1 hq).1, fun h => hqT h.1⟩
        have hbt : b = t := Classical.byContradiction fun e => no a b ((bit a).2 ⟨ha, hat⟩) ((bit b).2 ⟨hbK, e⟩) haT (fun h => hbT ⟨h, e⟩) hab
        subst hbt
        obtain ⟨c, d, hcK, hd, hcT, hdT, hcd⟩ := hcon (fun z => T z ∨ z = b) ⟨p, ((bit p).1 hp).1, .inl hpT⟩ ⟨q, ((bit q).1 hq).1, fun h => h.elim hqT ((bit q).1 hq).2⟩
        have hdb : d ≠ b := fun e => hdT (.inr e)
        have hd' : (partP K n (· ≠ b)).testBit d = true := (bit d).2 ⟨hd, hdb⟩
        rcases Classical.em (c = b) with e | e
        · subst e
          exact no a d ((bit a).2 ⟨ha, hat⟩) hd' haT (fun h => hdT (.inl h)) (hs2 a d ((hb a).2 (.inr (.inr (.inr ha)))) ((hb d).2 (.inr (.inr (.inr hd)))) (hsym _ _ hab) hcd fun e => hdT (.inl (e ▸ haT)))
        · exact no c d ((bit c).2 ⟨hcK, e⟩) hd' (hcT.resolve_right e) (fun h => hdT (.inl h)) hcd
      · exact near (Ne.symm (ne ht kx)) ((hb x).2 (.inr (.inl rfl))) kx ⟨k1, hk1, hxk⟩
      · exact near (Ne.symm (ne ht ky)) ((hb y).2 (.inr (.inr (.inl rfl)))) ky ⟨k2, hk2, hyk⟩
    · have only : ∀ k, K.testBit k = true → k = s := fun k hk => Classical.byContradiction fun h => hone ⟨k, hk, h⟩
      have e1 := only k1 hk1
      have e2 := only k2 hk2
      subst e1
      subst e2
      exact hxy (hs2 x y ((hb x).2 (.inr (.inl rfl))) ((hb y).2 (.inr (.inr (.inl rfl)))) (hsym _ _ hxk) (hsym _ _ hyk) nxy)

/-- A part of R that is not empty, cannot be left, and cannot be cut in two. -/
theorem component {E : Nat → Nat → Prop} {n R : Nat} (hR : R < 2 ^ n) (h0 : R ≠ 0) : ∃ K, K ≠ 0 ∧ Sub K R ∧ (∀ t u, K.testBit t = true → R.testBit u = true → E t u → K.testBit u = true) ∧ Conn E K := by
  have key : ∀ K : Nat, K ≠ 0 → Sub K R → (∀ t u, K.testBit t = true → R.testBit u = true → E t u → K.testBit u = true) → ∃ K, K ≠ 0 ∧ Sub K R ∧ (∀ t u, K.testBit t = true → R.testBit u = true → E t u → K.testBit u = true) ∧ Conn E K := by
    intro K
    induction K using Nat.strongRecOn with
    | ind K ih =>
    intro hK hsub hcl
    by_cases hcon : Conn E K
    · exact ⟨K, hK, hsub, hcl, hcon⟩
    · have : ∃ T : Nat → Prop, (∃ t, K.testBit t = true ∧ T t) ∧ (∃ u, K.testBit u = true ∧ ¬ T u) ∧ ∀ t u, K.testBit t = true → K.testBit u = true → T t → ¬ T u → ¬ E t u := by
        refine Classical.byContradiction fun h => hcon fun T h1 h2 => Classical.byContradiction fun h3 => h ⟨T, h1, h2, fun t u a b c d e => h3 ⟨t, u, a, b, c, d, e⟩⟩
      obtain ⟨T, ⟨t, ht, htT⟩, ⟨u, hu, huT⟩, hno⟩ := this
      have hKlt : K < 2 ^ n := Nat.lt_of_le_of_lt hsub.le hR
      have bit : ∀ b, (partP K n T).testBit b = true ↔ K.testBit b = true ∧ T b := fun b => partP_bit hKlt
      refine ih _ (Sub.lt (fun b h => ((bit b).1 h).1) hu fun h => huT ((bit u).1 h).2) (not_zero ((bit t).2 ⟨ht, htT⟩)) (fun b h => hsub b ((bit b).1 h).1) fun a b ha hb hab => ?_
      have ha' := (bit a).1 ha
      have hbK := hcl a b ha'.1 hb hab
      exact (bit b).2 ⟨hbK, Classical.byContradiction fun h => hno a b ha'.1 hbK ha'.2 h hab⟩
  exact key R h0 (Sub.refl R) fun _ u _ hu _ => hu

/-- Each node of a least set that is not chordal has two neighbours in it, which are no neighbours of each other. -/
theorem two_near {E : Nat → Nat → Prop} (hsym : ∀ a b, E a b → E b a) (hirr : ∀ a, ¬ E a a) {n L : Nat} (hL : L < 2 ^ n) (hst : ∀ v, ¬ Simp E L v) (hmin : ∀ T, T < 2 ^ n → Sub T L → T ≠ L → Chd E n T) {v : Nat} (hv : L.testBit v = true) :
    ∃ x y, L.testBit x = true ∧ L.testBit y = true ∧ x ≠ y ∧ ¬ E x y ∧ E v x ∧ E v y ∧ ∀ w, L.testBit w = true → E v w → w = x ∨ w = y := by
  have bitR : ∀ b, (partP L n fun b => b ≠ v ∧ ¬ E v b).testBit b = true ↔ L.testBit b = true ∧ b ≠ v ∧ ¬ E v b := fun b => partP_bit hL
  have bitV : ∀ b, (partP L n (· ≠ v)).testBit b = true ↔ L.testBit b = true ∧ b ≠ v := fun b => partP_bit hL
  have h0 : (partP L n fun b => b ≠ v ∧ ¬ E v b) ≠ 0 := fun e0 => by
    have all : ∀ b, L.testBit b = true → b ≠ v → E v b := fun b hb hbv => Classical.byContradiction fun h => not_zero ((bitR b).2 ⟨hb, hbv, h⟩) e0
    have hz : (partP L n (· ≠ v)) ≠ 0 := fun e1 => hst v ⟨hv, fun a b ha hb h1 _ _ => absurd ((bitV a).2 ⟨ha, fun e => hirr v (e ▸ h1)⟩) (fun h => not_zero h e1)⟩
    obtain ⟨s, hs1, hs2⟩ := hmin (partP L n (· ≠ v)) (partP_lt _ _ _) (fun b h => ((bitV b).1 h).1) (fun e => ((bitV v).1 (by rw [e]; exact hv)).2 rfl) _ (partP_lt _ _ _) hz (Sub.refl _)
    refine hst s ⟨((bitV s).1 hs1).1, fun a b ha hb h1 h2 hab => ?_⟩
    by_cases ea : a = v
    · subst ea; exact all b hb (Ne.symm hab)
    · by_cases eb : b = v
      · subst eb; exact hsym _ _ (all a ha ea)
      · exact hs2 a b ((bitV a).2 ⟨ha, ea⟩) ((bitV b).2 ⟨hb, eb⟩) h1 h2 hab
  obtain ⟨K, hK0, hKR, hKc, hcon⟩ := component (E := E) (partP_lt _ _ _) h0
  have inR : ∀ b, K.testBit b = true → L.testBit b = true ∧ b ≠ v ∧ ¬ E v b := fun b hb => (bitR b).1 (hKR b hb)
  obtain ⟨k0, hk0⟩ := some_bit hK0
  have hexi : ∃ x y, (L.testBit x = true ∧ E v x ∧ ∃ k, K.testBit k = true ∧ E x k) ∧ (L.testBit y = true ∧ E v y ∧ ∃ k, K.testBit k = true ∧ E y k) ∧ x ≠ y ∧ ¬ E x y := by
    refine Classical.byContradiction fun hno => ?_
    have bitH : ∀ b, (partP L n fun b => K.testBit b = true ∨ (E v b ∧ ∃ k, K.testBit k = true ∧ E b k)).testBit b = true ↔ L.testBit b = true ∧ (K.testBit b = true ∨ (E v b ∧ ∃ k, K.testBit k = true ∧ E b k)) := fun b => partP_bit hL
    have hsub : Sub (partP L n fun b => K.testBit b = true ∨ (E v b ∧ ∃ k, K.testBit k = true ∧ E b k)) L := fun b h => ((bitH b).1 h).1
    have hc := hmin _ (partP_lt _ _ _) hsub (fun e => by
      have := (bitH v).1 (by rw [e]; exact hv)
      rcases this.2 with h | h
      · exact (inR v h).2.1 rfl
      · exact hirr v h.1)
    obtain ⟨s, ⟨hs1, hs2⟩, hs3⟩ := dirac hsym _ (partP_lt _ _ _) hc (fun b => L.testBit b = true ∧ E v b ∧ ∃ k, K.testBit k = true ∧ E b k) (fun a b ha hb hab => Classical.byContradiction fun h => hno ⟨a, b, ha, hb, hab, h⟩) k0 ((bitH k0).2 ⟨(inR k0 hk0).1, .inl hk0⟩) fun h => (inR k0 hk0).2.2 h.2.1
    have hs := (bitH s).1 hs1
    have hsK : K.testBit s = true := hs.2.resolve_right fun h => hs3 ⟨hs.1, h.1, h.2⟩
    have near : ∀ a, L.testBit a = true → E s a → (partP L n fun b => K.testBit b = true ∨ (E v b ∧ ∃ k, K.testBit k = true ∧ E b k)).testBit a = true := fun a ha hsa => by
      refine (bitH a).2 ⟨ha, ?_⟩
      by_cases hva : E v a
      · exact .inr ⟨hva, s, hsK, hsym _ _ hsa⟩
      · exact .inl (hKc s a hsK ((bitR a).2 ⟨ha, fun e => (inR s hsK).2.2 (hsym _ _ (e ▸ hsa)), hva⟩) hsa)
    exact hst s ⟨hs.1, fun a b ha hb h1 h2 hab => hs2 a b (near a ha h1) (near b hb h2) h1 h2 hab⟩
  obtain ⟨x, y, ⟨hx, hvx, hxk⟩, ⟨hy, hvy, hyk⟩, hxy, hne⟩ := hexi
  have bitH : ∀ b, (partP L n fun b => b = v ∨ b = x ∨ b = y ∨ K.testBit b = true).testBit b = true ↔ L.testBit b = true ∧ (b = v ∨ b = x ∨ b = y ∨ K.testBit b = true) := fun b => partP_bit hL
  have off : ∀ {z}, E v z → K.testBit z = false := fun {z} hz => by
    rw [Bool.eq_false_iff]; intro h; exact (inR z h).2.2 hz
  have hnot := ring_not (n := n) hsym hvx hvy hne hxy (fun e => hirr v (e ▸ hvx)) (fun e => hirr v (e ▸ hvy)) K (partP L n fun b => b = v ∨ b = x ∨ b = y ∨ K.testBit b = true) (partP_lt _ _ _) (fun b => by
    rw [bitH]
    refine ⟨fun h => h.2, fun h => ⟨?_, h⟩⟩
    rcases h with rfl | rfl | rfl | h
    · exact hv
    · exact hx
    · exact hy
    · exact (inR b h).1) hcon (by rw [Bool.eq_false_iff]; intro h; exact (inR v h).2.1 rfl) (off hvx) (off hvy) (fun k hk => (inR k hk).2.2) hxk hyk
  refine ⟨x, y, hx, hy, hxy, hne, hvx, hvy, fun w hw hvw => ?_⟩
  have heq : (partP L n fun b => b = v ∨ b = x ∨ b = y ∨ K.testBit b = true) = L := Classical.byContradiction fun e => hnot (hmin _ (partP_lt _ _ _) (fun b h => ((bitH b).1 h).1) e)
  rcases ((bitH w).1 (by rw [heq]; exact hw)).2 with rfl | h | h | h
  · exact absurd hvw (hirr w)
  · exact .inl h
  · exact .inr h
  · exact absurd hvw (inR w h).2.2
end

section
/-- The least number of a set; 16 of the empty one. -/
def tzN (s : Nat) : Nat := ((List.range 16).find? fun i => s.testBit i).getD 16
theorem tzN_bit {s : Nat} (hs : s < 65536) (h0 : s ≠ 0) : s.testBit (tzN s) = true ∧ tzN s < 16 := by
  obtain ⟨b, hb⟩ := some_bit h0
  have hb16 : b < 16 := bit_lt (n := 16) hs hb
  rw [tzN]
  cases hf : (List.range 16).find? fun i => s.testBit i with
  | none =>
    rw [List.find?_eq_none] at hf
    exact absurd hb (hf b (List.mem_range.2 hb16))
  | some c => exact ⟨List.find?_some (p := fun i => s.testBit i) hf, List.mem_range.1 (List.mem_of_find?_eq_some hf)⟩
/-- What 'around' collects. -/
def aroundN (gs : List Nat) : Nat → Nat → Nat → List Nat
  | 0, _, _ => []
  | f + 1, R, nx => if nx = 0 then [] else tzN nx :: aroundN gs f (R &&& (65535 - 2 ^ tzN nx)) ((gs[tzN nx]?.getD 0) &&& (R &&& (65535 - 2 ^ tzN nx)))

/-- Each node has two neighbours, which are no neighbours of each other, and no more. -/
def Two (E : Nat → Nat → Prop) (L : Nat) : Prop := ∀ v, L.testBit v = true → (∃ a b, L.testBit a = true ∧ L.testBit b = true ∧ a ≠ b ∧ E v a ∧ E v b) ∧
  ∀ a b, L.testBit a = true → L.testBit b = true → E v a → E v b → a ≠ b → ¬ E a b ∧ ∀ c, L.testBit c = true → E v c → c = a ∨ c = b
theorem two_from {E : Nat → Nat → Prop} (hsym : ∀ a b, E a b → E b a) {L : Nat} (h : ∀ v, L.testBit v = true → ∃ x y, L.testBit x = true ∧ L.testBit y = true ∧ x ≠ y ∧ ¬ E x y ∧ E v x ∧ E v y ∧ ∀ w, L.testBit w = true → E v w → w = x ∨ w = y) : Two E L := by
  intro v hv
  obtain ⟨x, y, hx, hy, hxy, hne, hvx, hvy, hall⟩ := h v hv
  refine ⟨⟨x, y, hx, hy, hxy, hvx, hvy⟩, fun a b ha hb hva hvb hab => ?_⟩
  rcases hall a ha hva with rfl | rfl
  · rcases hall b hb hvb with rfl | rfl
    · exact absurd rfl hab
    · exact ⟨hne, hall⟩
  · rcases hall b hb hvb with rfl | rfl
    · exact ⟨fun h => hne (hsym _ _ h), fun c hc hvc => (hall c hc hvc).symm⟩
    · exact absurd rfl hab

def atL (P : List Nat) (i : Nat) : Nat := P[i]?.getD 0
theorem atL_mem {P : List Nat} {i : Nat} (h : i < P.length) : atL P i ∈ P := by
  rw [atL, List.getElem?_eq_getElem h]; exact List.getElem_mem h
theorem atL_old {P : List Nat} {v i : Nat} (h : i < P.length) : atL (P ++ [v]) i = atL P i := by
  rw [atL, List.getElem?_append_left h]; rfl
theorem atL_new {P : List Nat} {v : Nat} : atL (P ++ [v]) P.length = v := by
  rw [atL, List.getElem?_append_right (Nat.le_refl _), Nat.sub_self]; rfl
theorem mem_atL {P : List Nat} {x : Nat} (h : x ∈ P) : ∃ i, i < P.length ∧ atL P i = x := by
  obtain ⟨i, hi, rfl⟩ := List.getElem_of_mem h
  exact ⟨i, hi, by rw [atL, List.getElem?_eq_getElem hi]; rfl⟩

/-- A ring. -/
def RingL (E : Nat → Nat → Prop) (l : List Nat) : Prop := 4 ≤ l.length ∧ ∀ i k, k < i → i < l.length → atL l i ≠ atL l k ∧ (E (atL l i) (atL l k) ↔ i = k + 1 ∨ (k = 0 ∧ i + 1 = l.length))
/-- A way so far: only its ends may be neighbours besides. -/
structure Way (E : Nat → Nat → Prop) (L : Nat) (P : List Nat) : Prop where
  mem : ∀ x ∈ P, L.testBit x = true
  dif : ∀ i k, k < i → i < P.length → atL P i ≠ atL P k
  yes : ∀ k, k + 1 < P.length → E (atL P (k + 1)) (atL P k)
  no : ∀ i k, k + 1 < i → i < P.length → ¬ (k = 0 ∧ i + 1 = P.length) → ¬ E (atL P i) (atL P k)

theorem way_step {E : Nat → Nat → Prop} (hsym : ∀ a b, E a b → E b a) {L : Nat} (two : Two E L) {P : List Nat} {m v : Nat} (hP : P.length = m + 1) (h : Way E L P) (hv : L.testBit v = true) (hvP : v ∉ P) (he : E (atL P m) v) : Way E L (P ++ [v]) := by
  have old : ∀ {i}, i < m + 1 → atL (P ++ [v]) i = atL P i := fun {i} hi => atL_old (by omega)
  have new : atL (P ++ [v]) (m + 1) = v := by rw [← hP]; exact atL_new
  have inP : ∀ {i}, i < m + 1 → atL P i ∈ P := fun {i} hi => atL_mem (by omega)
  have inL : ∀ {i}, i < m + 1 → L.testBit (atL P i) = true := fun {i} hi => h.mem _ (inP hi)
  have ne : ∀ {i}, i < m + 1 → v ≠ atL P i := fun {i} hi e => hvP (e ▸ inP hi)
  have hl : (P ++ [v]).length = m + 2 := by rw [List.length_append, hP]; rfl
  refine ⟨fun x hx => ?_, fun i k hki hi => ?_, fun k hk => ?_, fun i k hki hi hno => ?_⟩
  · rcases List.mem_append.1 hx with h' | h'
    · exact h.mem x h'
    · rw [List.mem_singleton.1 h']; exact hv
  · rw [hl] at hi
    rcases Nat.lt_or_ge i (m + 1) with h1 | h1
    · rw [old h1, old (by omega)]; exact h.dif i k hki (by omega)
    · obtain rfl : i = m + 1 := by omega
      rw [new, old (by omega)]; exact ne (by omega)
  · rw [hl] at hk
    rcases Nat.lt_or_ge k m with h1 | h1
    · rw [old (by omega), old (by omega)]; exact h.yes k (by omega)
    · obtain rfl : k = m := by omega
      rw [new, old (by omega)]; exact hsym _ _ he
  · rw [hl] at hi hno
    rcases Nat.lt_or_ge i (m + 1) with h1 | h1
    · rw [old h1, old (by omega)]
      by_cases hend : k = 0 ∧ i + 1 = P.length
      · obtain ⟨rfl, hi2⟩ := hend
        obtain rfl : i = m := by omega
        intro hE
        obtain ⟨j, rfl⟩ : ∃ j, i = j + 1 := ⟨i - 1, by omega⟩
        have hy := h.yes j (by omega)
        rcases ((two _ (inL h1)).2 _ _ (inL (show j < j + 1 + 1 by omega)) (inL (show 0 < j + 1 + 1 by omega)) hy hE (h.dif j 0 (by omega) (by omega))).2 v hv he with e | e
        · exact ne (by omega) e
        · exact ne (by omega) e
      · exact h.no i k hki (by omega) hend
    · obtain rfl : i = m + 1 := by omega
      rw [new, old (by omega)]
      intro hE
      obtain ⟨j, rfl⟩ : ∃ j, k = j + 1 := ⟨k - 1, by omega⟩
      have h1 := hsym _ _ (h.yes (j + 1) (by omega))
      have h2 := h.yes j (by omega)
      rcases ((two _ (inL (show j + 1 < m + 1 by omega))).2 _ _ (inL (show j + 1 + 1 < m + 1 by omega)) (inL (show j < m + 1 by omega)) h1 h2 (h.dif _ _ (by omega) (by omega))).2 v hv (hsym _ _ hE) with e | e
      · exact ne (by omega) e
      · exact ne (by omega) e

theorem way_end {E : Nat → Nat → Prop} (hsym : ∀ a b, E a b → E b a) (hirr : ∀ a, ¬ E a a) {L : Nat} (two : Two E L) {P : List Nat} {m : Nat} (hP : P.length = m + 1) (h : Way E L P) (hend : ∀ v, L.testBit v = true → E (atL P m) v → v ∈ P) : RingL E P := by
  have inL : ∀ {i}, i < m + 1 → L.testBit (atL P i) = true := fun {i} hi => h.mem _ (atL_mem (by omega))
  obtain ⟨⟨x, y, hx, hy, hxy, hmx, hmy⟩, _⟩ := two _ (inL (show m < m + 1 by omega))
  have close : ∀ a, a < m + 1 → E (atL P m) (atL P a) → a + 1 = m ∨ (a = 0 ∧ 2 ≤ m) := by
    intro a ha hE
    have : a ≠ m := fun e => hirr _ (e ▸ hE)
    by_cases h1 : a + 1 = m
    · exact .inl h1
    · by_cases h2 : a = 0 ∧ m + 1 = P.length
      · exact .inr ⟨h2.1, by omega⟩
      · exact absurd hE (h.no m a (by omega) (by omega) h2)
  obtain ⟨a, ha, hax⟩ := mem_atL (hend x hx hmx)
  obtain ⟨b, hb, hby⟩ := mem_atL (hend y hy hmy)
  rw [← hax] at hmx
  rw [← hby] at hmy
  have hab : a ≠ b := fun e => hxy (by rw [← hax, ← hby, e])
  have h0 : E (atL P m) (atL P 0) ∧ 2 ≤ m := by
    rcases close a (by omega) hmx with h1 | ⟨rfl, h1⟩
    · rcases close b (by omega) hmy with h2 | ⟨rfl, h2⟩
      · omega
      · exact ⟨hmy, h2⟩
    · exact ⟨hmx, h1⟩
  have h3 : 3 ≤ m := by
    rcases Nat.lt_or_ge m 3 with hlt | hge
    · obtain rfl : m = 2 := by omega
      exact absurd (hsym _ _ h0.1) ((two _ (inL (show 1 < 3 by omega))).2 _ _ (inL (show 0 < 3 by omega)) (inL (show 2 < 3 by omega)) (h.yes 0 (by omega)) (hsym _ _ (h.yes 1 (by omega))) fun e => h.dif 2 0 (by omega) (by omega) e.symm).1
    · exact hge
  refine ⟨by omega, fun i k hki hi => ⟨h.dif i k hki hi, fun hE => ?_, fun hE => ?_⟩⟩
  · by_cases h1 : i = k + 1
    · exact .inl h1
    · by_cases h2 : k = 0 ∧ i + 1 = P.length
      · exact .inr h2
      · exact absurd hE (h.no i k (by omega) hi h2)
  · rcases hE with rfl | ⟨rfl, h1⟩
    · exact h.yes k hi
    · obtain rfl : i = m := by omega
      exact h0.1

/-- From a way on, the walk makes a ring. -/
theorem around_from {n : Nat} {gs : List Nat} {es : List (Int × Int)} (h : Adj n gs es) (hn : n ≤ 12) {L : Nat} (hL : L < 2 ^ n) (two : Two (fun a b : Nat => nearB es a b = true) L) : ∀ (f R m : Nat) (P : List Nat), P.length = m + 1 → Way (fun a b : Nat => nearB es a b = true) L P → (∀ b, R.testBit b = true ↔ L.testBit b = true ∧ b ∉ P) → R < f →
    RingL (fun a b : Nat => nearB es a b = true) (P ++ aroundN gs f R ((gs[atL P m]?.getD 0) &&& R)) ∧ ∀ x ∈ P ++ aroundN gs f R ((gs[atL P m]?.getD 0) &&& R), x < n
  | 0, R, m, P, _, _, _, hf => by omega
  | f + 1, R, m, P, hP, hw, hR, hf => by
    have hsym : ∀ a b : Nat, nearB es a b = true → nearB es b a = true := fun a b hab => by rw [nearB_comm]; exact hab
    have hirr : ∀ a : Nat, ¬ nearB es a a = true := fun a => by rw [nearB_self]; simp
    have inP : atL P m ∈ P := atL_mem (by omega)
    have hmn : atL P m < n := bit_lt hL (hw.mem _ inP)
    have hRL : Sub R L := fun b hb => ((hR b).1 hb).1
    have hR2 : R < 2 ^ n := Nat.lt_of_le_of_lt hRL.le hL
    have h16 : 2 ^ n ≤ 65536 := Nat.le_trans (Nat.pow_le_pow_right (by omega) hn) (by decide)
    have bit : ∀ b, ((gs[atL P m]?.getD 0) &&& R).testBit b = true ↔ nearB es (atL P m) b = true ∧ L.testBit b = true ∧ b ∉ P := by
      intro b
      rw [Nat.testBit_and, Bool.and_eq_true, h.bit _ b hmn, hR]
      constructor
      · rintro ⟨h1, h2⟩
        refine ⟨?_, h2⟩
        rw [Bool.or_eq_true, decide_eq_true_iff] at h1
        exact h1.resolve_left fun e => h2.2 (e ▸ inP)
      · rintro ⟨h1, h2⟩
        exact ⟨by rw [h1, Bool.or_true], h2⟩
    obtain ⟨nx, hnx⟩ : ∃ nx, (gs[atL P m]?.getD 0) &&& R = nx := ⟨_, rfl⟩
    rw [hnx] at bit ⊢
    have hnx2 : nx < 65536 := by rw [← hnx]; exact Nat.lt_of_le_of_lt Nat.and_le_right (by omega)
    by_cases h0 : nx = 0
    · rw [aroundN, if_pos h0, List.append_nil]
      refine ⟨way_end (E := fun a b : Nat => nearB es a b = true) hsym hirr two hP hw fun v hv hE => Classical.byContradiction fun hvP => not_zero ((bit v).2 ⟨hE, hv, hvP⟩) h0, fun x hx => bit_lt hL (hw.mem x hx)⟩
    · rw [aroundN, if_neg h0]
      obtain ⟨hb, _⟩ := tzN_bit hnx2 h0
      obtain ⟨v, hv⟩ : ∃ v, tzN nx = v := ⟨_, rfl⟩
      rw [hv] at hb ⊢
      have hb' := (bit v).1 hb
      have hvn : v < n := bit_lt hL hb'.2.1
      have hvR : R.testBit v = true := (hR v).2 hb'.2
      have hlt := less_without (v := v) (by omega) hvR
      have := around_from h hn hL two f (R &&& (65535 - 2 ^ v)) (m + 1) (P ++ [v]) (by rw [List.length_append, hP]; rfl) (way_step (E := fun a b : Nat => nearB es a b = true) hsym two hP hw hb'.2.1 hb'.2.2 hb'.1) (fun b => by
        rw [without_bit (by omega) (by omega), Bool.and_eq_true, hR, List.mem_append, List.mem_singleton]
        simp only [Bool.not_eq_true', decide_eq_false_iff_not]
        constructor
        · rintro ⟨⟨h1, h2⟩, h3⟩; exact ⟨h1, fun h => h.elim h2 fun e => h3 e.symm⟩
        · rintro ⟨h1, h2⟩; exact ⟨⟨h1, fun h => h2 (.inl h)⟩, fun e => h2 (.inr e.symm)⟩) (by omega)
      rw [show atL (P ++ [v]) (m + 1) = v by rw [← hP]; exact atL_new, List.append_assoc, List.singleton_append] at this
      exact this
theorem around_ring {n : Nat} {gs : List Nat} {es : List (Int × Int)} (h : Adj n gs es) (hn : n ≤ 12) {L f : Nat} (hL : L < 2 ^ n) (h0 : L ≠ 0) (two : Two (fun a b : Nat => nearB es a b = true) L) (hf : L < f) :
    RingL (fun a b : Nat => nearB es a b = true) (aroundN gs f L L) ∧ ∀ x ∈ aroundN gs f L L, x < n := by
  obtain ⟨f, rfl⟩ : ∃ k, f = k + 1 := ⟨f - 1, by omega⟩
  have h16 : 2 ^ n ≤ 65536 := Nat.le_trans (Nat.pow_le_pow_right (by omega) hn) (by decide)
  rw [aroundN, if_neg h0]
  obtain ⟨hb, _⟩ := tzN_bit (by omega) h0
  obtain ⟨v, hv⟩ : ∃ v, tzN L = v := ⟨_, rfl⟩
  rw [hv] at hb ⊢
  have hvn : v < n := bit_lt hL hb
  have hlt := less_without (v := v) (by omega) hb
  exact around_from h hn hL two f (L &&& (65535 - 2 ^ v)) 0 [v] rfl ⟨fun x hx => by rw [List.mem_singleton.1 hx]; exact hb, fun i k h1 h2 => by simp at h2; omega, fun k hk => by simp at hk, fun i k h1 h2 => by simp at h2; omega⟩ (fun b => by
    rw [without_bit (by omega) (by omega), Bool.and_eq_true, List.mem_singleton]
    simp only [Bool.not_eq_true', decide_eq_false_iff_not]
    exact ⟨fun ⟨h1, h2⟩ => ⟨h1, fun e => h2 e.symm⟩, fun ⟨h1, h2⟩ => ⟨h1, fun e => h2 e.symm⟩⟩) (by omega)
theorem ringR_of {es : List (Int × Int)} {l : List Nat} (h : RingL (fun a b : Nat => nearB es a b = true) l) : ringR es (l.map fun (x : Nat) => (x : Int)) = true := by
  have get : ∀ i, i < l.length → (l.map fun (x : Nat) => (x : Int))[i]?.getD 0 = ((atL l i : Nat) : Int) := fun i hi => by
    rw [atL, List.getElem?_map, List.getElem?_eq_getElem hi]; rfl
  rw [ringR, List.length_map, decide_eq_true h.1, Bool.true_and, List.all_eq_true]
  intro i hi
  rw [List.mem_range] at hi
  rw [List.all_eq_true]
  intro k hk
  rw [List.mem_range] at hk
  obtain ⟨h1, h2⟩ := h.2 i k hk hi
  rw [ringRAt, get i hi, get k (by omega), List.length_map, Bool.and_eq_true]
  refine ⟨by rw [Bool.not_eq_true', beq_eq_false_iff_ne]; omega, ?_⟩
  rw [beq_iff_eq, Bool.eq_iff_iff, nextR]
  simp only [] at h2
  rw [h2]
  simp
end

section
def nearE (es : List (Int × Int)) : Nat → Nat → Prop := fun a b => nearB es (a : Int) (b : Int) = true
theorem nearE_sym (es : List (Int × Int)) : ∀ a b, nearE es a b → nearE es b a := fun a b h => by unfold nearE; rw [nearB_comm]; exact h
theorem nearE_irr (es : List (Int × Int)) : ∀ a, ¬ nearE es a a := fun a => by unfold nearE; rw [nearB_self]; simp
theorem elimAt_iff {n : Nat} {gs : List Nat} {es : List (Int × Int)} (h : Adj n gs es) (hn : n ≤ 12) {T v : Nat} (hT : T < 2 ^ n) : elimAt gs T v = true ↔ Simp (nearE es) T v := by
  rw [elimAt, Bool.and_eq_true, Simp]
  refine and_congr_right fun hv => ?_
  have hvn : v < n := bit_lt hT hv
  rw [cliqueB_iff h hn (by rw [Nat.and_comm]; exact and_lt_pow hT)]
  have bit : ∀ b, (gs[v]?.getD 0 &&& T).testBit b = true ↔ (v = b ∨ nearE es v b) ∧ T.testBit b = true := fun b => by
    rw [Nat.testBit_and, Bool.and_eq_true, h.bit v b hvn, Bool.or_eq_true, decide_eq_true_iff]; rfl
  constructor
  · exact fun h1 a b ha hb h2 h3 hab => h1 a b ((bit a).2 ⟨.inr h2, ha⟩) ((bit b).2 ⟨.inr h3, hb⟩) hab
  · intro h1 a b ha hb hab
    obtain ⟨ha1, ha2⟩ := (bit a).1 ha
    obtain ⟨hb1, hb2⟩ := (bit b).1 hb
    rcases ha1 with rfl | ha1
    · rcases hb1 with rfl | hb1
      · exact absurd rfl hab
      · exact hb1
    · rcases hb1 with rfl | hb1
      · exact nearE_sym es _ _ ha1
      · exact h1 a b ha2 hb2 ha1 hb1 hab
theorem elimOf_iff {n : Nat} {gs : List Nat} {es : List (Int × Int)} (h : Adj n gs es) (hn : n ≤ 12) {T : Nat} (hT : T < 2 ^ n) : elimOf gs T ≠ none ↔ ∃ v, Simp (nearE es) T v := by
  constructor
  · intro hne
    obtain ⟨v, hv⟩ := Option.ne_none_iff_exists'.1 hne
    exact ⟨v, (elimAt_iff h hn hT).1 (elimOf_at hv)⟩
  · rintro ⟨v, hv⟩ e
    have := elimOf_none h e (bit_lt hT hv.1)
    rw [(elimAt_iff h hn hT).2 hv] at this
    cases this
theorem filter_more (s n : Nat) (hs : s < 2 ^ n) : ∀ m, ((List.range (n + m)).filter fun i => s.testBit i).length = ((List.range n).filter fun i => s.testBit i).length
  | 0 => rfl
  | m + 1 => by
    have h0 : s.testBit (n + m) = false := Nat.testBit_lt_two_pow (Nat.lt_of_lt_of_le hs (Nat.pow_le_pow_right (by omega) (by omega)))
    rw [show n + (m + 1) = (n + m) + 1 by omega, List.range_succ, List.filter_append, List.length_append, filter_more s n hs m]
    simp [h0]
theorem cnt_bits {s n : Nat} (hs : s < 2 ^ n) (hn : n ≤ 16) : cntN s = (bitsN s n).length := by
  have := filter_more s n hs (16 - n)
  rw [show n + (16 - n) = 16 by omega] at this
  exact this
/-- Is a set chordal, as the program counts. -/
def chdB (gs : List Nat) (s : Nat) : Bool := decide ((elimAll gs (s + 1) s).length = cntN s)
theorem chdB_iff {n : Nat} {gs : List Nat} {es : List (Int × Int)} (h : Adj n gs es) (hn : n ≤ 12) {s : Nat} (hs : s < 2 ^ n) : chdB gs s = true ↔ Chd (nearE es) n s := by
  rw [chdB, decide_eq_true_iff, cnt_bits hs (by omega), chordal_iff h hn hs (Nat.lt_succ_self s)]
  exact ⟨fun k T hT h0 hsub => (elimOf_iff h hn hT).1 (k T hT h0 hsub), fun k T hT h0 hsub => (elimOf_iff h hn hT).2 (k T hT h0 hsub)⟩
/-- What 'ring' leaves out. -/
def dropB (gs : List Nat) (L v : Nat) : Nat := if chdB gs (L &&& (65535 - 2 ^ v)) = true then L else L &&& (65535 - 2 ^ v)
def ringTo (gs : List Nat) (F k : Nat) : Nat := (List.range k).foldl (dropB gs) F
theorem ringTo_succ (gs : List Nat) (F k : Nat) : ringTo gs F (k + 1) = dropB gs (ringTo gs F k) k := by rw [ringTo, List.range_succ, List.foldl_append]; rfl
theorem dropB_le (gs : List Nat) (L v : Nat) : dropB gs L v ≤ L := by
  unfold dropB
  split
  · exact Nat.le_refl _
  · exact Nat.and_le_left
theorem ringTo_le (gs : List Nat) (F : Nat) : ∀ k, ringTo gs F k ≤ F
  | 0 => Nat.le_refl _
  | k + 1 => by rw [ringTo_succ]; exact Nat.le_trans (dropB_le _ _ _) (ringTo_le gs F k)
theorem ring_inv {n : Nat} {gs : List Nat} {es : List (Int × Int)} (h : Adj n gs es) (hn : n ≤ 12) {F : Nat} (hF : F < 2 ^ n) (hno : ¬ Chd (nearE es) n F) : ∀ k, k ≤ n → ¬ Chd (nearE es) n (ringTo gs F k) ∧ ∀ v, v < k → (ringTo gs F k).testBit v = true → Chd (nearE es) n (ringTo gs F k &&& (65535 - 2 ^ v))
  | 0, _ => ⟨hno, fun v hv => by omega⟩
  | k + 1, hk => by
    obtain ⟨h1, h2⟩ := ring_inv h hn hF hno k (by omega)
    have hlt : ringTo gs F k < 2 ^ n := Nat.lt_of_le_of_lt (ringTo_le gs F k) hF
    have h16 : 2 ^ n ≤ 65536 := Nat.le_trans (Nat.pow_le_pow_right (by omega) hn) (by decide)
    rw [ringTo_succ]
    obtain ⟨L, hL⟩ : ∃ L, ringTo gs F k = L := ⟨_, rfl⟩
    rw [hL] at h1 h2 hlt ⊢
    have hiff := chdB_iff h hn (s := L &&& (65535 - 2 ^ k)) (Nat.lt_of_le_of_lt Nat.and_le_left hlt)
    unfold dropB
    by_cases hc : chdB gs (L &&& (65535 - 2 ^ k)) = true
    · rw [if_pos hc]
      refine ⟨h1, fun v hv hvL => ?_⟩
      rcases Nat.lt_or_ge v k with h' | h'
      · exact h2 v h' hvL
      · obtain rfl : v = k := by omega
        exact hiff.1 hc
    · rw [if_neg hc]
      refine ⟨fun k' => hc (hiff.2 k'), fun v hv hvL => ?_⟩
      rw [without_bit (by omega) (by omega), Bool.and_eq_true] at hvL
      have hvk : v ≠ k := fun e => by subst e; simp at hvL
      refine (h2 v (by omega) hvL.1).sub fun b hb => ?_
      have hlt2 : L &&& (65535 - 2 ^ k) < 65536 := Nat.lt_of_le_of_lt Nat.and_le_left (by omega)
      rw [without_bit (by omega) hlt2, without_bit (by omega) (by omega), Bool.and_eq_true, Bool.and_eq_true] at hb
      rw [without_bit (by omega) (by omega), Bool.and_eq_true]
      exact ⟨hb.1.1, hb.2⟩
theorem ring_two {n : Nat} {gs : List Nat} {es : List (Int × Int)} (h : Adj n gs es) (hn : n ≤ 12) {F : Nat} (hF : F < 2 ^ n) (hno : ¬ Chd (nearE es) n F) : ringTo gs F n < 2 ^ n ∧ ringTo gs F n ≠ 0 ∧ Two (nearE es) (ringTo gs F n) := by
  obtain ⟨h1, h2⟩ := ring_inv h hn hF hno n (Nat.le_refl _)
  have hlt : ringTo gs F n < 2 ^ n := Nat.lt_of_le_of_lt (ringTo_le gs F n) hF
  have h16 : 2 ^ n ≤ 65536 := Nat.le_trans (Nat.pow_le_pow_right (by omega) hn) (by decide)
  obtain ⟨L, hL⟩ : ∃ L, ringTo gs F n = L := ⟨_, rfl⟩
  rw [hL] at h1 h2 hlt ⊢
  have hmin : ∀ T, T < 2 ^ n → Sub T L → T ≠ L → Chd (nearE es) n T := by
    intro T hT hsub hne
    have : ∃ v, L.testBit v = true ∧ ¬ T.testBit v = true := by
      refine Classical.byContradiction fun hno => hne (Nat.eq_of_testBit_eq fun b => ?_)
      rw [Bool.eq_iff_iff]
      exact ⟨hsub b, fun hb => Classical.byContradiction fun hx => hno ⟨b, hb, hx⟩⟩
    obtain ⟨v, hv, hvT⟩ := this
    refine (h2 v (bit_lt hlt hv) hv).sub fun b hb => ?_
    have hvn := bit_lt hlt hv
    rw [without_bit (by omega) (by omega), hsub b hb]
    have : v ≠ b := fun e => hvT (e ▸ hb)
    simpa using this
  have hst : ∀ v, ¬ Simp (nearE es) L v := by
    intro v hv
    refine h1 fun T hT h0 hsub => ?_
    by_cases e : T = L
    · subst e; exact ⟨v, hv⟩
    · exact hmin T hT hsub e T hT h0 (Sub.refl T)
  refine ⟨hlt, fun e => h1 fun T hT h0 hsub => ?_, two_from (nearE_sym es) fun v hv => two_near (nearE_sym es) (nearE_irr es) hlt hst hmin hv⟩
  subst e
  obtain ⟨b, hb⟩ := some_bit h0
  have := hsub b hb
  rw [Nat.zero_testBit] at this; cases this
/-- What 'Ring' hands back. -/
def ringOf (n : Nat) (gs : List Nat) : List Nat := aroundN gs (ringTo gs (2 ^ n - 1) n + 1) (ringTo gs (2 ^ n - 1) n) (ringTo gs (2 ^ n - 1) n)
theorem full_lt (n : Nat) : 2 ^ n - 1 < 2 ^ n := Nat.sub_lt (Nat.pow_pos (by omega)) (by omega)
theorem ringL_len {E : Nat → Nat → Prop} {l : List Nat} {n : Nat} (h : RingL E l) (hlt : ∀ x ∈ l, x < n) : l.length ≤ n := by
  have hnd : l.Nodup := by
    rw [List.Nodup, List.pairwise_iff_getElem]
    intro i j hi hj hij
    have := (h.2 j i hij hj).1
    rw [atL, atL, List.getElem?_eq_getElem hi, List.getElem?_eq_getElem hj] at this
    exact fun e => this e.symm
  have := List.Nodup.length_le_of_subset hnd (l₂ := List.range n) fun x hx => List.mem_range.2 (hlt x hx)
  simpa using this
theorem ringOf_good {n : Nat} {gs : List Nat} {es : List (Int × Int)} (h : Adj n gs es) (hn : n ≤ 12) (hno : chdB gs (2 ^ n - 1) = false) : ringR es ((ringOf n gs).map fun (x : Nat) => (x : Int)) = true ∧ (∀ x ∈ ringOf n gs, x < n) ∧ (ringOf n gs).length ≤ n := by
  have hno' : ¬ Chd (nearE es) n (2 ^ n - 1) := fun k => by
    rw [(chdB_iff h hn (full_lt n)).2 k] at hno; cases hno
  obtain ⟨h1, h2, h3⟩ := ring_two h hn (full_lt n) hno'
  obtain ⟨k1, k2⟩ := around_ring h hn h1 h2 h3 (Nat.lt_succ_self _)
  exact ⟨ringR_of k1, k2, ringL_len k1 k2⟩
theorem aroundN_len (gs : List Nat) : ∀ (f R nx : Nat), (aroundN gs f R nx).length ≤ f
  | 0, _, _ => Nat.le_refl _
  | f + 1, R, nx => by
    rw [aroundN]
    split
    · simp
    · rw [List.length_cons]; have := aroundN_len gs f (R &&& (65535 - 2 ^ tzN nx)) ((gs[tzN nx]?.getD 0) &&& (R &&& (65535 - 2 ^ tzN nx))); omega
theorem full_bitsN (n : Nat) : bitsN (2 ^ n - 1) n = List.range n := by
  rw [bitsN, List.filter_eq_self]
  intro b hb
  rw [full_bits, decide_eq_true_iff]
  exact List.mem_range.1 hb
theorem chord_chdB {n : Nat} {gs : List Nat} {es : List (Int × Int)} (h : Adj n gs es) (hn : n ≤ 12) : chordR es n = chdB gs (2 ^ n - 1) := by
  rw [chord_same h hn, chdB, cnt_bits (full_lt n) (by omega), full_bitsN, List.length_range, ordN]
/-- The order is made of nodes that are left, each once, and each can be eliminated in its turn. -/
theorem elimAll_order {n : Nat} {gs : List Nat} {es : List (Int × Int)} (h : Adj n gs es) (hn : n ≤ 12) : ∀ (f s : Nat), s < 2 ^ n → (elimAll gs f s).Nodup ∧ (∀ x ∈ elimAll gs f s, s.testBit x = true) ∧ elimFrom gs s (elimAll gs f s) = true
  | 0, s, _ => ⟨List.nodup_nil, fun x hx => by simp [elimAll] at hx, rfl⟩
  | f + 1, s, hs => by
    rw [elimAll]
    cases he : elimOf gs s with
    | none => exact ⟨List.nodup_nil, fun x hx => by simp at hx, rfl⟩
    | some v =>
      have hv := elimOf_some he
      rw [h.len] at hv
      have hat := elimOf_at he
      rw [elimAt, Bool.and_eq_true] at hat
      have h16 : 2 ^ n ≤ 65536 := Nat.le_trans (Nat.pow_le_pow_right (by omega) hn) (by decide)
      obtain ⟨h1, h2, h3⟩ := elimAll_order h hn f (s &&& (65535 - 2 ^ v)) (Nat.lt_of_le_of_lt Nat.and_le_left hs)
      have bit : ∀ x ∈ elimAll gs f (s &&& (65535 - 2 ^ v)), s.testBit x = true ∧ v ≠ x := fun x hx => by
        have := h2 x hx
        rw [without_bit (by omega) (by omega), Bool.and_eq_true] at this
        exact ⟨this.1, by simpa using this.2⟩
      refine ⟨List.nodup_cons.2 ⟨fun hm => (bit v hm).2 rfl, h1⟩, fun x hx => ?_, ?_⟩
      · rcases List.mem_cons.1 hx with rfl | hx
        · exact hv.2
        · exact (bit x hx).1
      · rw [elimFrom, hat.2, h3]; rfl
theorem perm_nat {n : Nat} {O : List Nat} (hnd : O.Nodup) (hlt : ∀ x ∈ O, x < n) (hl : O.length = n) : permR (O.map fun (x : Nat) => (x : Int)) n = true := by
  have get : ∀ i (hi : i < O.length), (O.map fun (x : Nat) => (x : Int))[i]?.getD 0 = ((O[i] : Nat) : Int) := fun i hi => by
    rw [List.getElem?_map, List.getElem?_eq_getElem hi]; rfl
  simp only [permR, newR, inR, Bool.and_eq_true, List.all_eq_true, List.mem_range, decide_eq_true_eq, Bool.not_eq_true', beq_eq_false_iff_ne, List.length_map]
  refine ⟨fun i hi => ?_, by omega⟩
  have hx := hlt _ (List.getElem_mem hi)
  rw [get i hi]
  refine ⟨by omega, fun k hk => ?_⟩
  rw [get k (by omega)]
  intro e
  have := (List.getElem_inj (h₀ := show k < O.length by omega) (h₁ := hi) hnd).1 (by omega)
  omega
/-- The order of a chordal graph is a permutation, and an elimination order. -/
theorem order_good {n : Nat} {gs : List Nat} {es : List (Int × Int)} (h : Adj n gs es) (hn : n ≤ 12) (hc : (ordN n gs).length = n) : permR (ordI n gs) n = true ∧ elimR es (ordI n gs) = true := by
  obtain ⟨h1, h2, h3⟩ := elimAll_order h hn (2 ^ n - 1 + 1) (2 ^ n - 1) (full_lt n)
  have hlt : ∀ x ∈ ordN n gs, x < n := fun x hx => bit_lt (full_lt n) (h2 x hx)
  refine ⟨perm_nat h1 hlt hc, ?_⟩
  have := elim_same h hn (ordN n gs) (2 ^ n - 1) h1 hlt (full_lt n) fun b => by
    rw [full_bits, decide_eq_true_iff]
    refine ⟨fun hb => ?_, fun hb => hlt b hb⟩
    have hp := nodup_perm h1 (L := List.range n) (fun x hx => List.mem_range.2 (hlt x hx)) (by rw [List.length_range]; exact Nat.le_of_eq hc.symm)
    exact hp.mem_iff.2 (List.mem_range.2 hb)
  rw [← ordI] at this
  rw [← this]
  exact h3
end

end Go.Proofs.Yteckeobhlfddlaa.Rib
