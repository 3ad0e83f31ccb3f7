/-
  Pure: colours. The nodes of an elimination order, the last one first, each get the least colour that is free.
-/
import Derived.Test.YthlbedhjekbfpaaDoorWb
namespace Go.Proofs.YthlbedhjekbfpaaDoor

def takN (cl L : List Nat) : Nat := L.foldl (fun t w => t ||| 2 ^ (cl[w]?.getD 0)) 0
theorem takN_snoc (cl L : List Nat) (w : Nat) : takN cl (L ++ [w]) = takN cl L ||| 2 ^ (cl[w]?.getD 0) := by simp [takN, List.foldl_append]
theorem takN_bit' (cl : List Nat) : ∀ (L : List Nat) (t c : Nat), (L.foldl (fun t w => t ||| 2 ^ (cl[w]?.getD 0)) t).testBit c = true ↔ t.testBit c = true ∨ ∃ w ∈ L, cl[w]?.getD 0 = c
  | [], t, c => by simp
  | w :: L, t, c => by
    rw [List.foldl_cons, takN_bit' cl L, Nat.testBit_or, Nat.testBit_two_pow, Bool.or_eq_true, decide_eq_true_iff]
    constructor
    · rintro ((h | h) | ⟨x, hx, h⟩)
      · exact .inl h
      · exact .inr ⟨w, by simp, h⟩
      · exact .inr ⟨x, by simp [hx], h⟩
    · rintro (h | ⟨x, hx, h⟩)
      · exact .inl (.inl h)
      · rcases List.mem_cons.1 hx with rfl | hx
        · exact .inl (.inr h)
        · exact .inr ⟨x, hx, h⟩
theorem takN_bit (cl L : List Nat) (c : Nat) : (takN cl L).testBit c = true ↔ ∃ w ∈ L, cl[w]?.getD 0 = c := by
  rw [takN, takN_bit']; simp
theorem takN_lt (cl L : List Nat) (h : ∀ w : Nat, cl[w]?.getD 0 < 16) : takN cl L < 65536 := Nat.lt_pow_two_of_testBit (n := 16) _ fun j hj => by
  rw [Bool.eq_false_iff]; intro e
  obtain ⟨w, _, e⟩ := (takN_bit cl L j).1 e
  have := h w; omega
theorem tzN_least {s c : Nat} (hc : c < 16) (h : s.testBit c = true) : tzN s ≤ c := by
  unfold tzN
  cases hf : (List.range 16).find? fun i => s.testBit i with
  | none => exact absurd h (List.find?_eq_none.1 hf c (List.mem_range.2 hc))
  | some k =>
    obtain ⟨k1, k2, k3⟩ := List.find?_range_eq_some.1 hf
    rw [Option.getD_some]
    by_cases hck : c < k
    · have := k3 c hck
      simp [h] at this
    · omega
/-- Among as many colours as there are nodes, and one more, one is free. -/
theorem tak_free (cl L : List Nat) : ∃ c, c ≤ L.length ∧ (takN cl L).testBit c = false := by
  refine Classical.byContradiction fun hno => ?_
  have hall : ∀ c, c ≤ L.length → (takN cl L).testBit c = true := fun c hc => by
    cases h : (takN cl L).testBit c with
    | true => rfl
    | false => exact absurd ⟨c, hc, h⟩ hno
  have := List.Nodup.length_le_of_subset (List.nodup_range (n := L.length + 1)) (l₂ := L.map fun w => cl[w]?.getD 0) fun c hc => by
    obtain ⟨w, hw, e⟩ := (takN_bit cl L c).1 (hall c (by have := List.mem_range.1 hc; omega))
    exact List.mem_map.2 ⟨w, hw, e⟩
  rw [List.length_range, List.length_map] at this
  omega
theorem tak_tz (cl L : List Nat) (hL : L.length ≤ 12) (h : ∀ w : Nat, cl[w]?.getD 0 < 16) : tzN (65535 - takN cl L) ≤ L.length ∧ (takN cl L).testBit (tzN (65535 - takN cl L)) = false := by
  obtain ⟨c, hc, hf⟩ := tak_free cl L
  have hlt := takN_lt cl L h
  have hb : (65535 - takN cl L).testBit c = true := by rw [testBit_comp hlt, hf, decide_eq_true (by omega : c < 16)]; rfl
  have h0 : 65535 - takN cl L ≠ 0 := fun e => by rw [e, Nat.zero_testBit] at hb; cases hb
  obtain ⟨h1, h2⟩ := tzN_bit (s := 65535 - takN cl L) (by omega) h0
  rw [testBit_comp hlt, Bool.and_eq_true, Bool.not_eq_true'] at h1
  exact ⟨Nat.le_trans (tzN_least (by omega) hb) hc, h1.2⟩
def colStep (gs : List Nat) (s : List Nat × Nat) (v : Nat) : List Nat × Nat := (s.1.set v (tzN (65535 - takN s.1 (listN ((gs[v]?.getD 0) &&& s.2)))), s.2 ||| 2 ^ v)
def colTo (gs : List Nat) (n : Nat) (L : List Nat) : List Nat × Nat := L.foldl (colStep gs) (List.replicate n 0, 0)
theorem colTo_snoc (gs : List Nat) (n : Nat) (L : List Nat) (v : Nat) : colTo gs n (L ++ [v]) = colStep gs (colTo gs n L) v := by simp [colTo, List.foldl_append]
theorem listN_len (s : Nat) : (listN s).length ≤ 12 := by
  have := listI_len s
  rwa [listI, List.length_map] at this
theorem colSet_lt {cl : List Nat} {B v c : Nat} (h : ∀ w : Nat, cl[w]?.getD 0 < B) (hc : c < B) (w : Nat) : (cl.set v c)[w]?.getD 0 < B := by
  by_cases e : v = w
  · subst e
    by_cases hv : v < cl.length
    · rw [List.getElem?_set_self hv]; exact hc
    · rw [List.getElem?_eq_none (by rw [List.length_set]; omega)]; exact Nat.lt_of_le_of_lt (Nat.zero_le _) hc
  · rw [List.getElem?_set_ne e]; exact h w
theorem colTo_lt (gs : List Nat) (n : Nat) : ∀ (L : List Nat) (s : List Nat × Nat), (∀ w : Nat, s.1[w]?.getD 0 < 16) → ∀ w : Nat, (L.foldl (colStep gs) s).1[w]?.getD 0 < 16
  | [], _, h => h
  | v :: L, s, h => by
    rw [List.foldl_cons]
    refine colTo_lt gs n L _ (colSet_lt h ?_)
    have := (tak_tz s.1 (listN ((gs[v]?.getD 0) &&& s.2)) (listN_len _) h).1
    have := listN_len ((gs[v]?.getD 0) &&& s.2)
    omega
theorem col_lt (gs : List Nat) (n : Nat) (L : List Nat) (w : Nat) : (colTo gs n L).1[w]?.getD 0 < 16 := colTo_lt gs n L _ (fun w => by
  by_cases hw : w < n
  · simp [hw]
  · rw [List.getElem?_eq_none (by rw [List.length_replicate]; omega)]; decide) w
theorem col_len (gs : List Nat) (n : Nat) (L : List Nat) : (colTo gs n L).1.length = n := by
  have h : ∀ (L : List Nat) (s : List Nat × Nat), (L.foldl (colStep gs) s).1.length = s.1.length := by
    intro L
    induction L with
    | nil => intro s; rfl
    | cons v L ih => intro s; rw [List.foldl_cons, ih, colStep, List.length_set]
  rw [colTo, h, List.length_replicate]
theorem col_set {gs : List Nat} {n : Nat} : ∀ (L : List Nat), (∀ v ∈ L, v < 16) → (colTo gs n L).2 < 65536 := by
  have h : ∀ (L : List Nat) (s : List Nat × Nat), s.2 < 65536 → (∀ v ∈ L, v < 16) → (L.foldl (colStep gs) s).2 < 65536 := by
    intro L
    induction L with
    | nil => intro s hs _; exact hs
    | cons v L ih =>
      intro s hs hL
      rw [List.foldl_cons]
      refine ih _ ?_ fun x hx => hL x (by simp [hx])
      have hv := hL v (by simp)
      exact Nat.or_lt_two_pow (n := 16) hs (Nat.pow_lt_pow_right (by omega) hv)
  exact fun L hL => h L _ (by show 0 < 65536; omega) hL
theorem col_bits (gs : List Nat) (n : Nat) (L : List Nat) (u : Nat) : (colTo gs n L).2.testBit u = true ↔ u ∈ L := by
  have h : ∀ (L : List Nat) (s : List Nat × Nat), (L.foldl (colStep gs) s).2.testBit u = true ↔ s.2.testBit u = true ∨ u ∈ L := by
    intro L
    induction L with
    | nil => intro s; simp
    | cons v L ih =>
      intro s
      rw [List.foldl_cons, ih, colStep, Nat.testBit_or, Nat.testBit_two_pow, Bool.or_eq_true, decide_eq_true_iff, List.mem_cons, or_assoc, eq_comm (a := v)]
  rw [colTo, h]
  simp
/-- What holds of the nodes that have colours. -/
structure ColI (es : List (Int × Int)) (n M : Nat) (O : List Nat) (s : List Nat × Nat) : Prop where
  set : ∀ b, s.2.testBit b = true ↔ b ∈ O
  lt : ∀ a ∈ O, s.1[a]?.getD 0 < M
  ne : ∀ a ∈ O, ∀ b ∈ O, nearE es a b → s.1[a]?.getD 0 ≠ s.1[b]?.getD 0
theorem col_inv {n M : Nat} {gs : List Nat} {es : List (Int × Int)} (h : Adj n gs es) (hn : n ≤ 12) (hM : ∀ K : List Nat, K.Nodup → (∀ a ∈ K, a < n) → (∀ a ∈ K, ∀ b ∈ K, a ≠ b → nearE es a b) → K.length ≤ M) :
    ∀ O : List Nat, O.Nodup → (∀ v ∈ O, v < n) → elimR es (O.map fun (x : Nat) => (x : Int)) = true → ColI es n M O (colTo gs n O.reverse)
  | [], _, _, _ => ⟨fun b => by simp [colTo], fun a ha => by simp at ha, fun a ha => by simp at ha⟩
  | v :: O, hnd, hlt, he => by
    rw [List.map_cons, elimR, Bool.and_eq_true] at he
    obtain ⟨hv, hnd'⟩ := List.nodup_cons.1 hnd
    have hvn : v < n := hlt v (by simp)
    have ih := col_inv h hn hM O hnd' (fun x hx => hlt x (by simp [hx])) he.2
    have hc := (cliqueR_mem ((List.pairwise_map.2 (hnd'.imp fun hne e => hne (Int.ofNat_inj.1 e))).sublist List.filter_sublist)).1 he.1
    have hlen := col_len gs n O.reverse
    have hl16 := col_lt gs n O.reverse
    rw [List.reverse_cons, colTo_snoc]
    generalize colTo gs n O.reverse = s at ih hlen hl16
    obtain ⟨cl, C⟩ := s
    have hL : ∀ w, w ∈ listN ((gs[v]?.getD 0) &&& C) ↔ w ∈ O ∧ nearE es v w := fun w => by
      rw [listN_bit, Nat.testBit_and, Bool.and_eq_true, h.bit v w hvn, Bool.or_eq_true, decide_eq_true_iff, ih.set w]
      constructor
      · rintro ⟨_, h1 | h1, h2⟩
        · subst h1; exact absurd h2 hv
        · exact ⟨h2, h1⟩
      · rintro ⟨h1, h2⟩
        have := hlt w (by simp [h1])
        exact ⟨by omega, .inr h2, h1⟩
    have hLn : (listN ((gs[v]?.getD 0) &&& C)).Nodup := List.nodup_range.sublist List.filter_sublist
    have hLl := listN_len ((gs[v]?.getD 0) &&& C)
    unfold colStep
    simp only [] at ih hlen hl16 ⊢
    generalize listN ((gs[v]?.getD 0) &&& C) = L at hL hLn hLl ⊢
    obtain ⟨t1, t2⟩ := tak_tz cl L hLl hl16
    have hK := hM (v :: L) (List.nodup_cons.2 ⟨fun hm => hv ((hL v).1 hm).1, hLn⟩) (fun a ha => by
        rcases List.mem_cons.1 ha with rfl | ha
        · exact hvn
        · exact hlt a (by simp [((hL a).1 ha).1])) (fun a ha b hb hab => by
        rcases List.mem_cons.1 ha with h1 | h1 <;> rcases List.mem_cons.1 hb with h2 | h2
        · exact absurd (h1.trans h2.symm) hab
        · rw [h1]; exact ((hL b).1 h2).2
        · rw [h2]; exact nearE_sym es _ _ ((hL a).1 h1).2
        · refine hc a (List.mem_filter.2 ⟨List.mem_map.2 ⟨a, ((hL a).1 h1).1, rfl⟩, ((hL a).1 h1).2⟩) b (List.mem_filter.2 ⟨List.mem_map.2 ⟨b, ((hL b).1 h2).1, rfl⟩, ((hL b).1 h2).2⟩) (by omega))
    rw [List.length_cons] at hK
    obtain ⟨c, hc'⟩ : ∃ c, tzN (65535 - takN cl L) = c := ⟨_, rfl⟩
    rw [hc'] at t1 t2 ⊢
    have self : (cl.set v c)[v]?.getD 0 = c := by rw [List.getElem?_set_self (by omega)]; rfl
    have other : ∀ w, w ∈ O → (cl.set v c)[w]?.getD 0 = cl[w]?.getD 0 := fun w hw => by
      rw [List.getElem?_set_ne (fun e => hv (by rw [e]; exact hw))]
    have free : ∀ w, w ∈ O → nearE es v w → cl[w]?.getD 0 ≠ c := fun w hw hE e => by
      have := (takN_bit cl L c).2 ⟨w, (hL w).2 ⟨hw, hE⟩, e⟩
      rw [t2] at this; cases this
    refine ⟨fun b => ?_, fun a ha => ?_, fun a ha b hb hE => ?_⟩
    · simp only []
      rw [Nat.testBit_or, Nat.testBit_two_pow, Bool.or_eq_true, decide_eq_true_iff, ih.set b, List.mem_cons]
      constructor
      · rintro (h1 | rfl)
        · exact .inr h1
        · exact .inl rfl
      · rintro (rfl | h1)
        · exact .inr rfl
        · exact .inl h1
    · simp only []
      rcases List.mem_cons.1 ha with rfl | ha
      · rw [self]; omega
      · rw [other a ha]; exact ih.lt a ha
    · simp only []
      rcases List.mem_cons.1 ha with h1 | h1 <;> rcases List.mem_cons.1 hb with h2 | h2
      · rw [h1, h2] at hE; exact absurd hE (nearE_irr es _)
      · rw [h1] at hE ⊢; rw [self, other b h2]; exact fun e => free b h2 hE e.symm
      · rw [h2] at hE ⊢; rw [self, other a h1]; exact free a h1 (nearE_sym es _ _ hE)
      · rw [other a h1, other b h2]; exact ih.ne a h1 b h2 hE

end Go.Proofs.YthlbedhjekbfpaaDoor
