/-
  The patterns of equal angles, and every ranking of up to six positions: counted and tried by the kernel.
-/
import Derived.Test.YteankhgikpejhaaPa
import Derived.Test.YteankhgikpejhaaFq
namespace Go.Proofs.Yteankhgikpejhaa
open Go.Sort

/-- The segment before one, and behind one, round a vertex. -/
def prv (n : Nat) : Nat → Nat
  | 0 => Nat.pred n
  | k + 1 => k
def nxt (n s : Nat) : Nat := cond (Nat.beq (Nat.succ s) n) 0 (Nat.succ s)
def crW (n : Nat) (s : Int) (j : Nat) : Cr := ⟨prv n j, j, if j % 2 = 1 then s else 0⟩
theorem crs_vtx (m : Nat) (s : Int) : (vtxCl (List.replicate (m + 1) s)).crs = (List.range (m + 1)).map (crW (m + 1) s) := by
  rw [vtxCl, crs_one, List.range_succ_eq_map, List.map_cons, List.map_map]
  simp only [List.length_replicate, Nat.add_sub_cancel]
  congr 1
theorem prv_lt {n j : Nat} (h : j < n) : prv n j < n := by
  cases j <;> simp [prv] <;> omega
theorem nxt_lt {n j : Nat} (h : j < n) : nxt n j < n := by
  rw [nxt]
  cases e : Nat.beq (Nat.succ j) n with
  | true => show 0 < n; omega
  | false => show j + 1 < n; have := Nat.ne_of_beq_eq_false e; omega
theorem prv_nxt {n j : Nat} (h : j < n) : prv n (nxt n j) = j := by
  rw [nxt]
  cases e : Nat.beq (Nat.succ j) n with
  | true => have := Nat.eq_of_beq_eq_true e; show n - 1 = j; omega
  | false => rfl
theorem nxt_prv {n j : Nat} (h : j < n) : nxt n (prv n j) = j := by
  cases j with
  | zero => rw [nxt, prv, show Nat.succ (Nat.pred n) = n from by show n - 1 + 1 = n; omega]; rw [show Nat.beq n n = true from by simp]; rfl
  | succ k => rw [nxt, prv]; cases e : Nat.beq (Nat.succ k) n with
    | true => have := Nat.eq_of_beq_eq_true e; omega
    | false => rfl

def fitV (n : Nat) (M R : List Nat) (s : Nat) : Bool :=
  and (Nat.beq (nth M s) 0) (and (okN M R (nth M (prv n s)) (Nat.beq (Nat.mod s 2) 1)) (okN M R (nth M (nxt n s)) (Nat.beq (Nat.mod (nxt n s) 2) 1)))

theorem pairX_vtx (n m : Nat) (M : List Nat) (hM : M.length = n) (hn : n % 2 = 0) (h2 : 2 ≤ n) (a : Nat) :
    pairX m (cond (Nat.beq (a % 2) 1) M (nth M (Nat.pred n) :: M)) = true ↔ ∃ i, i < n ∧ i % 2 = a % 2 ∧ Nat.blt m (nth M (prv n i)) ≠ Nat.blt m (nth M i) := by
  rcases Nat.mod_two_eq_zero_or_one a with h | h
  · rw [h, show Nat.beq 0 1 = false from rfl, cond_false, pairX_iff]
    constructor
    · rintro ⟨i, h1, h2, h3⟩
      simp only [List.length_cons, hM] at h2
      refine ⟨i, by omega, h1, ?_⟩
      cases i with
      | zero => exact h3
      | succ k => exact h3
    · rintro ⟨i, h1, h2, h3⟩
      refine ⟨i, h2, by simp only [List.length_cons, hM]; omega, ?_⟩
      cases i with
      | zero => exact h3
      | succ k => exact h3
  · rw [h, show Nat.beq 1 1 = true from rfl, cond_true, pairX_iff]
    constructor
    · rintro ⟨i, h1, h2, h3⟩
      exact ⟨i + 1, by omega, by omega, h3⟩
    · rintro ⟨i, h1, h2, h3⟩
      obtain ⟨j, rfl⟩ : ∃ j, i = j + 1 := ⟨i - 1, by omega⟩
      exact ⟨j, by omega, by omega, h3⟩

theorem crossed_vtx {n : Nat} {s : Int} {L : List Int} {M : List Nat} (h : Rep L M) (hM : M.length = n) (hn : n % 2 = 0) (h2 : 2 ≤ n) (a : Nat) (ha : a < n) (m : Nat) (hm : max (nth M (prv n a)) (nth M a) = m) :
    crossedB ((List.range n).map (crW n s)) L (crW n s a) = pairX m (cond (Nat.beq (a % 2) 1) M (nth M (Nat.pred n) :: M)) := by
  have hp := prv_lt ha
  have e : max (L[prv n a]?.getD 0) (L[a]?.getD 0) = (m : Int) - 1 := by rw [h.at (by omega), h.at (by omega)]; omega
  rw [Bool.eq_iff_iff, pairX_vtx n m M hM hn h2, crossedB, List.any_map, List.any_eq_true]
  simp only [crW, e, Function.comp, crossB, Cr.beside, Bool.and_eq_true, decide_eq_true_eq, bne_iff_ne, List.mem_range]
  have key : ∀ i, i < n → ((decide ((m : Int) - 1 < L[prv n i]?.getD 0) ≠ decide ((m : Int) - 1 < L[i]?.getD 0)) ↔ Nat.blt m (nth M (prv n i)) ≠ Nat.blt m (nth M i)) := by
    intro i hi
    have hpi := prv_lt hi
    have b : ∀ x : Nat, decide ((m : Int) - 1 < (x : Int) - 1) = Nat.blt m x := by
      intro x; rw [Bool.eq_iff_iff, decide_eq_true_eq, Nat.blt_eq]; omega
    rw [h.at (by omega), h.at (by omega), b, b]
  constructor
  · rintro ⟨i, hi, ⟨_, hp⟩, hx⟩
    exact ⟨i, hi, of_decide_eq_true hp, (key i hi).1 hx⟩
  · rintro ⟨i, hi, hp, hx⟩
    exact ⟨i, hi, ⟨by simp [hp], decide_eq_true hp⟩, (key i hi).2 hx⟩

theorem fits_vtx {n : Nat} {s : Int} (hs : 1 ≤ s) {L : List Int} {M : List Nat} (h : Rep L M) (hM : M.length = n) (hn : n % 2 = 0) (h2 : 2 ≤ n) (j : Nat) (hj : j < n) :
    (L[j]?.getD 0 == -1 && fitsB (vtxCl (List.replicate n s)) L j) = fitV n M (nth M (Nat.pred n) :: M) j := by
  have e0 : (L[j]?.getD 0 == -1) = Nat.beq (nth M j) 0 := by
    rw [h.at (by omega), Bool.eq_iff_iff, Nat.beq_eq, beq_iff_eq]; omega
  rw [fitV, e0]
  cases hz : Nat.beq (nth M j) 0 with
  | false => rfl
  | true =>
    rw [Nat.beq_eq] at hz
    have hcr : (vtxCl (List.replicate n s)).crs = (List.range n).map (crW n s) := by
      obtain ⟨m, rfl⟩ : ∃ m, n = m + 1 := ⟨n - 1, by omega⟩
      exact crs_vtx m s
    rw [Bool.true_and, Bool.true_and, fitsB, hcr]
    have hf : ∀ a, a < n → (fitB ((List.range n).map (crW n s)) (vtxCl (List.replicate n s)).low (vtxCl (List.replicate n s)).high L j (crW n s a) = true ↔
        ((nth M (prv n a) = 0 ↔ nth M a = 0) ∨ ¬ (j = prv n a ∨ j = a) ∨ pairX (max (nth M (prv n a)) (nth M a)) (cond (Nat.beq (a % 2) 1) M (nth M (Nat.pred n) :: M)) = false)) := by
      intro a ha
      have hpa := prv_lt ha
      have hp : (decide ((0 : Int) < (crW n s a).pos) && decide ((crW n s a).pos < s)) = false := by
        simp only [crW]; split <;> simp
      have b : ∀ x : Nat, ((x : Int) - 1 == -1) = decide (x = 0) := by intro x; rw [Bool.eq_iff_iff, beq_iff_eq, decide_eq_true_eq]; omega
      have hl : (vtxCl (List.replicate n s)).low[j]?.getD 0 = 0 := low_one n s hs j hj
      have hh : (vtxCl (List.replicate n s)).high[j]?.getD 0 = s := high_one n s hs j hj
      rw [fitB, hl, hh, hp, crossed_vtx h hM hn h2 a ha _ rfl]
      simp only [crW, h.at (show prv n a < M.length by omega), h.at (show a < M.length by omega), b]
      by_cases h1 : nth M (prv n a) = 0 <;> by_cases h2 : nth M a = 0 <;> simp [h1, h2]
      all_goals by_cases h3 : j = prv n a <;> by_cases h4 : j = a <;> simp [h3, h4]
    rw [Bool.eq_iff_iff, List.all_map, List.all_eq_true, Bool.and_eq_true, okN_iff, okN_iff]
    simp only [List.mem_range, Function.comp]
    show _ ↔ (_ ∨ pairX _ (cond (Nat.beq (j % 2) 1) _ _) = false) ∧ (_ ∨ pairX _ (cond (Nat.beq (nxt n j % 2) 1) _ _) = false)
    constructor
    · intro H
      constructor
      · by_cases hr : nth M (prv n j) = 0
        · exact .inl hr
        · refine .inr ?_
          rcases (hf j hj).1 (H j hj) with h1 | h1 | h1
          · exact absurd (h1.2 hz) hr
          · exact absurd (.inr rfl) h1
          · rw [hz, Nat.max_eq_left (Nat.zero_le _)] at h1; exact h1
      · by_cases hr : nth M (nxt n j) = 0
        · exact .inl hr
        · refine .inr ?_
          have hj1 := nxt_lt hj
          rcases (hf _ hj1).1 (H _ hj1) with h1 | h1 | h1
          · rw [prv_nxt hj] at h1; exact absurd (h1.1 hz) hr
          · rw [prv_nxt hj] at h1; exact absurd (.inl rfl) h1
          · rw [prv_nxt hj, hz, Nat.max_eq_right (Nat.zero_le _)] at h1; exact h1
    · rintro ⟨h1, h2⟩ a ha
      refine (hf a ha).2 ?_
      by_cases hja : j = a
      · subst hja
        rcases h1 with h1 | h1
        · exact .inl ⟨fun _ => hz, fun _ => h1⟩
        · refine .inr (.inr ?_)
          rw [hz, Nat.max_eq_left (Nat.zero_le _)]; exact h1
      · by_cases hjb : j = prv n a
        · have hja' : nxt n j = a := by rw [hjb, nxt_prv ha]
          rw [hja'] at h2
          rcases h2 with h2 | h2
          · exact .inl ⟨fun _ => h2, fun _ => by rw [← hjb]; exact hz⟩
          · refine .inr (.inr ?_)
            rw [← hjb, hz, Nat.max_eq_right (Nat.zero_le _)]; exact h2
        · exact .inr (.inl (by omega))

/-- The letters as bits. -/
def letV (n : Nat) (M : List Nat) (j : Nat) : Bool := not (xorB (Nat.beq (Nat.mod (prv n j) 2) 0) (Nat.blt (nth M (prv n j)) (nth M j)))
def codeM (n : Nat) (M : List Nat) : Nat → Nat → Nat
  | _, 0 => 0
  | j, k + 1 => Nat.add (cond (letV n M j) 1 0) (Nat.mul 2 (codeM n M (Nat.succ j) k))
noncomputable def maskN : Nat → Nat → List Nat → Nat → Nat → Nat
  | n, 0, M, _, acc => Nat.lor acc (Nat.shiftLeft 1 (codeM n M 0 n))
  | n, k + 1, M, d, acc => Nat.rec (motive := fun _ => Nat) acc (fun s m => cond (fitV n M (nth M (Nat.pred n) :: M) s) (maskN n k (setN M s d) (Nat.succ d) m) m) n

theorem letV_iff {n : Nat} {s : Int} {L : List Int} {M : List Nat} (h : Rep L M) (hM : M.length = n) (j : Nat) (hj : j < n) : letterZ L (crW n s j) = if letV n M j = true then 86 else 77 := by
  have hp := prv_lt hj
  have b : decide (((nth M (prv n j) : Nat) : Int) - 1 < ((nth M j : Nat) : Int) - 1) = Nat.blt (nth M (prv n j)) (nth M j) := by
    rw [Bool.eq_iff_iff, decide_eq_true_eq, Nat.blt_eq]; omega
  have c : (prv n j % 2 == 0) = Nat.beq (prv n j % 2) 0 := by rw [Bool.eq_iff_iff, beq_iff_eq, Nat.beq_eq]
  rw [letterZ, letV]
  simp only [crW, h.at (show prv n j < M.length by omega), h.at (show j < M.length by omega), b, c]
  show (if (Nat.beq (prv n j % 2) 0 == _) = true then _ else _) = if (!xorB (Nat.beq (prv n j % 2) 0) _) = true then _ else _
  cases Nat.beq (prv n j % 2) 0 <;> cases Nat.blt (nth M (prv n j)) (nth M j) <;> rfl
theorem codeM_of {n : Nat} {s : Int} {L : List Int} {M : List Nat} (h : Rep L M) (hM : M.length = n) : ∀ k j, j + k = n → codeM n M j k = codeOf ((List.range' j k).map fun i => UInt8.ofNat (letterZ L (crW n s i)).toNat)
  | 0, j, _ => rfl
  | k + 1, j, e => by
    rw [List.range'_succ, List.map_cons, codeOf, ← codeM_of h hM k (j + 1) (by omega), letV_iff h hM j (by omega), codeM]
    show Nat.add _ _ = _ + 2 * _
    cases letV n M j <;> rfl

theorem rec_mask (c : Nat) (t T : Nat → Bool) (f : Nat → Nat → Nat) (V : Nat → List (List Nat)) (g : List Nat → Nat) (acc : Nat) : ∀ n, (∀ s, s < n → T s = t s) →
    (∀ s, s < n → t s = true → ∀ m, Nat.testBit (f s m) c = true ↔ (Nat.testBit m c = true ∨ ∃ P ∈ V s, g P = c)) →
    (Nat.testBit (Nat.rec (motive := fun _ => Nat) acc (fun s m => cond (t s) (f s m) m) n) c = true ↔ (Nat.testBit acc c = true ∨ ∃ P ∈ (List.range n).flatMap fun s => if T s = true then V s else [], g P = c))
  | 0, _, _ => by
    show Nat.testBit acc c = true ↔ _
    simp
  | n + 1, h1, h2 => by
    have ih := rec_mask c t T f V g acc n (fun s hs => h1 s (by omega)) (fun s hs => h2 s (by omega))
    have hn := h1 n (by omega)
    rw [List.range_succ, List.flatMap_append]
    simp only [List.mem_append, List.flatMap_cons, List.flatMap_nil, List.append_nil, hn]
    cases ht : t n with
    | false =>
      show Nat.testBit (Nat.rec (motive := fun _ => Nat) acc (fun s m => cond (t s) (f s m) m) n) c = true ↔ _ ∨ ∃ P, (_ ∨ P ∈ (if false = true then V n else [])) ∧ _
      rw [ih]; simp
    | true =>
      have e := h2 n (by omega) ht (Nat.rec (motive := fun _ => Nat) acc (fun s m => cond (t s) (f s m) m) n)
      show Nat.testBit (f n (Nat.rec (motive := fun _ => Nat) acc (fun s m => cond (t s) (f s m) m) n)) c = true ↔ _
      rw [e, ih]
      simp only [if_true]
      constructor
      · rintro ((h | ⟨P, hP, hg⟩) | ⟨P, hP, hg⟩)
        · exact .inl h
        · exact .inr ⟨P, .inl hP, hg⟩
        · exact .inr ⟨P, .inr hP, hg⟩
      · rintro (h | ⟨P, hP | hP, hg⟩)
        · exact .inl (.inl h)
        · exact .inl (.inr ⟨P, hP, hg⟩)
        · exact .inr ⟨P, hP, hg⟩

theorem place_mask (n : Nat) (s : Int) (hs : 1 ≤ s) (hn : n % 2 = 0) (h2 : 2 ≤ n) (c : Nat) : ∀ (k : Nat) (M : List Nat) (O : List Nat) (acc : Nat), Rep (layersTo O n O.length) M → O.length + k = n →
    (Nat.testBit (maskN n k M (O.length + 1) acc) c = true ↔ (Nat.testBit acc c = true ∨ ∃ P ∈ placeAll (vtxCl (List.replicate n s)) n k (layersTo O n O.length) O, codeOf (patB' (List.replicate n s) P) = c))
  | 0, M, O, acc, h, hk => by
    have hM : M.length = n := by
      have := layersTo_length O n O.length
      rw [h, List.length_map] at this; exact this
    have hcr : (vtxCl (List.replicate n s)).crs = (List.range n).map (crW n s) := by
      obtain ⟨m, rfl⟩ : ∃ m, n = m + 1 := ⟨n - 1, by omega⟩
      exact crs_vtx m s
    have e : codeM n M 0 n = codeOf (patB' (List.replicate n s) O) := by
      rw [codeM_of (s := s) h hM n 0 (by omega), patB_map, hcr, List.map_map, layersOf, List.length_replicate, List.range_eq_range']
      rfl
    rw [maskN, placeAll, e]
    show Nat.testBit (acc ||| (1 <<< codeOf (patB' (List.replicate n s) O))) c = true ↔ _
    rw [Nat.testBit_or, Bool.or_eq_true, Nat.one_shiftLeft, Nat.testBit_two_pow]
    simp
  | k + 1, M, O, acc, h, hk => by
    have hM : M.length = n := by
      have := layersTo_length O n O.length
      rw [h, List.length_map] at this; exact this
    rw [placeAll, maskN]
    refine rec_mask c _ _ (fun j m => maskN n k (setN M j (O.length + 1)) (O.length + 1 + 1) m) _ _ acc n (fun j hj => fits_vtx hs h hM hn h2 j hj) (fun j hj _ m => ?_)
    have e : (layersTo O n O.length).set j O.length = layersTo (O ++ [j]) n (O ++ [j]).length := by
      rw [List.length_append, List.length_singleton, layersTo, layersTo_prefix n O (O ++ [j]) ⟨[j], rfl⟩ O.length (Nat.le_refl _)]
      simp
    have := place_mask n s hs hn h2 c k (setN M j (O.length + 1)) (O ++ [j]) m (by rw [← e, Rep, setN_set, h, List.map_set]; simp) (by simp; omega)
    rw [← e] at this
    simpa using this

theorem mask2 : maskN 2 2 (List.replicate 2 0) 1 0 = 9 := by decide +kernel
theorem mask4 : maskN 4 4 (List.replicate 4 0) 1 0 = 27030 := by decide +kernel
theorem mask6 : maskN 6 6 (List.replicate 6 0) 1 0 = 1614938036126520936 := by decide +kernel
theorem mask8 : maskN 8 8 (List.replicate 8 0) 1 0 = 491338155582654868792040915177681183551527312124934105896791893531463018624 := by decide +kernel

theorem pats_length (n : Nat) (s : Int) (hs : 1 ≤ s) (hn : n % 2 = 0) (h2 : 2 ≤ n) (m : Nat) (hm : maskN n n (List.replicate n 0) 1 0 = m) :
    (patsOf (List.replicate n s)).length = ((List.range (2 ^ n)).filter fun c => Nat.testBit m c).length := by
  have key : ∀ c, Nat.testBit m c = true ↔ ∃ P ∈ ordersOf (vtxCl (List.replicate n s)) n, codeOf (patB' (List.replicate n s) P) = c := fun c => by
    rw [← hm]
    have := place_mask n s hs hn h2 c n (List.replicate n 0) [] 0 (by simp [Rep, layersTo]) (by simp)
    rw [Nat.zero_testBit] at this
    simpa [ordersOf, layersTo] using this
  rw [patsOf, List.length_mergeSort, List.length_replicate]
  have hP : ((dd ((ordersOf (vtxCl (List.replicate n s)) n).map (patB' (List.replicate n s)))).map codeOf).Perm ((List.range (2 ^ n)).filter fun c => Nat.testBit m c) := by
    refine (List.perm_ext_iff_of_nodup ?_ (List.nodup_range.filter _)).2 fun c => ?_
    · rw [List.nodup_iff_pairwise_ne, List.pairwise_map]
      refine (List.nodup_iff_pairwise_ne.1 (dd_nodup _)).imp_of_mem fun {a b} ha hb hne e => hne ?_
      rw [mem_dd] at ha hb
      obtain ⟨P, _, rfl⟩ := List.mem_map.1 ha
      obtain ⟨Q, _, rfl⟩ := List.mem_map.1 hb
      exact codeOf_inj _ _ (by rw [patB_length, patB_length]) (patB_letter _ _) (patB_letter _ _) e
    · rw [List.mem_filter, key, List.mem_range, List.mem_map]
      constructor
      · rintro ⟨x, hx, rfl⟩
        rw [mem_dd] at hx
        obtain ⟨P, hP, rfl⟩ := List.mem_map.1 hx
        refine ⟨?_, P, hP, rfl⟩
        have := codeOf_lt (patB' (List.replicate n s) P)
        rw [patB_length, List.length_replicate, show n - 1 + 1 = n by omega] at this
        exact this
      · rintro ⟨_, P, hP, rfl⟩
        exact ⟨_, (mem_dd _ _).2 (List.mem_map.2 ⟨P, hP, rfl⟩), rfl⟩
  have := hP.length_eq
  rw [List.length_map] at this
  exact this

def tableZ : Nat → Nat
  | 0 => 2 | 1 => 8 | 2 => 30 | _ => 112
theorem filter2 : ((List.range (2 ^ 2)).filter fun c => Nat.testBit 9 c).length = 2 := by decide +kernel
theorem filter4 : ((List.range (2 ^ 4)).filter fun c => Nat.testBit 27030 c).length = 8 := by decide +kernel
theorem filter6 : ((List.range (2 ^ 6)).filter fun c => Nat.testBit 1614938036126520936 c).length = 30 := by decide +kernel
theorem filter8 : ((List.range (2 ^ 8)).filter fun c => Nat.testBit 491338155582654868792040915177681183551527312124934105896791893531463018624 c).length = 112 := by decide +kernel
theorem pats_equal (k : Nat) (s : Int) (hs : 1 ≤ s) (hk : k < 4) : (patsOf (List.replicate (2 * k + 2) s)).length = tableZ k := by
  match k, hk with
  | 0, _ => exact (pats_length 2 s hs rfl (by omega) _ mask2).trans filter2
  | 1, _ => exact (pats_length 4 s hs rfl (by omega) _ mask4).trans filter4
  | 2, _ => exact (pats_length 6 s hs rfl (by omega) _ mask6).trans filter6
  | 3, _ => exact (pats_length 8 s hs rfl (by omega) _ mask8).trans filter8


/-- Two layers lie alike between two others. -/
structure Con where
  x : Nat
  y : Nat
  a : Nat
  b : Nat
def btwN (x a b : Nat) : Bool := or (and (Nat.blt a x) (Nat.blt x b)) (and (Nat.blt b x) (Nat.blt x a))
def conN (A : List Nat) (c : Con) : Bool := not (xorB (btwN (nth A c.x) (nth A c.a) (nth A c.b)) (btwN (nth A c.y) (nth A c.a) (nth A c.b)))
def segCons (n : Nat) (R : List Nat) (j : Nat) : List Con := ((List.range n).filter fun i => btwN (nth R j) (nth R i) (nth R (nxt n i))).map fun i => ⟨i, prv n j, prv n j, j⟩
def crCons (n : Nat) (R : List Nat) (j : Nat) : List Con := ((List.range n).filter fun k => and (Nat.beq (nth R j) (nth R k)) (Nat.beq (Nat.mod j 2) (Nat.mod k 2))).map fun k => ⟨prv n k, k, prv n j, j⟩
def consOf (n : Nat) (R : List Nat) : List Con := (List.range n).flatMap fun j => segCons n R j ++ crCons n R j
def Con.top (c : Con) : Nat := max (max c.x c.y) (max c.a c.b)
def groupsOf (n : Nat) (R : List Nat) : List (List Con) := (List.range n).map fun t => (consOf n R).filter fun c => Nat.beq c.top t

/-- How many letters are V. -/
def letA (n : Nat) (A : List Nat) (j : Nat) : Bool := not (xorB (Nat.beq (Nat.mod (prv n j) 2) 0) (Nat.blt (nth A (prv n j)) (nth A j)))
def leafOK (n : Nat) (A : List Nat) : Bool := or (Nat.beq (2 * (List.range n).countP (letA n A)) (n + 2)) (Nat.beq (2 * (List.range n).countP (letA n A) + 2) n)
def allS (n : Nat) : List (List Con) → List Nat → Bool
  | [], A => leafOK n A
  | C :: Cs, A => (List.range n).all fun a => or (A.contains a) (or (not (C.all (conN (A ++ [a])))) (allS n Cs (A ++ [a])))
def exS (n : Nat) : List (List Con) → List Nat → Bool
  | [], _ => true
  | C :: Cs, A => (List.range n).any fun a => and (not (A.contains a)) (and (C.all (conN (A ++ [a]))) (exS n Cs (A ++ [a])))

def altStep (k : Nat) (P : List Nat) (a : Nat) : Bool := match k with
  | 0 => true
  | j + 1 => cond (Nat.beq (Nat.mod j 2) 0) (Nat.blt (nth P j) a) (Nat.blt a (nth P j))
def canonR (n : Nat) (R : List Nat) : Bool := (List.range n).all fun i => Nat.beq (nth R i) ((List.range n).countP fun j => Nat.blt (nth R j) (nth R i))
def goodR (n : Nat) (R : List Nat) : Bool := or (not (and (Nat.blt (nth R 0) (nth R (Nat.pred n))) (canonR n R))) (and (allS n (groupsOf n R) []) (exS n (groupsOf n R) []))
/-- All rankings that begin with P, m of them being left to choose. -/
def checkE (n k : Nat) : Nat → List Nat → Bool
  | 0, P => goodR n P
  | m + 1, P => (List.range n).all fun a => or (not (altStep k P a)) (checkE n (k + 1) m (P ++ [a]))
theorem checkE_step {n k m : Nat} {P : List Nat} (h : ∀ a, a < n → altStep k P a = true → checkE n (k + 1) m (P ++ [a]) = true) : checkE n k (m + 1) P = true := by
  rw [checkE, List.all_eq_true]
  intro a ha
  rw [List.mem_range] at ha
  cases e : altStep k P a with
  | false => rfl
  | true => rw [h a ha e]; rfl

theorem check2 : checkE 2 0 2 [] = true := by decide +kernel
theorem check4 : checkE 4 0 4 [] = true := by decide +kernel
theorem check6_01 : checkE 6 2 4 [0, 1] = true := by decide +kernel
theorem check6_02 : checkE 6 2 4 [0, 2] = true := by decide +kernel
theorem check6_03 : checkE 6 2 4 [0, 3] = true := by decide +kernel
theorem check6_04 : checkE 6 2 4 [0, 4] = true := by decide +kernel
theorem check6_05 : checkE 6 2 4 [0, 5] = true := by decide +kernel
theorem check6_12 : checkE 6 2 4 [1, 2] = true := by decide +kernel
theorem check6_13 : checkE 6 2 4 [1, 3] = true := by decide +kernel
theorem check6_14 : checkE 6 2 4 [1, 4] = true := by decide +kernel
theorem check6_15 : checkE 6 2 4 [1, 5] = true := by decide +kernel
theorem check6_23 : checkE 6 2 4 [2, 3] = true := by decide +kernel
theorem check6_24 : checkE 6 2 4 [2, 4] = true := by decide +kernel
theorem check6_25 : checkE 6 2 4 [2, 5] = true := by decide +kernel
theorem check6_34 : checkE 6 2 4 [3, 4] = true := by decide +kernel
theorem check6_35 : checkE 6 2 4 [3, 5] = true := by decide +kernel
theorem check6_45 : checkE 6 2 4 [4, 5] = true := by decide +kernel

end Go.Proofs.Yteankhgikpejhaa
