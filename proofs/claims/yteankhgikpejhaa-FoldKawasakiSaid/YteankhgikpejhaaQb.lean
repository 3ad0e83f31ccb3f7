/-
  Kawasaki and Maekawa at two, four and six angles; with each pattern the exchanged one is there.
-/
import Derived.Test.YteankhgikpejhaaPb
namespace Go.Proofs.Yteankhgikpejhaa
open Go.Sort

theorem check6 : checkE 6 0 6 [] = true := by
  refine checkE_step fun a ha _ => ?_
  refine checkE_step fun b hb h => ?_
  have h' : a < b := by simpa [altStep, nth] using h
  have ha6 : a = 0 ∨ a = 1 ∨ a = 2 ∨ a = 3 ∨ a = 4 ∨ a = 5 := by omega
  have hb6 : b = 0 ∨ b = 1 ∨ b = 2 ∨ b = 3 ∨ b = 4 ∨ b = 5 := by omega
  clear h ha hb
  rcases ha6 with rfl | rfl | rfl | rfl | rfl | rfl
  · rcases hb6 with rfl | rfl | rfl | rfl | rfl | rfl
    · exact absurd h' (by decide)
    · exact check6_01
    · exact check6_02
    · exact check6_03
    · exact check6_04
    · exact check6_05
  · rcases hb6 with rfl | rfl | rfl | rfl | rfl | rfl
    · exact absurd h' (by decide)
    · exact absurd h' (by decide)
    · exact check6_12
    · exact check6_13
    · exact check6_14
    · exact check6_15
  · rcases hb6 with rfl | rfl | rfl | rfl | rfl | rfl
    · exact absurd h' (by decide)
    · exact absurd h' (by decide)
    · exact absurd h' (by decide)
    · exact check6_23
    · exact check6_24
    · exact check6_25
  · rcases hb6 with rfl | rfl | rfl | rfl | rfl | rfl
    · exact absurd h' (by decide)
    · exact absurd h' (by decide)
    · exact absurd h' (by decide)
    · exact absurd h' (by decide)
    · exact check6_34
    · exact check6_35
  · rcases hb6 with rfl | rfl | rfl | rfl | rfl | rfl
    · exact absurd h' (by decide)
    · exact absurd h' (by decide)
    · exact absurd h' (by decide)
    · exact absurd h' (by decide)
    · exact absurd h' (by decide)
    · exact check6_45
  · rcases hb6 with rfl | rfl | rfl | rfl | rfl | rfl
    · exact absurd h' (by decide)
    · exact absurd h' (by decide)
    · exact absurd h' (by decide)
    · exact absurd h' (by decide)
    · exact absurd h' (by decide)
    · exact absurd h' (by decide)

theorem check_all {n : Nat} (h : n = 2 ∨ n = 4 ∨ n = 6) : checkE n 0 n [] = true := by
  rcases h with rfl | rfl | rfl
  · exact check2
  · exact check4
  · exact check6

theorem checkE_mem {n : Nat} (hn : 0 < n) : ∀ (m k : Nat) (P : List Nat), checkE n k m P = true → P.length = k → ∀ R : List Nat, R.length = k + m → P <+: R → (∀ x ∈ R, x < n) →
    (∀ j, k ≤ j → j < k + m → altStep j R (nth R j) = true) → goodR n R = true
  | 0, k, P, h, hP, R, hR, hp, _, _ => by
    have : P = R := List.IsPrefix.eq_of_length hp (by omega)
    rw [← this]
    exact h
  | m + 1, k, P, h, hP, R, hR, hp, hv, ha => by
    have hlt : k < R.length := by omega
    have hpre : P ++ [R[k]] <+: R := by
      obtain ⟨t, rfl⟩ := hp
      cases t with
      | nil => simp at hR; omega
      | cons y t =>
        have e : (P ++ y :: t)[k] = y := by rw [List.getElem_append_right (by omega)]; simp [hP]
        rw [e]
        exact ⟨t, by simp⟩
    rw [checkE, List.all_eq_true] at h
    have h1 := h R[k] (List.mem_range.2 (hv _ (List.getElem_mem hlt)))
    have h2 := ha k (Nat.le_refl _) (by omega)
    rw [nth_get R k hlt] at h2
    have h3 : altStep k P R[k] = true := by
      cases k with
      | zero => rfl
      | succ j =>
        rw [altStep] at h2 ⊢
        have e : nth P j = nth R j := by
          rw [nth_get P j (by omega), nth_get R j (by omega)]
          exact (hp.getElem (by omega))
        rw [e]; exact h2
    rw [h3] at h1
    have h4 : checkE n (k + 1) m (P ++ [R[k]]) = true := by simpa using h1
    exact checkE_mem hn m (k + 1) _ h4 (by simp [hP]) R (by omega) hpre hv (fun j hj hj2 => ha j (by omega) (by omega))

theorem nth_prefix {A B : List Nat} (h : A <+: B) {i : Nat} (hi : i < A.length) : nth A i = nth B i := by
  have := h.length_le
  rw [nth_get A i hi, nth_get B i (by omega)]
  exact h.getElem hi
theorem conN_prefix {A B : List Nat} (h : A <+: B) {c : Con} (hc : c.top < A.length) : conN A c = conN B c := by
  unfold Con.top at hc
  rw [conN, conN, nth_prefix h (show c.x < A.length by omega), nth_prefix h (show c.y < A.length by omega), nth_prefix h (show c.a < A.length by omega), nth_prefix h (show c.b < A.length by omega)]

/-- The groups from the t-th on. -/
def grp (n : Nat) (R : List Nat) (t : Nat) : List Con := (consOf n R).filter fun c => Nat.beq c.top t
theorem groupsOf_eq (n : Nat) (R : List Nat) : groupsOf n R = (List.range' 0 n).map (grp n R) := by
  rw [groupsOf, List.range_eq_range']; rfl
theorem grp_mem {n : Nat} {R : List Nat} {t : Nat} {c : Con} : c ∈ grp n R t ↔ c ∈ consOf n R ∧ c.top = t := by
  rw [grp, List.mem_filter, Nat.beq_eq]

theorem allS_spec {n : Nat} {R : List Nat} : ∀ (m t : Nat) (A : List Nat), allS n ((List.range' t m).map (grp n R)) A = true → A.length = t → ∀ B : List Nat, B.length = t + m → A <+: B → B.Nodup → (∀ x ∈ B, x < n) →
    (∀ c ∈ consOf n R, conN B c = true) → leafOK n B = true
  | 0, t, A, h, hA, B, hB, hp, _, _, _ => by
    have : A = B := List.IsPrefix.eq_of_length hp (by omega)
    rw [← this]
    exact h
  | m + 1, t, A, h, hA, B, hB, hp, hnd, hv, hc => by
    have hlt : t < B.length := by omega
    have hpre : A ++ [B[t]] <+: B ∧ B[t] ∉ A := by
      obtain ⟨r, rfl⟩ := hp
      cases r with
      | nil => simp at hB; omega
      | cons y r =>
        have e : (A ++ y :: r)[t] = y := by rw [List.getElem_append_right (by omega)]; simp [hA]
        rw [e]
        refine ⟨⟨r, by simp⟩, fun hm => ?_⟩
        rw [List.nodup_append] at hnd
        exact hnd.2.2 y hm y (by simp) rfl
    rw [List.range'_succ, List.map_cons, allS, List.all_eq_true] at h
    have h1 := h B[t] (List.mem_range.2 (hv _ (List.getElem_mem hlt)))
    have e1 : A.contains B[t] = false := by rw [Bool.eq_false_iff, Ne, List.contains_iff_mem]; exact hpre.2
    have e2 : (grp n R t).all (conN (A ++ [B[t]])) = true := by
      rw [List.all_eq_true]
      intro c hcc
      obtain ⟨c1, c2⟩ := grp_mem.1 hcc
      rw [conN_prefix hpre.1 (by simp; omega)]
      exact hc c c1
    rw [e1, e2] at h1
    have h4 : allS n ((List.range' (t + 1) m).map (grp n R)) (A ++ [B[t]]) = true := by simpa using h1
    exact allS_spec m (t + 1) _ h4 (by simp [hA]) B (by omega) hpre.1 hnd hv hc

theorem exS_spec {n : Nat} {R : List Nat} : ∀ (m t : Nat) (A : List Nat), exS n ((List.range' t m).map (grp n R)) A = true → A.length = t → A.Nodup → (∀ x ∈ A, x < n) → (∀ c ∈ consOf n R, c.top < t → conN A c = true) →
    ∃ B : List Nat, B.length = t + m ∧ A <+: B ∧ B.Nodup ∧ (∀ x ∈ B, x < n) ∧ ∀ c ∈ consOf n R, c.top < t + m → conN B c = true
  | 0, t, A, _, hA, hnd, hv, hc => ⟨A, by omega, List.prefix_refl _, hnd, hv, hc⟩
  | m + 1, t, A, h, hA, hnd, hv, hc => by
    rw [List.range'_succ, List.map_cons, exS, List.any_eq_true] at h
    obtain ⟨a, ha, h1⟩ := h
    simp only [Bool.and_eq_true, Bool.not_eq_true'] at h1
    obtain ⟨h2, h3, h4⟩ := h1
    have hna : a ∉ A := by rw [Bool.eq_false_iff, Ne, List.contains_iff_mem] at h2; exact h2
    obtain ⟨B, b1, b2, b3, b4, b5⟩ := exS_spec m (t + 1) (A ++ [a]) h4 (by simp [hA]) (List.nodup_append.2 ⟨hnd, by simp, fun x hx y hy e => by simp at hy; subst hy; exact hna (e ▸ hx)⟩)
      (fun x hx => by
        rcases List.mem_append.1 hx with h | h
        · exact hv x h
        · simp at h; subst h; exact List.mem_range.1 ha)
      (fun c hcc hct => by
        by_cases e : c.top = t
        · exact List.all_eq_true.1 h3 c (grp_mem.2 ⟨hcc, e⟩)
        · rw [← conN_prefix (B := A ++ [a]) ⟨[a], rfl⟩ (by omega)]
          exact hc c hcc (by omega))
    exact ⟨B, by omega, (List.prefix_append A [a]).trans b2, b3, b4, fun c h1 h2 => b5 c h1 (by omega)⟩


theorem countP_lt {P Q : Nat → Bool} : ∀ (l : List Nat), (∀ x ∈ l, P x = true → Q x = true) → (∃ x ∈ l, Q x = true ∧ P x = false) → l.countP P < l.countP Q
  | [], _, h => by obtain ⟨x, hx, _⟩ := h; cases hx
  | y :: l, h1, h2 => by
    have hm := List.countP_mono_left (p := P) (q := Q) (l := l) (fun x hx => h1 x (by simp [hx]))
    rw [List.countP_cons, List.countP_cons]
    have hy := h1 y (by simp)
    by_cases hq : Q y = true ∧ P y = false
    · rw [hq.1, hq.2]; simp; omega
    · obtain ⟨x, hx, hx2⟩ := h2
      rcases List.mem_cons.1 hx with rfl | hx'
      · exact absurd hx2 hq
      · have := countP_lt l (fun x hx => h1 x (by simp [hx])) ⟨x, hx', hx2⟩
        cases hp : P y with
        | true => rw [hy hp]; simp; omega
        | false => cases Q y <;> simp <;> omega

/-- The rank of a position. -/
def rk (n : Nat) (p : Nat → Int) (i : Nat) : Nat := (List.range n).countP fun j => decide (p j < p i)
theorem rk_mono {n : Nat} {p : Nat → Int} {i k : Nat} (h : p i ≤ p k) : rk n p i ≤ rk n p k :=
  List.countP_mono_left fun x _ hx => by rw [decide_eq_true_eq] at hx ⊢; omega
theorem rk_strict {n : Nat} {p : Nat → Int} {i k : Nat} (hi : i < n) (h : p i < p k) : rk n p i < rk n p k :=
  countP_lt _ (fun x _ hx => by rw [decide_eq_true_eq] at hx ⊢; omega) ⟨i, List.mem_range.2 hi, by rw [decide_eq_true_eq]; exact h, by rw [decide_eq_false_iff_not]; omega⟩
theorem rk_lt {n : Nat} {p : Nat → Int} {i k : Nat} (hi : i < n) : rk n p i < rk n p k ↔ p i < p k := by
  constructor
  · intro h
    refine Decidable.byContradiction fun hc => ?_
    have := rk_mono (n := n) (p := p) (show p k ≤ p i by omega)
    omega
  · exact rk_strict hi
theorem rk_bound {n : Nat} {p : Nat → Int} {i : Nat} (hi : i < n) : rk n p i < n := by
  have := countP_lt (P := fun j => decide (p j < p i)) (Q := fun _ => true) (List.range n) (fun _ _ _ => rfl) ⟨i, List.mem_range.2 hi, rfl, by simp⟩
  simpa [rk] using this

theorem btwN_iff (x a b : Nat) : btwN x a b = true ↔ (a < x ∧ x < b) ∨ (b < x ∧ x < a) := by
  rw [btwN, Bool.or_eq_true, Bool.and_eq_true, Bool.and_eq_true, Nat.blt_eq, Nat.blt_eq, Nat.blt_eq, Nat.blt_eq]
theorem btwB_iff' (x a b : Int) : btwB x a b = true ↔ (a < x ∧ x < b) ∨ (b < x ∧ x < a) := by
  rw [btwB_iff]; omega
theorem btw_nat (x a b : Nat) : btwB (x : Int) (a : Int) (b : Int) = btwN x a b := by
  rw [Bool.eq_iff_iff, btwB_iff', btwN_iff]; omega
theorem btw_rk {n : Nat} {p : Nat → Int} {x a b : Nat} (hx : x < n) (ha : a < n) (hb : b < n) : btwN (rk n p x) (rk n p a) (rk n p b) = btwB (p x) (p a) (p b) := by
  rw [Bool.eq_iff_iff, btwB_iff', btwN_iff, rk_lt ha, rk_lt hx, rk_lt hb, rk_lt hx]
theorem btwN_self (a b : Nat) : btwN a a b = false := by rw [Bool.eq_false_iff, Ne, btwN_iff]; omega
theorem xorB_eq (a b : Bool) : (not (xorB a b) = true) ↔ a = b := by cases a <;> cases b <;> simp [xorB]
theorem conN_iff (B : List Nat) (x y a b : Nat) : conN B ⟨x, y, a, b⟩ = true ↔ btwN (nth B x) (nth B a) (nth B b) = btwN (nth B y) (nth B a) (nth B b) := xorB_eq _ _

theorem crs_at (zs : List Int) (h1 : 1 ≤ zs.length) : (vtxCl zs).crs = (List.range zs.length).map fun j => (⟨prv zs.length j, j, posAt zs j⟩ : Cr) := by
  obtain ⟨m, hm⟩ : ∃ m, zs.length = m + 1 := ⟨zs.length - 1, by omega⟩
  rw [vtxCl, layCl, crsTo, hm, List.range_succ_eq_map, List.map_cons, List.map_map]
  simp only [Nat.add_sub_cancel]
  congr 1
theorem pos_nxt {zs : List Int} (hc : posAt zs zs.length = 0) {i : Nat} (hi : i < zs.length) : posAt zs (i + 1) = posAt zs (nxt zs.length i) := by
  rw [nxt]
  cases e : Nat.beq (Nat.succ i) zs.length with
  | true =>
    have := Nat.eq_of_beq_eq_true e
    show posAt zs (i + 1) = posAt zs 0
    rw [show i + 1 = zs.length from this, hc]; rfl
  | false => rfl

/-- The ranks of a vertex. -/
def rkL (zs : List Int) : List Nat := (List.range zs.length).map (rk zs.length (posAt zs))
theorem rkL_at {zs : List Int} {i : Nat} (hi : i < zs.length) : nth (rkL zs) i = rk zs.length (posAt zs) i := by
  rw [nth_get _ _ (by simpa [rkL] using hi)]; simp [rkL]

theorem noCross_cons {zs : List Int} (h1 : 1 ≤ zs.length) (hc : posAt zs zs.length = 0) (B : List Nat) :
    NoCross zs.length (posAt zs) (vtxCl zs).crs rightS (fun s => (nth B s : Int)) ↔ ∀ c ∈ consOf zs.length (rkL zs), conN B c = true := by
  rw [crs_at zs h1]
  have hseg : ∀ j, j < zs.length → ∀ i, i < zs.length → btwN (nth (rkL zs) j) (nth (rkL zs) i) (nth (rkL zs) (nxt zs.length i)) = btwB (posAt zs j) (posAt zs i) (posAt zs (i + 1)) := fun j hj i hi => by
    rw [rkL_at hj, rkL_at hi, rkL_at (nxt_lt hi), btw_rk hj hi (nxt_lt hi), ← pos_nxt hc hi]
  constructor
  · rintro ⟨n1, n2⟩ c hcc
    rw [consOf, List.mem_flatMap] at hcc
    obtain ⟨j, hj, hcj⟩ := hcc
    rw [List.mem_range] at hj
    have hf : (⟨prv zs.length j, j, posAt zs j⟩ : Cr) ∈ (List.range zs.length).map fun j => (⟨prv zs.length j, j, posAt zs j⟩ : Cr) := List.mem_map.2 ⟨j, List.mem_range.2 hj, rfl⟩
    rcases List.mem_append.1 hcj with hcj | hcj
    · rw [segCons, List.mem_map] at hcj
      obtain ⟨i, hi, rfl⟩ := hcj
      rw [List.mem_filter, List.mem_range] at hi
      have := n1 _ hf i hi.1
      rw [conN_iff, btwN_self, Bool.eq_false_iff]
      intro hb
      refine this ⟨?_, ?_⟩
      · rw [← hseg j hj i hi.1]; exact hi.2
      · show btwB (nth B i : Int) (nth B (prv zs.length j) : Int) (nth B j : Int) = true
        rw [btw_nat]; exact hb
    · rw [crCons, List.mem_map] at hcj
      obtain ⟨k, hk, rfl⟩ := hcj
      rw [List.mem_filter, List.mem_range, Bool.and_eq_true, Nat.beq_eq, Nat.beq_eq] at hk
      obtain ⟨hk1, hk2, hk3⟩ := hk
      have hg : (⟨prv zs.length k, k, posAt zs k⟩ : Cr) ∈ (List.range zs.length).map fun j => (⟨prv zs.length j, j, posAt zs j⟩ : Cr) := List.mem_map.2 ⟨k, List.mem_range.2 hk1, rfl⟩
      rw [rkL_at hj, rkL_at hk1] at hk2
      have hp : posAt zs k = posAt zs j := by
        have a1 := (rk_lt (n := zs.length) (p := posAt zs) (k := k) hj)
        have a2 := (rk_lt (n := zs.length) (p := posAt zs) (k := j) hk1)
        omega
      have hk3' : j % 2 = k % 2 := hk3
      have := n2 _ hf _ hg hp (by simp only [rightS]; rw [decide_eq_decide]; omega)
      simp only [btw_nat] at this
      rw [conN_iff]
      exact this
  · intro h
    refine ⟨fun f hf i hi => ?_, fun f hf g hg e1 e2 => ?_⟩
    · obtain ⟨j, hj, rfl⟩ := List.mem_map.1 hf
      rw [List.mem_range] at hj
      rintro ⟨b1, b2⟩
      have hm : (⟨i, prv zs.length j, prv zs.length j, j⟩ : Con) ∈ consOf zs.length (rkL zs) := by
        rw [consOf, List.mem_flatMap]
        refine ⟨j, List.mem_range.2 hj, List.mem_append_left _ ?_⟩
        rw [segCons, List.mem_map]
        refine ⟨i, ?_, rfl⟩
        rw [List.mem_filter, List.mem_range]
        exact ⟨hi, by rw [hseg j hj i hi]; exact b1⟩
      have := h _ hm
      rw [conN_iff, btwN_self] at this
      simp only [btw_nat] at b2
      rw [this] at b2
      cases b2
    · obtain ⟨j, hj, rfl⟩ := List.mem_map.1 hf
      obtain ⟨k, hk, rfl⟩ := List.mem_map.1 hg
      rw [List.mem_range] at hj hk
      have e1' : posAt zs k = posAt zs j := e1
      have hm : (⟨prv zs.length k, k, prv zs.length j, j⟩ : Con) ∈ consOf zs.length (rkL zs) := by
        rw [consOf, List.mem_flatMap]
        refine ⟨j, List.mem_range.2 hj, List.mem_append_right _ ?_⟩
        rw [crCons, List.mem_map]
        refine ⟨k, ?_, rfl⟩
        rw [List.mem_filter, List.mem_range, Bool.and_eq_true, Nat.beq_eq, Nat.beq_eq]
        refine ⟨hk, ?_, ?_⟩
        · rw [rkL_at hj, rkL_at hk, rk, rk, e1']
        · simp only [rightS] at e2
          rw [decide_eq_decide] at e2
          show j % 2 = k % 2
          omega
      have := h _ hm
      rw [conN_iff] at this
      simp only [btw_nat]
      exact this

theorem rk_good {zs : List Int} (hs : sizesB zs = true) (hc : closesB zs = true) (hn : zs.length = 2 ∨ zs.length = 4 ∨ zs.length = 6) :
    allS zs.length (groupsOf zs.length (rkL zs)) [] = true ∧ exS zs.length (groupsOf zs.length (rkL zs)) [] = true := by
  have hcz : posAt zs zs.length = 0 := by simp [closesB] at hc; exact hc.2
  have hsz : ∀ i, i < zs.length → 1 ≤ zs[i]?.getD 0 := fun i hi => by
    have := size_in hs i hi
    simp [hi]; omega
  have hup : ∀ i, i < zs.length → if i % 2 = 0 then posAt zs i < posAt zs (nxt zs.length i) else posAt zs (nxt zs.length i) < posAt zs i := fun i hi => by
    rw [← pos_nxt hcz hi, posAt]
    have := hsz i hi
    split <;> omega
  have hg : goodR zs.length (rkL zs) = true := by
    refine checkE_mem (by omega) zs.length 0 [] (check_all hn) rfl (rkL zs) (by simp [rkL]) List.nil_prefix ?_ ?_
    · intro x hx
      obtain ⟨i, hi, rfl⟩ := List.mem_map.1 hx
      exact rk_bound (List.mem_range.1 hi)
    · intro j _ hj
      rw [Nat.zero_add] at hj
      cases j with
      | zero => rfl
      | succ k =>
        have hk : k < zs.length := by omega
        have e : nxt zs.length k = k + 1 := by
          rw [nxt]
          cases e : Nat.beq (Nat.succ k) zs.length with
          | true => have := Nat.eq_of_beq_eq_true e; omega
          | false => rfl
        have h := hup k hk
        rw [e] at h
        rw [altStep, rkL_at hk, rkL_at hj]
        show cond (Nat.beq (k % 2) 0) _ _ = true
        cases hp : Nat.beq (k % 2) 0 with
        | true =>
          rw [Nat.beq_eq] at hp
          rw [if_pos hp] at h
          show Nat.blt _ _ = true
          rw [Nat.blt_eq]
          exact rk_strict hk h
        | false =>
          have hp' : ¬ k % 2 = 0 := Nat.ne_of_beq_eq_false hp
          rw [if_neg hp'] at h
          show Nat.blt _ _ = true
          rw [Nat.blt_eq]
          exact rk_strict hj h
  have hcan : canonR zs.length (rkL zs) = true := by
    rw [canonR, List.all_eq_true]
    intro i hi
    rw [List.mem_range] at hi
    rw [Nat.beq_eq, rkL_at hi]
    conv => lhs; rw [rk]
    refine List.countP_congr fun j hj => ?_
    rw [List.mem_range] at hj
    rw [decide_eq_true_eq, Nat.blt_eq, rkL_at hj, rk_lt hj]
  have hfirst : Nat.blt (nth (rkL zs) 0) (nth (rkL zs) (Nat.pred zs.length)) = true := by
    have hl : zs.length - 1 < zs.length := by omega
    show Nat.blt (nth (rkL zs) 0) (nth (rkL zs) (zs.length - 1)) = true
    rw [Nat.blt_eq, rkL_at (by omega), rkL_at hl]
    refine rk_strict (by omega) ?_
    have h := hup (zs.length - 1) hl
    have e : nxt zs.length (zs.length - 1) = 0 := by
      rw [nxt, show Nat.succ (zs.length - 1) = zs.length by show zs.length - 1 + 1 = _; omega, show Nat.beq zs.length zs.length = true by simp]; rfl
    rw [e, if_neg (by omega)] at h
    exact h
  rw [goodR, hfirst, hcan] at hg
  simpa using hg

/-- Layers as a list, and the order that has them. -/
def orderOf (n : Nat) (B : List Nat) : List Nat := (List.range n).map (layerN B)
theorem orderOf_ok {n : Nat} {B : List Nat} (hn : B.Nodup) (hv : ∀ x ∈ B, x < n) (hl : B.length = n) : (orderOf n B).Nodup ∧ (∀ x ∈ orderOf n B, x < n) ∧ (orderOf n B).length = n ∧ ∀ s, s < n → layerN (orderOf n B) s = nth B s := by
  have h1 : (orderOf n B).Nodup := by
    rw [orderOf, List.nodup_iff_pairwise_ne, List.pairwise_map]
    refine (List.nodup_iff_pairwise_ne.1 List.nodup_range).imp_of_mem fun {a b} ha hb hne e => hne ?_
    rw [List.mem_range] at ha hb
    exact layerN_inj hn hv hl ha hb e
  refine ⟨h1, fun x hx => ?_, by simp [orderOf], fun s hs => ?_⟩
  · obtain ⟨i, hi, rfl⟩ := List.mem_map.1 hx
    exact layerN_lt hn hv hl (List.mem_range.1 hi)
  · have hlt : s < B.length := by omega
    have hb : B[s] < n := hv _ (List.getElem_mem hlt)
    have e := layerN_of h1 B[s] (by simpa [orderOf] using hb)
    have e2 : (orderOf n B)[B[s]]'(by simpa [orderOf] using hb) = s := by
      simp only [orderOf, List.getElem_map, List.getElem_range]
      exact layerN_of hn s hlt
    rw [e2] at e
    rw [e, nth_get B s hlt]

theorem kaw_some {zs : List Int} (hg : vertexB zs = true) (hc : closesB zs = true) (hn : zs.length = 2 ∨ zs.length = 4 ∨ zs.length = 6) : ∃ O, O ∈ ordersOf (vtxCl zs) zs.length := by
  obtain ⟨p1, p9, ps⟩ := vertex_parts hg
  have hcz : posAt zs zs.length = 0 := by simp [closesB] at hc; exact hc.2
  have h := (rk_good ps hc hn).2
  rw [groupsOf_eq] at h
  obtain ⟨B, b1, _, b3, b4, b5⟩ := exS_spec zs.length 0 [] h rfl List.nodup_nil (by simp) (fun c _ h => by omega)
  rw [Nat.zero_add] at b1 b5
  have htop : ∀ c ∈ consOf zs.length (rkL zs), c.top < zs.length := by
    intro c hcc
    rw [consOf, List.mem_flatMap] at hcc
    obtain ⟨j, hj, hcj⟩ := hcc
    rw [List.mem_range] at hj
    have hpj := prv_lt hj
    rcases List.mem_append.1 hcj with hcj | hcj
    · obtain ⟨i, hi, rfl⟩ := List.mem_map.1 hcj
      have hi' := List.mem_range.1 (List.mem_filter.1 hi).1
      simp only [Con.top]; omega
    · obtain ⟨k, hk, rfl⟩ := List.mem_map.1 hcj
      have hk' := List.mem_range.1 (List.mem_filter.1 hk).1
      have hpk := prv_lt hk'
      simp only [Con.top]; omega
  obtain ⟨o1, o2, o3, o4⟩ := orderOf_ok b3 b4 b1
  refine ⟨orderOf zs.length B, mem_orders.2 ⟨o1, o2, o3, ?_⟩⟩
  rw [okFrom_iff (vtx_fair p1 hcz) o1 o2 o3]
  refine ((noCross_cons (by omega) hcz B).2 (fun c hcc => b5 c hcc (htop c hcc))).congr (fun f hf => ?_) (fun s hs => ?_)
  · exact vtx_in p1 f hf
  · rw [o4 s hs]

/-- How many letters are V. -/
def vees (l : List UInt8) : Nat := l.countP (· == 86)

theorem kaw_all {zs : List Int} (hg : vertexB zs = true) (hc : closesB zs = true) (hn : zs.length = 2 ∨ zs.length = 4 ∨ zs.length = 6) {O : List Nat} (hO : O ∈ ordersOf (vtxCl zs) zs.length) :
    2 * vees (patB' zs O) = zs.length + 2 ∨ 2 * vees (patB' zs O) + 2 = zs.length := by
  obtain ⟨p1, p9, ps⟩ := vertex_parts hg
  have hcz : posAt zs zs.length = 0 := by simp [closesB] at hc; exact hc.2
  obtain ⟨e1, e2, e3, e4⟩ := mem_orders.1 hO
  have h := (rk_good ps hc hn).1
  rw [groupsOf_eq] at h
  have hB : ∀ s, s < zs.length → nth (orderOf zs.length O) s = layerN O s := fun s hs => by
    rw [nth_get _ _ (by simpa [orderOf] using hs)]; simp [orderOf]
  obtain ⟨o1, o2, o3, _⟩ := orderOf_ok e1 e2 e3
  rw [okFrom_iff (vtx_fair p1 hcz) e1 e2 e3] at e4
  have hnc : NoCross zs.length (posAt zs) (vtxCl zs).crs rightS (fun s => (nth (orderOf zs.length O) s : Int)) :=
    e4.congr (fun f hf => vtx_in p1 f hf) (fun s hs => by rw [hB s hs])
  have hl := allS_spec zs.length 0 [] h rfl (orderOf zs.length O) (by omega) List.nil_prefix o1 o2 ((noCross_cons (by omega) hcz _).1 hnc)
  have hv : vees (patB' zs O) = (List.range zs.length).countP (letA zs.length (orderOf zs.length O)) := by
    rw [vees, patB_map, crs_at zs (by omega), List.map_map, List.countP_map]
    refine List.countP_congr fun j hj => ?_
    rw [List.mem_range] at hj
    have hpj := prv_lt hj
    simp only [Function.comp, letterZ]
    rw [layersOf_at e1 e2 e3 hpj, layersOf_at e1 e2 e3 hj, letA, hB _ hpj, hB _ hj]
    have b : decide (((layerN O (prv zs.length j) : Nat) : Int) < ((layerN O j : Nat) : Int)) = Nat.blt (layerN O (prv zs.length j)) (layerN O j) := by
      rw [Bool.eq_iff_iff, decide_eq_true_eq, Nat.blt_eq]; omega
    have c : (prv zs.length j % 2 == 0) = Nat.beq (prv zs.length j % 2) 0 := by rw [Bool.eq_iff_iff, beq_iff_eq, Nat.beq_eq]
    rw [b, c]
    show ((UInt8.ofNat (if (Nat.beq (prv zs.length j % 2) 0 == _) = true then (86 : Int) else 77).toNat == 86) = true) ↔ (!xorB (Nat.beq (prv zs.length j % 2) 0) _) = true
    cases Nat.beq (prv zs.length j % 2) 0 <;> cases Nat.blt (layerN O (prv zs.length j)) (layerN O j) <;> decide
  rw [leafOK, Bool.or_eq_true, Nat.beq_eq, Nat.beq_eq] at hl
  rw [hv]
  exact hl

/-- The letters exchanged. -/
def swap1 (c : UInt8) : UInt8 := if c = 86 then 77 else 86
def swapB (l : List UInt8) : List UInt8 := l.map swap1
theorem kaw_swap {zs : List Int} (hg : vertexB zs = true) (hc : closesB zs = true) {O : List Nat} (hO : O ∈ ordersOf (vtxCl zs) zs.length) : O.reverse ∈ ordersOf (vtxCl zs) zs.length ∧ swapB (patB' zs O) = patB' zs O.reverse := by
  obtain ⟨p1, p9, ps⟩ := vertex_parts hg
  have hcz : posAt zs zs.length = 0 := by simp [closesB] at hc; exact hc.2
  obtain ⟨e1, e2, e3, e4⟩ := mem_orders.1 hO
  have r1 := nodup_rev e1
  have r2 : ∀ x ∈ O.reverse, x < zs.length := fun x hx => e2 x (List.mem_reverse.1 hx)
  have r3 : O.reverse.length = zs.length := by simpa using e3
  refine ⟨mem_orders.2 ⟨r1, r2, r3, ?_⟩, ?_⟩
  · rw [okFrom_iff (vtx_fair p1 hcz) r1 r2 r3]
    rw [okFrom_iff (vtx_fair p1 hcz) e1 e2 e3] at e4
    refine (e4.flip ((zs.length : Int) - 1)).congr (fun f hf => vtx_in p1 f hf) (fun s hs => ?_)
    rw [layerN_reverse e1 e2 e3 hs]
    have := layerN_lt e1 e2 e3 hs
    omega
  · rw [swapB, patB_map, patB_map, List.map_map, crs_at zs (by omega), List.map_map, List.map_map]
    refine List.map_congr_left fun j hj => ?_
    rw [List.mem_range] at hj
    have hpj := prv_lt hj
    have hne : layerN O (prv zs.length j) ≠ layerN O j := fun e => by
      have e' := layerN_inj e1 e2 e3 hpj hj e
      cases j with
      | zero => simp only [prv] at e'; have : zs.length - 1 = 0 := e'; omega
      | succ k => simp only [prv] at e'; omega
    have l1 := layerN_lt e1 e2 e3 hpj
    have l2 := layerN_lt e1 e2 e3 hj
    have hb : decide (((zs.length - 1 - layerN O (prv zs.length j) : Nat) : Int) < ((zs.length - 1 - layerN O j : Nat) : Int)) = !decide (((layerN O (prv zs.length j) : Nat) : Int) < ((layerN O j : Nat) : Int)) := by
      rw [Bool.eq_iff_iff, Bool.not_eq_true', decide_eq_true_eq, decide_eq_false_iff_not]; omega
    have h1 : letterZ (layersOf O zs.length) ⟨prv zs.length j, j, posAt zs j⟩ = if ((prv zs.length j % 2 == 0) == decide (((layerN O (prv zs.length j) : Nat) : Int) < ((layerN O j : Nat) : Int))) = true then 86 else 77 := by
      rw [letterZ]
      simp only [layersOf_at e1 e2 e3 hpj, layersOf_at e1 e2 e3 hj]
    have h2 : letterZ (layersOf O.reverse zs.length) ⟨prv zs.length j, j, posAt zs j⟩ = if ((prv zs.length j % 2 == 0) == !decide (((layerN O (prv zs.length j) : Nat) : Int) < ((layerN O j : Nat) : Int))) = true then 86 else 77 := by
      rw [letterZ]
      simp only [layersOf_at r1 r2 r3 hpj, layersOf_at r1 r2 r3 hj, layerN_reverse e1 e2 e3 hpj, layerN_reverse e1 e2 e3 hj, hb]
    show swap1 (UInt8.ofNat (letterZ (layersOf O zs.length) ⟨prv zs.length j, j, posAt zs j⟩).toNat) = UInt8.ofNat (letterZ (layersOf O.reverse zs.length) ⟨prv zs.length j, j, posAt zs j⟩).toNat
    rw [h1, h2]
    cases (prv zs.length j % 2 == 0) <;> cases decide (((layerN O (prv zs.length j) : Nat) : Int) < ((layerN O j : Nat) : Int)) <;> decide

end Go.Proofs.Yteankhgikpejhaa
