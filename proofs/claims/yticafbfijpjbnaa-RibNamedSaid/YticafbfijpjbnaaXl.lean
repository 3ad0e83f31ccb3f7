/-
  Valid graphs; a graph without a node, pure: it stays chordal, and an interval graph.
-/
import Derived.Test.YticafbfijpjbnaaXk
namespace Go.Proofs.Yticafbfijpjbnaa

theorem validFrom_iff (n : Int) : ∀ (es pre : List (Int × Int)), validFrom n pre es = true ↔ (∀ e ∈ es, 0 ≤ e.1 ∧ e.1 < e.2 ∧ e.2 < n) ∧ es.Nodup ∧ ∀ e ∈ es, e ∉ pre
  | [], pre => by simp [validFrom]
  | e :: es, pre => by
    rw [validFrom, Bool.and_eq_true, validFrom_iff n es (pre ++ [e])]
    have hok : okE n pre e = true ↔ (0 ≤ e.1 ∧ e.1 < e.2 ∧ e.2 < n) ∧ e ∉ pre := by
      simp only [okE, inR, Bool.and_eq_true, decide_eq_true_eq, Bool.not_eq_true', List.any_eq_false, beq_iff_eq]
      constructor
      · rintro ⟨⟨h1, h2⟩, ⟨h3, h4⟩, h5⟩
        exact ⟨⟨by omega, by omega, by omega⟩, fun hm => h5 e hm rfl⟩
      · rintro ⟨⟨h1, h2, h3⟩, h5⟩
        exact ⟨⟨by omega, by omega⟩, ⟨by omega, by omega⟩, fun x hx hxe => h5 (hxe ▸ hx)⟩
    rw [hok]
    constructor
    · rintro ⟨⟨h1, h2⟩, h3, h4, h5⟩
      refine ⟨fun x hx => ?_, List.nodup_cons.2 ⟨fun hm => (h5 e hm) (by simp), h4⟩, fun x hx => ?_⟩
      · rcases List.mem_cons.1 hx with rfl | hx
        · exact h1
        · exact h3 x hx
      · rcases List.mem_cons.1 hx with rfl | hx
        · exact h2
        · exact fun hm => h5 x hx (by simp [hm])
    · rintro ⟨h1, h2, h3⟩
      obtain ⟨h4, h5⟩ := List.nodup_cons.1 h2
      refine ⟨⟨h1 e (by simp), h3 e (by simp)⟩, fun x hx => h1 x (by simp [hx]), h5, fun x hx hm => ?_⟩
      rcases List.mem_append.1 hm with hm | hm
      · exact h3 x (by simp [hx]) hm
      · rw [List.mem_singleton] at hm
        subst hm; exact h4 hx
theorem graphR_iff {n : Int} {es : List (Int × Int)} : graphR n es = true ↔ (1 ≤ n ∧ n ≤ 12) ∧ (∀ e ∈ es, 0 ≤ e.1 ∧ e.1 < e.2 ∧ e.2 < n) ∧ es.Nodup := by
  rw [graphR, Bool.and_eq_true, validFrom_iff, inR, Bool.and_eq_true, decide_eq_true_iff, decide_eq_true_iff]
  constructor
  · rintro ⟨h1, h2, h3, _⟩; exact ⟨h1, h2, h3⟩
  · rintro ⟨h1, h2, h3⟩; exact ⟨h1, h2, h3, fun e _ => by simp⟩
/-- One edge more. -/
theorem graphR_snoc {n : Int} {es : List (Int × Int)} {a b : Int} (h : graphR n es = true) (ha : 0 ≤ a ∧ a < n) (hb : 0 ≤ b ∧ b < n) (hab : a ≠ b) (hn : nearB es a b = false) : graphR n (es ++ [(min a b, max a b)]) = true := by
  rw [graphR_iff] at h ⊢
  obtain ⟨h1, h2, h3⟩ := h
  refine ⟨h1, fun e he => ?_, ?_⟩
  · rcases List.mem_append.1 he with he | he
    · exact h2 e he
    · rw [List.mem_singleton] at he
      subst he
      simp only []
      omega
  · rw [List.nodup_append]
    refine ⟨h3, by simp, fun x hx y hy e => ?_⟩
    rw [List.mem_singleton] at hy
    subst hy
    subst e
    rw [nearB_iff.2 ⟨hx, hab⟩] at hn
    cases hn

/-! ### Without a node -/
def dnZ (v i : Int) : Int := if v < i then i - 1 else i
def upZ (v i : Int) : Int := if i < v then i else i + 1
def keepE (v : Int) (e : Int × Int) : Bool := decide (e.1 ≠ v) && decide (e.2 ≠ v)
def dnE (v : Int) (e : Int × Int) : Int × Int := (dnZ v e.1, dnZ v e.2)
def woE (v : Int) (es : List (Int × Int)) : List (Int × Int) := (es.filter (keepE v)).map (dnE v)
theorem dn_up (v i : Int) : dnZ v (upZ v i) = i := by unfold dnZ upZ; split <;> split <;> omega
theorem up_dn {v i : Int} (h : i ≠ v) : upZ v (dnZ v i) = i := by unfold dnZ upZ; split <;> split <;> omega
theorem up_ne (v i : Int) : upZ v i ≠ v := by unfold upZ; split <;> omega
theorem woE_good {n v : Int} {es : List (Int × Int)} (h : graphR n es = true) (hn : 2 ≤ n) (hv : 0 ≤ v ∧ v < n) : graphR (n - 1) (woE v es) = true := by
  rw [graphR_iff] at h ⊢
  obtain ⟨h1, h2, h3⟩ := h
  refine ⟨by omega, fun e he => ?_, ?_⟩
  · obtain ⟨x, hx, rfl⟩ := List.mem_map.1 he
    rw [List.mem_filter, keepE, Bool.and_eq_true, decide_eq_true_iff, decide_eq_true_iff] at hx
    have := h2 x hx.1
    have h4 := hx.2.1
    have h5 := hx.2.2
    unfold dnE dnZ
    simp only []
    split <;> split <;> omega
  · rw [woE, List.Nodup, List.pairwise_map]
    refine List.Pairwise.imp_of_mem (fun {x y} hx hy hxy e => hxy ?_) (h3.sublist List.filter_sublist)
    rw [List.mem_filter, keepE, Bool.and_eq_true, decide_eq_true_iff, decide_eq_true_iff] at hx hy
    unfold dnE at e
    rw [Prod.mk.injEq] at e
    have e1 := congrArg (upZ v) e.1
    have e2 := congrArg (upZ v) e.2
    rw [up_dn hx.2.1, up_dn hy.2.1] at e1
    rw [up_dn hx.2.2, up_dn hy.2.2] at e2
    exact Prod.ext e1 e2
theorem near_wo {v : Int} {es : List (Int × Int)} (a b : Int) : nearB (woE v es) a b = nearB es (upZ v a) (upZ v b) := by
  rw [Bool.eq_iff_iff, nearB_iff, nearB_iff]
  have hmm : min (upZ v a) (upZ v b) = upZ v (min a b) ∧ max (upZ v a) (upZ v b) = upZ v (max a b) := by
    unfold upZ
    constructor <;> (split <;> split <;> split <;> omega)
  rw [hmm.1, hmm.2]
  have hne : a ≠ b ↔ upZ v a ≠ upZ v b := not_congr ⟨fun e => by rw [e], fun e => by have := congrArg (dnZ v) e; rwa [dn_up, dn_up] at this⟩
  rw [← hne]
  refine and_congr_left fun _ => ?_
  rw [woE, List.mem_map]
  constructor
  · rintro ⟨x, hx, e⟩
    rw [List.mem_filter, keepE, Bool.and_eq_true, decide_eq_true_iff, decide_eq_true_iff] at hx
    unfold dnE at e
    rw [Prod.mk.injEq] at e
    have e1 := congrArg (upZ v) e.1
    have e2 := congrArg (upZ v) e.2
    rw [up_dn hx.2.1] at e1
    rw [up_dn hx.2.2] at e2
    rw [← e1, ← e2]
    exact hx.1
  · intro hx
    exact ⟨_, List.mem_filter.2 ⟨hx, by rw [keepE, Bool.and_eq_true, decide_eq_true_iff, decide_eq_true_iff]; exact ⟨up_ne v _, up_ne v _⟩⟩, by unfold dnE; simp only [dn_up]⟩
/-- The same for nodes as naturals. -/
def upN (v i : Nat) : Nat := if i < v then i else i + 1
def dnN (v i : Nat) : Nat := if v < i then i - 1 else i
theorem upN_Z (v i : Nat) : upZ (v : Int) (i : Int) = ((upN v i : Nat) : Int) := by unfold upZ upN; split <;> split <;> omega
theorem dnN_up (v i : Nat) : dnN v (upN v i) = i := by unfold dnN upN; split <;> split <;> omega
theorem upN_dn {v i : Nat} (h : i ≠ v) : upN v (dnN v i) = i := by unfold dnN upN; split <;> split <;> omega
theorem upN_ne (v i : Nat) : upN v i ≠ v := by unfold upN; split <;> omega
theorem upN_lt {v i n : Nat} (hv : v < n) (hi : i < n - 1) : upN v i < n := by unfold upN; split <;> omega
theorem nearE_wo {v : Nat} {es : List (Int × Int)} (a b : Nat) : nearE (woE v es) a b ↔ nearE es (upN v a) (upN v b) := by
  unfold nearE
  rw [near_wo, upN_Z, upN_Z]
theorem chd_wo {n v : Nat} {es : List (Int × Int)} (hv : v < n) (h : Chd (nearE es) n (2 ^ n - 1)) : Chd (nearE (woE v es)) (n - 1) (2 ^ (n - 1) - 1) := by
  intro T hT h0 _
  have bit : ∀ b, (maskP (fun b => decide (b ≠ v) && T.testBit (dnN v b)) n).testBit b = true ↔ b < n ∧ b ≠ v ∧ T.testBit (dnN v b) = true := fun b => by
    rw [maskP_bit, Bool.and_eq_true, Bool.and_eq_true, decide_eq_true_iff, decide_eq_true_iff]
  have bup : ∀ b, T.testBit b = true → (maskP (fun b => decide (b ≠ v) && T.testBit (dnN v b)) n).testBit (upN v b) = true := fun b hb => (bit _).2 ⟨upN_lt hv (bit_lt hT hb), upN_ne v b, by rw [dnN_up]; exact hb⟩
  obtain ⟨b0, hb0⟩ := some_bit h0
  obtain ⟨s, hs1, hs2⟩ := h _ (maskP_lt _ _) (not_zero (bup b0 hb0)) (fun b hb => by rw [full_bits, decide_eq_true_iff]; exact ((bit b).1 hb).1)
  obtain ⟨_, hsv, hsT⟩ := (bit s).1 hs1
  refine ⟨dnN v s, hsT, fun a b ha hb h1 h2 hab => ?_⟩
  rw [nearE_wo, upN_dn hsv] at h1 h2
  rw [nearE_wo]
  exact hs2 _ _ (bup a ha) (bup b hb) h1 h2 fun e => hab (by have := congrArg (dnN v) e; rwa [dnN_up, dnN_up] at this)
theorem rep_wo {n v : Nat} {es : List (Int × Int)} (hv : v < n) {L H : Nat → Int} (h : Rep es n L H) : Rep (woE v es) (n - 1) (fun a => L (upN v a)) (fun a => H (upN v a)) where
  le a ha := h.le _ (upN_lt hv ha)
  near a b ha hb hab := by
    rw [nearE_wo]
    exact h.near _ _ (upN_lt hv ha) (upN_lt hv hb) fun e => hab (by have := congrArg (dnN v) e; rwa [dnN_up, dnN_up] at this)

/-- The errors of Order and of Spans of a valid graph. -/
def errO (n : Nat) (gs : List Nat) : Int := if (ordI n gs).length < n then 5 else 0
def errS (n : Nat) (gs : List Nat) : Int := if (ordI n gs).length < n then 5 else if searchN (srtN (cliquesN gs)) (srtN (cliquesN gs)).length 0 = none then 5 else 0
theorem errO_chd {n : Nat} {gs : List Nat} {es : List (Int × Int)} (h : Adj n gs es) (hn : n ≤ 12) : errO n gs = 0 ↔ Chd (nearE es) n (2 ^ n - 1) := by
  rw [← chdB_iff h hn (full_lt n), ← chord_chdB h hn, chord_same h hn, decide_eq_true_iff, errO]
  obtain ⟨o1, o2, _⟩ := elimAll_order h hn (2 ^ n - 1 + 1) (2 ^ n - 1) (full_lt n)
  have h3 := List.Nodup.length_le_of_subset o1 (l₂ := List.range n) fun x hx => List.mem_range.2 (bit_lt (full_lt n) (o2 x hx))
  rw [List.length_range] at h3
  have h4 : (ordN n gs).length ≤ n := h3
  rw [ordI, List.length_map]
  split <;> omega
theorem errO_le (n : Nat) (gs : List Nat) : errO n gs = 0 ∨ errO n gs = 5 := by unfold errO; split <;> simp
theorem errS_le (n : Nat) (gs : List Nat) : errS n gs = 0 ∨ errS n gs = 5 := by unfold errS; split <;> (try split) <;> simp
theorem errS_rep {n : Nat} {gs : List Nat} {es : List (Int × Int)} (h : Adj n gs es) (h1 : 1 ≤ n) (hn : n ≤ 12) : errS n gs = 0 ↔ ∃ L H, Rep es n L H := by
  constructor
  · intro he
    have ho : errO n gs = 0 := by
      unfold errS at he; unfold errO
      split at he
      · cases he
      · rename_i hh; rw [if_neg hh]
    have hc := (errO_chd h hn).1 ho
    rw [← chdB_iff h hn (full_lt n), ← chord_chdB h hn, chord_same h hn, decide_eq_true_iff] at hc
    have hf := clique_few h hn h1 hc
    unfold errS at he
    split at he
    · cases he
    · split at he
      · cases he
      · rename_i hs
        obtain ⟨r, hr⟩ := Option.ne_none_iff_exists'.1 hs
        exact row_rep h hn (by rw [srt_len]; omega) hr
  · rintro ⟨L, H, hr⟩
    have hc := interval_chd hr
    have ho := (errO_chd h hn).2 hc
    rw [← chdB_iff h hn (full_lt n), ← chord_chdB h hn, chord_same h hn, decide_eq_true_iff] at hc
    have hf := clique_few h hn h1 hc
    unfold errO at ho
    split at ho
    · cases ho
    · rename_i hh
      rw [errS, if_neg hh, if_neg (interval_row h hn h1 hr (by rw [srt_len]; omega))]
/-- What the law says of the four errors. -/
theorem parts_true {n v : Nat} {gs hs : List Nat} {es : List (Int × Int)} (hg : Adj n gs es) (h2 : 2 ≤ n) (hn : n ≤ 12) (hv : v < n) (hh : Adj (n - 1) hs (woE v es)) :
    (errO n gs = 0 → errO (n - 1) hs = 0) ∧ (errS n gs = 0 → errS (n - 1) hs = 0 ∧ errO n gs = 0) := by
  refine ⟨fun h => (errO_chd hh (by omega)).2 (chd_wo hv ((errO_chd hg hn).1 h)), fun h => ?_⟩
  obtain ⟨L, H, hr⟩ := (errS_rep hg (by omega) hn).1 h
  exact ⟨(errS_rep hh (by omega) (by omega)).2 ⟨_, _, rep_wo hv hr⟩, (errO_chd hg hn).2 (interval_chd hr)⟩

end Go.Proofs.Yticafbfijpjbnaa
