/-
  Clique trees, pure: the reference's tree is the program's; a graph with a clique tree is chordal.
-/
import Derived.Test.YtdlfoompfaipnaaVb
import Derived.Test.YtdlfoompfaipnaaUh
namespace Go.Proofs.Ytdlfoompfaipnaa
open Go.RowKit Go.Sort

theorem mem_listI {s v : Nat} : (v : Int) ∈ listI s ↔ v < 12 ∧ s.testBit v = true := by
  unfold listI listN
  rw [List.mem_map]
  constructor
  · rintro ⟨x, hx, e⟩
    have : x = v := by omega
    subst this
    rw [List.mem_filter, List.mem_range] at hx
    exact hx
  · intro h
    exact ⟨v, List.mem_filter.2 ⟨List.mem_range.2 h.1, h.2⟩, rfl⟩
theorem listI_zero : listI 0 = [] := by decide
theorem get_listI (cs : List Nat) (i : Nat) : (cs.map listI)[i]?.getD [] = listI (cs[i]?.getD 0) := by
  rw [List.getElem?_map]
  cases h : cs[i]? with
  | none => simp [listI_zero]
  | some s => rfl
theorem stay_same {n : Nat} (hn : n ≤ 12) (cs : List Nat) (t : List (Int × Int)) : stayL (cs.map listI) t n = stayB cs t n := by
  have key : ∀ v, v < n → stayAtL (cs.map listI) t v = stayAt cs t v := fun v hv => by
    have hb : ∀ s : Nat, decide ((v : Int) ∈ listI s) = s.testBit v := fun s => by
      rw [Bool.eq_iff_iff, decide_eq_true_eq, mem_listI]
      exact ⟨fun h => h.2, fun h => ⟨by omega, h⟩⟩
    have e1 : cntL (cs.map listI) v (cs.map listI).length = cntTo cs v cs.length := by
      rw [cntL, cntTo, List.take_length, List.take_length, List.filter_map, List.length_map]
      congr 1
      exact List.filter_congr fun s _ => hb s
    have e2 : prtL (cs.map listI) t v t.length = prtTo cs t v t.length := by
      rw [prtL, prtTo]
      congr 1
      refine List.filter_congr fun p _ => ?_
      rw [pairL, pairHas, get_listI, get_listI, hb, hb, Nat.testBit_and]
    rw [stayAtL, stayAt, e1, e2]
  rw [stayL, stayB, Bool.eq_iff_iff, List.all_eq_true, List.all_eq_true]
  exact ⟨fun h v hv => by rw [← key v (List.mem_range.1 hv)]; exact h v hv, fun h v hv => by rw [key v (List.mem_range.1 hv)]; exact h v hv⟩
theorem tree_same {n : Nat} {gs : List Nat} {es : List (Int × Int)} (h : Adj n gs es) (hn : n ≤ 12) (t : List (Int × Int)) : treeR (refCl es n (2 ^ n)) t n = (isTreeB (srtN (cliquesN gs)).length t && stayB (srtN (cliquesN gs)) t n) := by
  rw [← cliques_same h hn, treeR, cliqueLists, List.length_map, stay_same hn]

theorem last_from (p : Nat → Prop) : ∀ k, (∃ s, s < k ∧ p s) → ∃ s, s < k ∧ p s ∧ ∀ t, s < t → t < k → ¬ p t := by
  intro k
  induction k with
  | zero => rintro ⟨s, h, _⟩; omega
  | succ k ih =>
    rintro ⟨s0, h0, hp0⟩
    by_cases hk : p k
    · exact ⟨k, by omega, hk, fun t h1 h2 => by omega⟩
    · have hlt : s0 < k := by
        by_cases e : s0 = k
        · subst e; exact absurd hp0 hk
        · omega
      obtain ⟨s, h1, h2, h3⟩ := ih ⟨s0, hlt, hp0⟩
      refine ⟨s, by omega, h2, fun t h4 h5 => ?_⟩
      by_cases e : t = k
      · subst e; exact hk
      · exact h3 t h4 (by omega)
theorem bit_lt {n s b : Nat} (hs : s < 2 ^ n) (hb : s.testBit b = true) : b < n := by
  rcases Nat.lt_or_ge b n with h' | h'
  · exact h'
  · rw [Nat.testBit_lt_two_pow (Nat.lt_of_lt_of_le hs (Nat.pow_le_pow_right (by omega) h'))] at hb; cases hb
/-- Each clique lies in a maximal one. -/
theorem clique_in {n : Nat} {gs : List Nat} {es : List (Int × Int)} (h : Adj n gs es) (hn : n ≤ 12) {s0 : Nat} (hs0 : s0 < 2 ^ n) (hc0 : ∀ a b : Nat, s0.testBit a = true → s0.testBit b = true → a ≠ b → nearB es a b = true) : ∃ s ∈ cliquesN gs, ∀ b, s0.testBit b = true → s.testBit b = true := by
  obtain ⟨s, hs, ⟨hc, hsub⟩, hlast⟩ := last_from (fun s => (∀ a b : Nat, s.testBit a = true → s.testBit b = true → a ≠ b → nearB es a b = true) ∧ ∀ b, s0.testBit b = true → s.testBit b = true) (2 ^ n) ⟨s0, hs0, hc0, fun _ hb => hb⟩
  have hmax : maxAt gs s = true := by
    rw [max_same h hn hs, maxR, Bool.and_eq_true]
    have hcl : cliqueR es (bitsR s n) = true := by
      rw [cliqueR_mem (bitsR_nodup s n)]
      intro a ha b hb hab
      obtain ⟨x, rfl, _, hx⟩ := mem_bitsR.1 ha
      obtain ⟨y, rfl, _, hy⟩ := mem_bitsR.1 hb
      exact hc x y hx hy (by omega)
    refine ⟨hcl, ?_⟩
    simp only [wholeR, List.all_eq_true, List.mem_range, wholeAt, Bool.or_eq_true, Bool.not_eq_true']
    intro i hi
    cases hsi : s.testBit i with
    | true => exact .inl rfl
    | false =>
      refine .inr ?_
      rw [Bool.eq_false_iff]
      intro hcc
      have h2 := (clique_more hsi hcl).1 hcc
      have hp : 2 ^ i < 2 ^ n := Nat.pow_lt_pow_right (by omega) hi
      have hlt : s ||| 2 ^ i < 2 ^ n := Nat.or_lt_two_pow hs hp
      have hgt : s < s ||| 2 ^ i := by
        refine Nat.lt_of_le_of_ne Nat.left_le_or fun e => ?_
        have := congrArg (fun z => Nat.testBit z i) e
        simp [Nat.testBit_or, hsi] at this
      refine hlast _ hgt hlt ⟨fun a b ha hb hab => ?_, fun b hb => by rw [Nat.testBit_or, hsub b hb]; rfl⟩
      rw [Nat.testBit_or, Nat.testBit_two_pow, Bool.or_eq_true, decide_eq_true_eq] at ha hb
      rcases ha with ha | rfl <;> rcases hb with hb | rfl
      · exact hc a b ha hb hab
      · rw [nearB_comm]; exact h2 a (bit_lt hs ha) ha
      · exact h2 b (bit_lt hs hb) hb
      · exact absurd rfl hab
  refine ⟨s, ?_, hsub⟩
  unfold cliquesN clsTo
  rw [List.mem_filter, List.mem_range, h.len]
  exact ⟨hs, hmax⟩
theorem clique_is {n : Nat} {gs : List Nat} {es : List (Int × Int)} (h : Adj n gs es) (hn : n ≤ 12) {s : Nat} (hs : s ∈ cliquesN gs) : s < 2 ^ n ∧ ∀ a b : Nat, s.testBit a = true → s.testBit b = true → a ≠ b → nearB es a b = true := by
  unfold cliquesN clsTo at hs
  rw [List.mem_filter, List.mem_range, h.len] at hs
  refine ⟨hs.1, fun a b ha hb hab => ?_⟩
  have := hs.2
  rw [max_same h hn hs.1, maxR, Bool.and_eq_true, cliqueR_mem (bitsR_nodup s n)] at this
  exact this.1 a (mem_bitsR.2 ⟨a, rfl, bit_lt hs.1 ha, ha⟩) b (mem_bitsR.2 ⟨b, rfl, bit_lt hs.1 hb, hb⟩) (by omega)

theorem by_index (cs : List Nat) (p : Nat → Bool) : (cs.filter p).length = ((List.range cs.length).filter fun i => p (cs[i]?.getD 0)).length := by
  have e : cs = (List.range cs.length).map fun i => cs[i]?.getD 0 := by
    refine List.ext_getElem (by simp) fun i h1 h2 => ?_
    simp [h1]
  have h := congrArg (fun l => (l.filter p).length) e
  simp only [List.filter_map, List.length_map] at h
  exact h

/-- Every set of nodes has one that can be eliminated. -/
theorem tree_elim {n : Nat} {gs : List Nat} {es : List (Int × Int)} (h : Adj n gs es) (hn : n ≤ 12) {t : List (Int × Int)} (ht : (isTreeB (srtN (cliquesN gs)).length t && stayB (srtN (cliquesN gs)) t n) = true) {s : Nat} (hs : s < 2 ^ n) (hs0 : s ≠ 0) : elimOf gs s ≠ none := by
  obtain ⟨cs, hcs⟩ : ∃ cs, srtN (cliquesN gs) = cs := ⟨_, rfl⟩
  have hmem : ∀ x, x ∈ cs ↔ x ∈ cliquesN gs := fun x => by rw [← hcs]; exact List.mem_mergeSort
  rw [hcs, Bool.and_eq_true, isTreeB, Bool.and_eq_true, decide_eq_true_eq] at ht
  obtain ⟨⟨hlen, htree⟩, hstay⟩ := ht
  have hpo := treeFrom_ok _ _ _ htree
  have hget : ∀ i, i < cs.length → cs[i]?.getD 0 ∈ cliquesN gs := fun i hi => by
    rw [List.getElem?_eq_getElem hi]; exact (hmem _).1 (List.getElem_mem hi)
  have hin : ∀ p ∈ t, p.1.toNat < cs.length ∧ p.2.toNat < cs.length := fun p hp => by have := hpo p hp; omega
  have hmain := gavril htree hpo (fun i v => (cs[i]?.getD 0).testBit v) (fun v => s.testBit v) (fun v w => nearB es v w) cs.length (List.range cs.length) (by simp) List.nodup_range (fun x hx => List.mem_range.1 hx) (by
      intro e
      have := congrArg List.length e
      simp at this
      rw [this] at hlen
      simp at hlen) (by
      rw [List.length_range, edgesIn, List.filter_eq_self.2, hlen]
      intro p hp
      have := hin p hp
      simp [inBoth, this]) (by
      intro v hv
      have hvn := bit_lt hs hv
      rw [stayB, List.all_eq_true] at hstay
      have h1 := hstay v (List.mem_range.2 hvn)
      rw [stayAt, decide_eq_true_eq, cntTo, prtTo, List.take_length, List.take_length, by_index] at h1
      rw [h1, edgesIn]
      congr 2
      refine List.filter_congr fun p hp => ?_
      have := hin p hp
      rw [pairHas, Nat.testBit_and, Bool.eq_iff_iff]
      simp [inBoth, this]) (by
      intro v w hv hw hvw
      have hvn := bit_lt hs hv
      have hwn := bit_lt hs hw
      have hlt : 2 ^ v ||| 2 ^ w < 2 ^ n := Nat.or_lt_two_pow (Nat.pow_lt_pow_right (by omega) hvn) (Nat.pow_lt_pow_right (by omega) hwn)
      have hb : ∀ b, (2 ^ v ||| 2 ^ w).testBit b = true ↔ v = b ∨ w = b := fun b => by
        rw [Nat.testBit_or, Nat.testBit_two_pow, Nat.testBit_two_pow, Bool.or_eq_true, decide_eq_true_eq, decide_eq_true_eq]
      obtain ⟨q, hq, hsub⟩ := clique_in h hn hlt fun a b ha hb' hab => by
        rcases (hb a).1 ha with rfl | rfl <;> rcases (hb b).1 hb' with rfl | rfl
        · exact absurd rfl hab
        · rcases hvw with e | e
          · exact absurd e hab
          · exact e
        · rcases hvw with e | e
          · exact absurd e.symm hab
          · rw [nearB_comm]; exact e
        · exact absurd rfl hab
      obtain ⟨i, hi, e⟩ := List.getElem_of_mem ((hmem q).2 hq)
      refine ⟨i, List.mem_range.2 hi, ?_, ?_⟩
      · rw [List.getElem?_eq_getElem hi, Option.getD_some, e]; exact hsub v ((hb v).2 (.inl rfl))
      · rw [List.getElem?_eq_getElem hi, Option.getD_some, e]; exact hsub w ((hb w).2 (.inr rfl))) (by
      refine Classical.byContradiction fun hno => hs0 (Nat.eq_of_testBit_eq fun b => ?_)
      rw [Nat.zero_testBit, Bool.eq_false_iff]
      exact fun hb => hno ⟨b, hb⟩)
  obtain ⟨v, i, hv, hi, hiv, hall⟩ := hmain
  have hvn := bit_lt hs hv
  obtain ⟨_, hcl⟩ := clique_is h hn (hget i hi)
  intro hnone
  rw [elimOf, List.find?_eq_none] at hnone
  refine hnone v (List.mem_range.2 (by rw [h.len]; exact hvn)) ?_
  rw [elimAt, Bool.and_eq_true]
  refine ⟨hv, ?_⟩
  rw [cliqueB_iff h hn (by rw [Nat.and_comm]; exact and_lt_pow hs)]
  have key : ∀ b, (gs[v]?.getD 0 &&& s).testBit b = true → (cs[i]?.getD 0).testBit b = true := fun b hb => by
    rw [Nat.testBit_and, h.bit v b hvn, Bool.and_eq_true, Bool.or_eq_true] at hb
    rcases hb.1 with e | e
    · first
        | exact hall b hb.2 e
        | (have : v = b := by simpa using e
           rw [← this]; exact hiv)
    · first
        | exact hall b hb.2 e
        | (have : v = b := by simpa using e
           rw [← this]; exact hiv)
  exact fun a b ha hb hab => hcl a b (key a ha) (key b hb) hab
theorem chord_all {n : Nat} {gs : List Nat} {es : List (Int × Int)} (h : Adj n gs es) (hn : n ≤ 12) (hall : ∀ s, s < 2 ^ n → s ≠ 0 → elimOf gs s ≠ none) : ∀ (q s : Nat), s < 2 ^ n → (bitsN s n).length = q → chordL es q (bitsR s n) = true
  | 0, _, _, _ => rfl
  | q + 1, s, hs, hq => by
    cases ha : atR es (bitsR s n) with
    | none =>
      refine absurd ((at_same h hn hs).2 ha) (hall s hs fun e => ?_)
      subst e
      rw [show bitsN 0 n = [] from by simp [bitsN]] at hq
      simp at hq
    | some i =>
      obtain ⟨hi, _⟩ := (at_same h hn hs).1 i ha
      rw [chordL_some ha, without_same hn hi]
      have hw := congrArg List.length (without_same hn hi)
      rw [without_len _ _ (by rw [bitsR_N, List.length_map]; exact hi), bitsR_N, bitsR_N, List.length_map, List.length_map, hq] at hw
      exact chord_all h hn hall q _ (Nat.lt_of_le_of_lt Nat.and_le_left hs) (by omega)
/-- A graph with a clique tree is chordal. -/
theorem tree_chordal {n : Nat} {gs : List Nat} {es : List (Int × Int)} (h : Adj n gs es) (hn : n ≤ 12) {t : List (Int × Int)} (ht : (isTreeB (srtN (cliquesN gs)).length t && stayB (srtN (cliquesN gs)) t n) = true) : chordR es n = true := by
  have e : bitsN (2 ^ n - 1) n = List.range n := by
    rw [bitsN, List.filter_eq_self]
    intro b hb
    rw [Nat.testBit_two_pow_sub_one]
    exact decide_eq_true (List.mem_range.1 hb)
  have := chord_all h hn (fun s hs hs0 => tree_elim h hn ht hs hs0) n (2 ^ n - 1) (Nat.sub_lt (Nat.pow_pos (by omega)) (by omega)) (by rw [e, List.length_range])
  rw [bitsR_N, e] at this
  exact this

end Go.Proofs.Ytdlfoompfaipnaa
