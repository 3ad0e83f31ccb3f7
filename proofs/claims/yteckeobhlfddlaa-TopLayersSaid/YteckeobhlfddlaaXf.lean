/-
  The walk of 'Spans'.
-/
import Derived.Test.YteckeobhlfddlaaXe
import Derived.Test.YteckeobhlfddlaaUa
namespace Go.Proofs.Yteckeobhlfddlaa.Rib
open Go.RowKit Go.Sort

theorem Sets.of_owns {w : World} {base n cap : Nat} {a : Option Addr} {l : List Nat} (h : w.ownsRow base 68 1 (.slice a n cap) n (l.map fun (x : Nat) => Value.int .u16 x)) : Sets w a l := by
  have hl : l.length = n := by have := h.1; simpa using this
  intro i hi
  rcases h.2 with ⟨_, h0⟩ | ⟨g, cap', cur, e, _⟩
  · omega
  · cases e
    have := h.cellAt i (by omega)
    refine ⟨g, 0, rfl, ?_⟩
    rw [Nat.zero_add, this, List.getElem?_map, List.getElem?_eq_getElem hi]
    rfl
theorem search_mem (cs : List Nat) : ∀ (f S : Nat) (r : List Nat), searchN cs f S = some r → ∀ x ∈ r, ∃ i, i < cs.length ∧ x = atC cs i
  | 0, S, r, h, x, hx => by
    rw [searchN] at h
    split at h
    · cases h; simp at hx
    · cases h
  | f + 1, S, r, h, x, hx => by
    by_cases hd : cntN S = cs.length
    · rw [searchN_done hd] at h; cases h; simp at hx
    · rw [searchN_succ hd] at h
      obtain ⟨i, hi, hi2⟩ := List.exists_of_findSome?_eq_some h
      rw [turnN] at hi2
      split at hi2
      · obtain ⟨r', hr', rfl⟩ := Option.map_eq_some_iff.1 hi2
        rcases List.mem_cons.1 hx with rfl | hx
        · exact ⟨i, List.mem_range.1 hi, rfl⟩
        · exact search_mem cs f _ r' hr' x hx
      · cases hi2

set_option maxRecDepth 100000 in
set_option maxHeartbeats 4000000 in
theorem Spans_any (N : Int) (a : Option Addr) (m cap : Nat) (es : List (Int × Int)) (n : Nat) (gs : List Nat) (w : World) (hN : N = n) (h1 : 1 ≤ n) (h2 : n ≤ 12) (hadj : Adj n gs es)
    (hcall : Calls Try.prog 14 #[.int .i64 N, .slice a m cap] w (GoodG n gs w)) (hne : cliquesN gs ≠ []) :
    Calls Try.prog 7 #[.int .i64 N, .slice a m cap] w (SpansV n gs w) := by
  have HC := Lib.hid (chordalOf_any N a m cap es n gs w hN h2 hadj hcall)
  have h16 : 2 ^ n ≤ 4096 := Nat.le_trans (Nat.pow_le_pow_right (by omega) h2) (by decide)
  unfold SpansV
  unfold ChordV at HC
  by_cases hlt : (ordI n gs).length < n
  · simp only [if_pos hlt] at HC ⊢
    subst hN
    clear hcall hadj hlt
    go_enter Try.func7, Try.ntmps7
    go_wp2_with (go_at_call 17; refine HC.out.mono ?_; rintro e w1 ⟨hb, rfl⟩; have HB := Lib.hid hb; clear hb)
    go_ret2
    exact ⟨HB.out, rfl⟩
  · simp only [if_neg hlt] at HC ⊢
    have hord : (ordN n gs).length = n := by
      obtain ⟨o1, o2, _⟩ := elimAll_order hadj h2 (2 ^ n - 1 + 1) (2 ^ n - 1) (full_lt n)
      have h3 := List.Nodup.length_le_of_subset o1 (l₂ := List.range n) fun x hx => List.mem_range.2 (bit_lt (full_lt n) (o2 x hx))
      rw [List.length_range] at h3
      rw [ordI, List.length_map] at hlt
      have h4 : (ordN n gs).length ≤ n := h3
      omega
    have hfew := clique_few hadj h2 h1 hord
    have HCQ := Lib.hid (fun (g : Nat) (wx : World) (hr : RowG wx g gs) => cliques_any (some ⟨g, 0, none⟩) n n gs wx hadj.len h2 (fun i _ => hadj.lt16 h2 i) hr.sets hne)
    unfold GivesS at HCQ
    have hmem : ∀ x ∈ srtN (cliquesN gs), x < 2 ^ 16 := fun x hx => by
      have := clique_lt hadj (srt_mem.1 hx); omega
    have hk1 : 1 ≤ (srtN (cliquesN gs)).length := by
      rw [srt_len]; exact List.length_pos_iff.2 hne
    have hk12 : (srtN (cliquesN gs)).length ≤ 12 := by rw [srt_len]; omega
    obtain ⟨cs, hcs⟩ : ∃ cs, srtN (cliquesN gs) = cs := ⟨_, rfl⟩
    rw [hcs] at HCQ hmem hk1 hk12 ⊢
    have HRO := Lib.hid (fun (wx : World) (ad : Option Addr) (cp : Nat) (hz : Sets wx ad cs) => rowOf_any ad cs.length cp cs wx rfl hk1 hk12 hmem hz)
    have HM : Hid (∀ r, searchN cs cs.length 0 = some r → ∀ x ∈ r, x < 65536) := Lib.hid (fun r hr x hx => by
      obtain ⟨i, hi, rfl⟩ := search_mem cs _ _ r hr x hx
      exact atC_lt (by omega) hmem i)
    obtain ⟨so, hso⟩ : ∃ so, searchN cs cs.length 0 = so := ⟨_, rfl⟩
    rw [hso] at HRO HM ⊢
    obtain ⟨k, hk⟩ : ∃ k, cs.length = k := ⟨_, rfl⟩
    rw [hk] at HCQ HRO
    subst hN
    clear hcall hadj hlt hord hfew hmem hcs hso hk hk1 hk12 hne
    cases so with
    | none =>
      go_enter Try.func7, Try.ntmps7
      go_wp2_with (first
        | (go_at_call 17; refine HC.out.mono ?_; rintro e w1 ⟨hb, g, a1, c1, rfl, hr, hge, hown⟩; have HB := Lib.hid (And.intro hb hr); clear hb hr hown)
        | (go_at_call 19; refine (HCQ.out g _ HB.out.2).mono ?_; rintro e w2 ⟨g2, c2, rfl, hz2, hge2, hb2⟩; have H2 := Lib.hid (And.intro hz2 (HB.out.1.trans (hb2.mono HB.out.1.size))); clear hz2 hb2)
        | (go_at_call 18; refine (HRO.out _ _ _ H2.out.1).mono ?_; rintro e w3 ⟨hb3, rfl⟩; have H3 := Lib.hid (H2.out.2.trans (hb3.mono H2.out.2.size)); clear hb3))
      go_ret2
      exact ⟨H3.out, rfl⟩
    | some r =>
      have HMR := Lib.hid (HM.out r rfl)
      clear HM
      go_enter Try.func7, Try.ntmps7
      go_wp2_with (first
        | (go_at_call 17; refine HC.out.mono ?_; rintro e w1 ⟨hb, g, a1, c1, rfl, hr, hge, hown⟩; have HB := Lib.hid (And.intro hb hr); clear hb hr hown)
        | (go_at_call 19; refine (HCQ.out g _ HB.out.2).mono ?_; rintro e w2 ⟨g2, c2, rfl, hz2, hge2, hb2⟩; have H2 := Lib.hid (And.intro hz2 (HB.out.1.trans (hb2.mono HB.out.1.size))); clear hz2 hb2)
        | (go_at_call 18; refine (HRO.out _ _ _ H2.out.1).mono ?_; rintro e w3 ⟨hb3, a3, c3, rfl, hl3, hrow⟩; have H3 := Lib.hid (And.intro (H2.out.2.trans (hb3.mono H2.out.2.size)) (And.intro hl3 (Sets.of_owns hrow))); clear hb3 hl3 hrow)
        | (go_at_call 20; refine (spansIn_any _ _ n n r.length c3 r _ h2 rfl (by have := H3.out.2.1; omega) HMR.out H3.out.2.2).mono ?_; rintro e w4 ⟨rfl, hr4, hb4⟩; have H4 := Lib.hid (And.intro hr4 hb4); clear hr4 hb4))
      go_ret2
      exact ⟨H3.out.1.trans (H4.out.2.mono H3.out.1.size), _, rfl, H3.out.1.size, H4.out.1⟩

set_option maxRecDepth 100000 in
set_option maxHeartbeats 2000000 in
theorem Spans_bad {N : Int} {es : List (Int × Int)} (h : graphR N es = false) (a : Option Addr) (m cap : Nat) (w : World) (hl : es.length = m) (hm : m ≤ 1000) (he : Edges w a es) :
    Calls Try.prog 7 #[.int .i64 N, .slice a m cap] w (Gives2 (.slice none 0 0) (.int .i64 1) w) := by
  have HC := Lib.hid (chordalOf_bad h a m cap w hl hm he)
  clear h hl he
  go_enter Try.func7, Try.ntmps7
  go_wp2_with (go_at_call 17; refine HC.out.mono ?_; rintro e w1 ⟨rfl, hb⟩; have HB := Lib.hid hb; clear hb)
  go_ret2
  exact ⟨rfl, HB.out⟩

end Go.Proofs.Yteckeobhlfddlaa.Rib
