/-
  'Colors': the walk; what the colours and the cover of a chordal graph are, pure.
-/
import Derived.Test.YthlbedhjekbfpaaDoorZh
import Derived.Test.YthlbedhjekbfpaaDoorZe
import Derived.Test.YthlbedhjekbfpaaDoorYd
import Derived.Test.YthlbedhjekbfpaaDoorWa
namespace Go.Proofs.YthlbedhjekbfpaaDoor
open Go.RowKit Go.Sort

/-- The colours of a chordal graph. -/
def colsN (n : Nat) (gs : List Nat) : List Nat := (colTo gs n (ordN n gs).reverse).1
def colsI (n : Nat) (gs : List Nat) : List Int := (colsN n gs).map fun (x : Nat) => (x : Int)
/-- What 'Colors' hands back of a valid graph. -/
def ColsV (n : Nat) (gs : List Nat) (w : World) (e : Ending) (w' : World) : Prop := Below w.heap.size w w' ∧
  (if (ordI n gs).length < n then e = .returned (.tuple #[.slice none 0 0, .int .i64 5])
   else ∃ g, e = .returned (.tuple #[.slice (some ⟨g, 0, none⟩) n n, .int .i64 0]) ∧ Ints w' (some ⟨g, 0, none⟩) (colsI n gs))
theorem ordI_cells {w : World} {base c : Nat} {b : Option Addr} {n : Nat} {gs : List Nat} (h : w.ownsRow base 3 1 (.slice b (ordI n gs).length c) (ordI n gs).length ((ordI n gs).map (Value.int .i64))) (h0 : (ordI n gs).length ≠ 0) :
    ∃ g, b = some ⟨g, 0, none⟩ ∧ g < w.heap.size ∧ ∀ j, j < (ordN n gs).length → w.cell? ⟨g, 0 + j, none⟩ = some (.int .i64 (((ordN n gs)[j]?.getD 0 : Nat) : Int)) := by
  have hz := Ints.of_owns h
  rcases h.2 with ⟨_, e0⟩ | ⟨g, cap', cur, e, _, hg, _⟩
  · exact absurd e0 h0
  · cases e
    refine ⟨g, rfl, (Array.getElem?_eq_some_iff.1 hg).1, fun j hj => ?_⟩
    obtain ⟨b', o', eb, hc⟩ := hz j (by rw [ordI, List.length_map]; exact hj)
    cases eb
    rw [hc, ordI, List.getElem?_map, List.getElem?_eq_getElem hj]
    rfl

set_option maxRecDepth 100000 in
set_option maxHeartbeats 4000000 in
theorem Colors_any (N : Int) (a : Option Addr) (m cap : Nat) (es : List (Int × Int)) (n : Nat) (gs : List Nat) (w : World) (hN : N = n) (h1 : 1 ≤ n) (h2 : n ≤ 12) (hadj : Adj n gs es) (hT : TabW w)
    (hcall : Calls Tryd.prog 33 #[.int .i64 N, .slice a m cap] w (GoodG n gs w)) :
    Calls Tryd.prog 15 #[.int .i64 N, .slice a m cap] w (ColsV n gs w) := by
  have HC := Lib.hid (chordalOf_any N a m cap es n gs w hN h2 hadj hcall)
  have HT := Lib.hid hT
  have hol : (ordN n gs).length = (ordI n gs).length := by rw [ordI, List.length_map]
  have hle : (ordN n gs).length ≤ n := by
    obtain ⟨o1, o2, _⟩ := elimAll_order hadj h2 (2 ^ n - 1 + 1) (2 ^ n - 1) (full_lt n)
    have := List.Nodup.length_le_of_subset o1 (l₂ := List.range n) fun x hx => List.mem_range.2 (bit_lt (full_lt n) (o2 x hx))
    rwa [List.length_range] at this
  unfold ChordV at HC
  unfold ColsV
  subst hN
  by_cases hlt : (ordI n gs).length < n
  · simp only [if_pos hlt] at HC ⊢
    clear hcall hadj hlt hol hle
    go_enter Tryd.func15, Tryd.ntmps15
    go_wp2_with (go_at_call 32; refine HC.out.mono ?_; rintro e w1 ⟨hb, rfl⟩; have HB := Lib.hid hb; clear hb)
    go_ret2
    exact ⟨HB.out, rfl⟩
  · simp only [if_neg hlt] at HC ⊢
    have HCO : Hid (∀ (wx : World) (g b c : Nat), RowG wx g gs → TabW wx → b < wx.heap.size → (∀ j, j < (ordN n gs).length → wx.cell? ⟨b, 0 + j, none⟩ = some (.int .i64 (((ordN n gs)[j]?.getD 0 : Nat) : Int))) →
        Calls Tryd.prog 42 #[.slice (some ⟨g, 0, none⟩) n n, .slice (some ⟨b, 0, none⟩) (ordI n gs).length c] wx (ColV n (colsN n gs) wx)) := Lib.hid (fun wx g b c hr ht hb hz => by
      rw [← hol]
      exact colors_any (some ⟨g, 0, none⟩) n n gs b 0 c (ordN n gs) wx hadj.len h1 h2 (fun i _ => hadj.lt16 h2 i) hr.sets (ordN_lt hadj h2) (by omega) hz hb ht)
    have HOC := Lib.hid (fun (wx : World) (base c : Nat) (b : Option Addr) (h : wx.ownsRow base 3 1 (.slice b (ordI n gs).length c) (ordI n gs).length ((ordI n gs).map (Value.int .i64))) => ordI_cells h (by omega))
    obtain ⟨q, hq⟩ : ∃ q, (ordI n gs).length = q := ⟨_, rfl⟩
    obtain ⟨O, hO⟩ : ∃ O, ordI n gs = O := ⟨_, rfl⟩
    have HCI : Hid (colsI n gs = (colsN n gs).map fun (x : Nat) => (x : Int)) := Lib.hid rfl
    rw [hq] at HC HCO HOC
    simp only [hO] at HC HOC
    clear hcall hadj hlt hol hle hq hO
    go_enter Tryd.func15, Tryd.ntmps15
    go_wp2_with (first
      | (go_at_call 32; refine HC.out.mono ?_; rintro e w1 ⟨hb, g, a1, c1, rfl, hr, hge, hown⟩; obtain ⟨b1, rfl, hb1, hz1⟩ := HOC.out _ _ _ _ hown; have HB := Lib.hid (And.intro hb (And.intro hr (And.intro hb1 hz1))); clear hb hr hown hb1 hz1)
      | (go_at_call 42; refine (HCO.out w1 g b1 c1 HB.out.2.1 (HT.out.next HB.out.1) HB.out.2.2.1 HB.out.2.2.2).mono ?_; rintro e w2 ⟨g2, rfl, hz2, hb2⟩; have H2 := Lib.hid (And.intro hz2 hb2); clear hz2 hb2))
    go_ret2
    exact ⟨HB.out.1.trans (H2.out.2.mono HB.out.1.size), _, rfl, by rw [HCI.out]; exact H2.out.1⟩

set_option maxRecDepth 100000 in
set_option maxHeartbeats 2000000 in
theorem Colors_bad {N : Int} {es : List (Int × Int)} (h : graphR N es = false) (a : Option Addr) (m cap : Nat) (w : World) (hl : es.length = m) (hm : m ≤ 1000) (he : Edges w a es) :
    Calls Tryd.prog 15 #[.int .i64 N, .slice a m cap] w (Gives2 (.slice none 0 0) (.int .i64 1) w) := by
  have HC := Lib.hid (chordalOf_bad h a m cap w hl hm he)
  clear h hl he
  go_enter Tryd.func15, Tryd.ntmps15
  go_wp2_with (go_at_call 32; refine HC.out.mono ?_; rintro e w1 ⟨rfl, hb⟩; have HB := Lib.hid hb; clear hb)
  go_ret2
  exact ⟨rfl, HB.out⟩
set_option maxRecDepth 100000 in
set_option maxHeartbeats 2000000 in
theorem Apart_bad {N : Int} {es : List (Int × Int)} (h : graphR N es = false) (a : Option Addr) (m cap : Nat) (w : World) (hl : es.length = m) (hm : m ≤ 1000) (he : Edges w a es) :
    Calls Tryd.prog 16 #[.int .i64 N, .slice a m cap] w fun e w' => e = .returned (.tuple #[.slice none 0 0, .slice none 0 0, .int .i64 1]) ∧ Below w.heap.size w w' := by
  have HC := Lib.hid (chordalOf_bad h a m cap w hl hm he)
  clear h hl he
  go_enter Tryd.func16, Tryd.ntmps16
  go_wp2_with (go_at_call 32; refine HC.out.mono ?_; rintro e w1 ⟨rfl, hb⟩; have HB := Lib.hid hb; clear hb)
  go_ret3
  exact ⟨rfl, HB.out⟩

/-! ### Pure -/
theorem listN_get {s n : Nat} (hs : s < 2 ^ n) {i : Nat} (hi : i < (listN s).length) : (listN s)[i] < n := bit_lt hs ((listN_bit s _).1 (List.getElem_mem hi)).2
theorem listI_get (s i : Nat) (hi : i < (listN s).length) : (listI s)[i]?.getD 0 = (((listN s)[i] : Nat) : Int) := by rw [listI, List.getElem?_map, List.getElem?_eq_getElem hi]; rfl
theorem listN_lt (s : Nat) {i j : Nat} (hi : i < (listN s).length) (hj : j < (listN s).length) (h : i < j) : (listN s)[i] < (listN s)[j] :=
  List.pairwise_iff_getElem.1 (List.pairwise_lt_range.sublist List.filter_sublist : (listN s).Pairwise (· < ·)) i j hi hj h
theorem listI_rise {s n : Nat} (hs : s < 2 ^ n) : RiseP (listI s) n := fun i hi => by
  have hi' : i < (listN s).length := by simpa [listI] using hi
  rw [listI_get s i hi']
  have := listN_get hs hi'
  refine ⟨by omega, by omega, fun h0 => ?_⟩
  rw [listI_get s (i - 1) (by omega)]
  have := listN_lt s (i := i - 1) (j := i) (by omega) hi' (by omega)
  omega
theorem listI_free {s : Nat} {es : List (Int × Int)} (h : ∀ a b, s.testBit a = true → s.testBit b = true → ¬ nearE es a b) : FreeP es (listI s) := fun i k hi hk => by
  have hi' : i < (listN s).length := by simpa [listI] using hi
  rw [listI_get s i hi', listI_get s k (by omega)]
  have h1 := listN_lt s (i := k) (j := i) (by omega) hi' hk
  refine ⟨by omega, ?_⟩
  rw [← Bool.not_eq_true]
  exact h _ _ ((listN_bit s _).1 (List.getElem_mem hi')).2 ((listN_bit s _).1 (List.getElem_mem (by omega))).2
theorem listI_cli {s : Nat} {es : List (Int × Int)} (h : ∀ a b, s.testBit a = true → s.testBit b = true → a ≠ b → nearE es a b) : CliP es (listI s) := fun i k hi hk => by
  have hi' : i < (listN s).length := by simpa [listI] using hi
  rw [listI_get s i hi', listI_get s k (by omega)]
  have h1 := listN_lt s (i := k) (j := i) (by omega) hi' hk
  exact h _ _ ((listN_bit s _).1 (List.getElem_mem hi')).2 ((listN_bit s _).1 (List.getElem_mem (by omega))).2 (by omega)
theorem ap_lt2 (gs : List Nat) (n : Nat) : ∀ (L : List Nat) (s : Nat × Nat × List Nat), s.2.1 < 2 ^ n → (∀ C ∈ s.2.2, C < 2 ^ n) → ∀ C ∈ (L.foldl (apStep gs) s).2.2, C < 2 ^ n
  | [], _, _, h => h
  | v :: L, s, h1, h2 => by
    rw [List.foldl_cons]
    unfold apStep
    split
    · refine ap_lt2 gs n L _ (Nat.lt_of_le_of_lt Nat.and_le_left h1) fun C hC => ?_
      rcases List.mem_append.1 hC with hC | hC
      · exact h2 C hC
      · rw [List.mem_singleton.1 hC]; exact Nat.lt_of_le_of_lt Nat.and_le_right h1
    · exact ap_lt2 gs n L s h1 h2
/-- The cover and the independent set of a chordal graph. -/
theorem cover_facts {n : Nat} {gs : List Nat} {es : List (Int × Int)} (h : Adj n gs es) (hn : n ≤ 12) (hc : (ordN n gs).length = n) :
    (listI (apTo gs (ordN n gs)).1).length = ((apTo gs (ordN n gs)).2.2.map listI).length ∧ RiseP (listI (apTo gs (ordN n gs)).1) n ∧ FreeP es (listI (apTo gs (ordN n gs)).1) ∧
    (∀ i : Nat, i < n → ∃ l ∈ (apTo gs (ordN n gs)).2.2.map listI, (i : Int) ∈ l) ∧ (∀ l ∈ (apTo gs (ordN n gs)).2.2.map listI, RiseP l n ∧ CliP es l ∧ l.length ≤ 12) ∧ ((apTo gs (ordN n gs)).2.2.map listI).length ≤ 12 := by
  obtain ⟨hI, hcov⟩ := apart_good h hn hc
  have hlt := ap_lt2 gs n (ordN n gs) (0, 2 ^ gs.length - 1, []) (by rw [h.len]; exact full_lt n) (fun C hC => by simp at hC)
  change ∀ C ∈ (apTo gs (ordN n gs)).2.2, C < 2 ^ n at hlt
  have hcnt := hI.cnt
  have hlen := (apTo_lt gs (by rw [h.len]; exact hn) (ordN n gs) (fun v hv => by have := ordN_lt h hn v hv; omega)).2.2
  generalize apTo gs (ordN n gs) = S at hI hcov hlt hcnt hlen
  refine ⟨?_, listI_rise hI.lt, listI_free hI.ind, fun i hi => ?_, fun l hl => ?_, by rw [List.length_map]; omega⟩
  · rw [listI_bits hI.lt hn, List.length_map, ← hcnt, cnt_bits hI.lt (by omega)]
  · obtain ⟨C, hC, hb⟩ := hcov i hi
    exact ⟨listI C, List.mem_map.2 ⟨C, hC, rfl⟩, List.mem_map.2 ⟨i, (listN_bit C i).2 ⟨by omega, hb⟩, rfl⟩⟩
  · obtain ⟨C, hC, rfl⟩ := List.mem_map.1 hl
    exact ⟨listI_rise (hlt C hC), listI_cli (hI.clq C hC), listI_len C⟩
/-- The colours of a chordal graph: fewer than any bound of its cliques; neighbours differ. -/
theorem cols_facts {n : Nat} {gs : List Nat} {es : List (Int × Int)} (h : Adj n gs es) (hn : n ≤ 12) (hc : (ordN n gs).length = n) :
    (colsI n gs).length = n ∧ (∀ M : Int, (∀ l ∈ refCl es n (2 ^ n), (l.length : Int) ≤ M) → ∀ i : Nat, i < n → 0 ≤ (colsI n gs)[i]?.getD 0 ∧ (colsI n gs)[i]?.getD 0 < M) ∧
    ∀ a b : Nat, a < n → b < n → nearE es a b → (colsI n gs)[a]?.getD 0 ≠ (colsI n gs)[b]?.getD 0 := by
  obtain ⟨o1, o2, _⟩ := elimAll_order h hn (2 ^ n - 1 + 1) (2 ^ n - 1) (full_lt n)
  have hlt := ordN_lt h hn
  have hel := (order_good h hn hc).2
  have hmem : ∀ i, i < n → i ∈ ordN n gs := fun i hi => by
    have hp := nodup_perm o1 (L := List.range n) (fun x hx => List.mem_range.2 (hlt x hx)) (by rw [List.length_range]; exact Nat.le_of_eq hc.symm)
    exact hp.mem_iff.2 (List.mem_range.2 hi)
  have hlc : (colsN n gs).length = n := col_len gs n _
  have hget : ∀ i, i < n → (colsI n gs)[i]?.getD 0 = (((colsN n gs)[i]?.getD 0 : Nat) : Int) := fun i hi => by
    rw [colsI, List.getElem?_map, List.getElem?_eq_getElem (by omega)]; rfl
  have hbound : ∀ M : Int, (∀ l ∈ refCl es n (2 ^ n), (l.length : Int) ≤ M) → ∀ K : List Nat, K.Nodup → (∀ a ∈ K, a < n) → (∀ a ∈ K, ∀ b ∈ K, a ≠ b → nearE es a b) → (K.length : Int) ≤ M := fun M hM K k1 k2 k3 => by
    have kb : ∀ b, (takN (List.range 16) K).testBit b = true ↔ b ∈ K := fun b => by
      rw [takN_bit]
      constructor
      · rintro ⟨x, hx, e⟩
        have := k2 x hx
        rw [List.getElem?_range (by omega)] at e
        simp only [Option.getD_some] at e
        rw [← e]; exact hx
      · intro hb
        have := k2 b hb
        exact ⟨b, hb, by rw [List.getElem?_range (by omega)]; rfl⟩
    have hs : takN (List.range 16) K < 2 ^ n := Nat.lt_pow_two_of_testBit _ fun j hj => by
      rw [Bool.eq_false_iff]; intro e
      have := k2 j ((kb j).1 e); omega
    obtain ⟨C, hC, hsub⟩ := clique_ext h hn hs (fun a b ha hb hab => k3 a ((kb a).1 ha) b ((kb b).1 hb) hab)
    have hl := hM (listI C) (by
      rw [← cliques_same h hn, cliqueLists]
      exact List.mem_map.2 ⟨C, srt_mem.2 hC, rfl⟩)
    have hle := List.Nodup.length_le_of_subset k1 (l₂ := listN C) fun x hx => (listN_bit C x).2 ⟨by have := k2 x hx; omega, hsub x ((kb x).2 hx)⟩
    rw [listI, List.length_map] at hl
    omega
  refine ⟨by rw [colsI, List.length_map, hlc], fun M hM i hi => ?_, fun a b ha hb hE e => ?_⟩
  · have hM0 : 0 ≤ M := by
      have := hbound M hM [] List.nodup_nil (fun a ha => by simp at ha) (fun a ha => by simp at ha)
      simpa using this
    have hci := col_inv h hn (M := M.toNat) (fun K k1 k2 k3 => by have := hbound M hM K k1 k2 k3; omega) (ordN n gs) o1 hlt hel
    have := hci.lt i (hmem i hi)
    rw [hget i hi]
    change (colsN n gs)[i]?.getD 0 < M.toNat at this
    omega
  · have hci := col_inv h hn (M := n) (fun K k1 k2 _ => by
      have := List.Nodup.length_le_of_subset k1 (l₂ := List.range n) fun x hx => List.mem_range.2 (k2 x hx)
      rwa [List.length_range] at this) (ordN n gs) o1 hlt hel
    rw [hget a ha, hget b hb] at e
    exact hci.ne a (hmem a ha) b (hmem b hb) hE (by
      change (colsN n gs)[a]?.getD 0 = (colsN n gs)[b]?.getD 0
      omega)

end Go.Proofs.YthlbedhjekbfpaaDoor
