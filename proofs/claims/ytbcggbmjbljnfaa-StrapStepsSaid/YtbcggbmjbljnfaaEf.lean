/-
  Proved: StrapSteps returns true for every word and every place: leaving out k, -k, exchanging distant letters, and k, k+1, k against k+1, k, k+1, anywhere in a word, do not change the normal form. No condition.
-/
import Derived.Test.YtbcggbmjbljnfaaEe
namespace Go.Proofs.Ytbcggbmjbljnfaa
open Go.RowKit Go.Sort

theorem joined3 (aA aB : Option Addr) (la lb ca cb : Nat) (A M B : List Int) (w : World) (hA : Ints w aA A) (hB : Ints w aB B) (hla : A.length = la) (hlb : B.length = lb) (hna : aA = none → ca = 0) (hnb : aB = none → cb = 0) (h1 : la ≤ 1000) (h2 : M.length ≤ 1000) (h3 : lb ≤ 1000) (m : Nat) (hm : M.length = m) :
    Calls Try.prog 43 #[.slice (some ⟨w.heap.size + 1, 0, none⟩) 3 3] ((w.alloc (.cells (intC M) 3)).alloc (.cells #[.slice aA la ca, .slice (some ⟨w.heap.size, 0, none⟩) m m, .slice aB lb cb] 22)) (CutV (A ++ M ++ B) w) := by
  subst hla hlb hm
  have hb1 : Below w.heap.size w (w.alloc (.cells (intC M) 3)) := (Below.refl _ w).alloc (Nat.le_refl _) _
  have hb2 := hb1.alloc hb1.size (.cells #[.slice aA A.length ca, .slice (some ⟨w.heap.size, 0, none⟩) M.length M.length, .slice aB B.length cb] 22)
  have hr : ((w.alloc (.cells (intC M) 3)).alloc (.cells #[.slice aA A.length ca, .slice (some ⟨w.heap.size, 0, none⟩) M.length M.length, .slice aB B.length cb] 22)).heap[w.heap.size + 1]? = some (.cells #[.slice aA A.length ca, .slice (some ⟨w.heap.size, 0, none⟩) M.length M.length, .slice aB B.length cb] 22 (0, 0)) := by
    have := heap_alloc_new (w.alloc (.cells (intC M) 3)) (.cells #[.slice aA A.length ca, .slice (some ⟨w.heap.size, 0, none⟩) M.length M.length, .slice aB B.length cb] 22)
    rwa [show (w.alloc (.cells (intC M) 3)).heap.size = w.heap.size + 1 by simp] at this
  have hM := (intsNew w M).below ((Below.refl _ (w.alloc (.cells (intC M) 3))).alloc (Nat.le_refl _) (.cells #[.slice aA A.length ca, .slice (some ⟨w.heap.size, 0, none⟩) M.length M.length, .slice aB B.length cb] 22))
  have hW : Words ((w.alloc (.cells (intC M) 3)).alloc (.cells #[.slice aA A.length ca, .slice (some ⟨w.heap.size, 0, none⟩) M.length M.length, .slice aB B.length cb] 22)) (w.heap.size + 1) [A, M, B] := fun i hi => by
    match i, hi with
    | 0, _ => exact ⟨aA, ca, by simp only [World.cell?, hr]; rfl, hA.below hb2, hna⟩
    | 1, _ => exact ⟨_, M.length, by simp only [World.cell?, hr]; rfl, hM, fun h => by cases h⟩
    | 2, _ => exact ⟨aB, cb, by simp only [World.cell?, hr]; rfl, hB.below hb2, hnb⟩
  refine (joined_any (w.heap.size + 1) 3 3 [A, M, B] _ rfl (by omega) (fun l hl => ?_) hW).mono ?_
  · simp at hl
    rcases hl with rfl | rfl | rfl <;> omega
  · rintro e w' ⟨a, c, rfl, hz, hb⟩
    have ef : [A, M, B].flatten = A ++ M ++ B := by simp
    rw [ef] at hz ⊢
    exact ⟨a, c, rfl, hz, hb2.trans (hb.mono hb2.size)⟩

/-- A part of a word. -/
theorem ints_take {w : World} {g : Nat} {ws : List Int} (h : Ints w (some ⟨g, 0, none⟩) ws) (k : Nat) : Ints w (some ⟨g, 0, none⟩) (ws.take k) := fun i hi => by
  rw [List.length_take] at hi
  obtain ⟨b, off, e, hc⟩ := h i (by omega)
  exact ⟨b, off, e, by rw [hc, List.getElem?_take, if_pos (by omega)]⟩
theorem ints_drop {w : World} {g : Nat} {ws : List Int} (h : Ints w (some ⟨g, 0, none⟩) ws) (k : Nat) : Ints w (some ⟨g, k, none⟩) (ws.drop k) := fun i hi => by
  rw [List.length_drop] at hi
  obtain ⟨b, off, e, hc⟩ := h (k + i) (by omega)
  cases e
  exact ⟨g, k, rfl, by rw [List.getElem?_drop, ← hc, Nat.zero_add]⟩

set_option maxRecDepth 100000 in
set_option maxHeartbeats 4000000 in
theorem StrapSteps_any (p0 p1 p2 p3 : Int) (mi : Bool) (a : Option Addr) (m cap : Nat) (zs : List Int) (w : World) (hp0 : 0 ≤ p0 ∧ p0 ≤ 255) (hp1 : 0 ≤ p1 ∧ p1 ≤ 255) (hp2 : 0 ≤ p2 ∧ p2 ≤ 255) (hp3 : 0 ≤ p3 ∧ p3 ≤ 255) (hl : zs.length = m) (hm : m ≤ 9223372036854775807) (hz : Ints8 w a zs) :
    Calls Try.prog 8 #[.slice a m cap, .agg #[.int .u8 p0, .int .u8 p1, .int .u8 p2, .int .u8 p3, .bool mi]] w fun e w' => e = .returned (.bool true) ∧ Below w.heap.size w w' := by
  obtain ⟨n, hn⟩ : ∃ n : Nat, p0 % 7 + 2 = (n : Int) := ⟨(p0 % 7 + 2).toNat, by omega⟩
  have hn8 : 2 ≤ n ∧ n ≤ 8 := by omega
  obtain ⟨w0, hw0⟩ : ∃ w0, w.alloc (.cells #[.int .u8 p0, .int .u8 p1, .int .u8 p2, .int .u8 p3, .bool mi] 65) = w0 := ⟨_, rfl⟩
  have hb0 : Below w.heap.size w w0 := by rw [← hw0]; exact (Below.refl _ w).alloc (Nat.le_refl _) _
  have hr0 : w0.heap[w.heap.size]? = some (.cells #[.int .u8 p0, .int .u8 p1, .int .u8 p2, .int .u8 p3, .bool mi] 65 (0, 0)) := by rw [← hw0]; exact heap_alloc_new w _
  have HST : Hid (∀ wx, Calls Try.prog 40 #[.int .u8 p0, .int .i64 8] wx fun e w' => e = .returned (.int .i64 (n : Int)) ∧ w' = wx) := Lib.hid (fun wx => by
    have h := strands_any p0 8 wx hp0 (by omega)
    simp only [show (8 : Int) - 1 = 7 by omega, hn] at h
    exact h.mono fun e w' h => ⟨h.1, h.2.symm⟩)
  have HWD := Lib.hid (fun (wx : World) (hb : Below w.heap.size w wx) => word_any n 40 m cap a zs wx (by omega) (by omega) (by omega) hl hm (hz.below hb))
  have hlen := wordN_len n (zs.take 40)
  rw [List.length_take] at hlen
  have hlet : ∀ z ∈ wordN n (zs.take 40), Gar.Let n z := wordN_let (by omega)
  obtain ⟨ws, hws⟩ : ∃ ws, wordN n (zs.take 40) = ws := ⟨_, rfl⟩
  rw [hws] at HWD hlen hlet
  obtain ⟨L, hL⟩ : ∃ L, ws.length = L := ⟨_, rfl⟩
  unfold GivesI at HWD
  simp only [hL] at HWD
  have HLET := Lib.hid hlet
  have HL := Lib.hid hL
  have hL40 : L ≤ 40 := by omega
  have H0 := Lib.hid (And.intro hb0 (And.intro hr0 hw0))
  have c0 : w0.cell? ⟨w.heap.size, 0, none⟩ = some (.int .u8 p0) := by simp [World.cell?, hr0]
  have c1 : w0.cell? ⟨w.heap.size, 1, none⟩ = some (.int .u8 p1) := by simp [World.cell?, hr0]
  have c2 : w0.cell? ⟨w.heap.size, 2, none⟩ = some (.int .u8 p2) := by simp [World.cell?, hr0]
  have c3 : w0.cell? ⟨w.heap.size, 3, none⟩ = some (.int .u8 p3) := by simp [World.cell?, hr0]
  have c4 : w0.cell? ⟨w.heap.size, 4, none⟩ = some (.bool mi) := by simp [World.cell?, hr0]
  clear hl hz hlet hlen hws hL hb0 hr0 hn
  go_enter Try.func8, Try.ntmps8
  go_wp2_with (fail)
  try rw [hw0]
  go_quiet ((with_reducible exact Calls.quiet_of_same (HST.out _)))
  have hb1 := below_drewN (Below.refl w0.heap.size w0) nq
  obtain ⟨w1, hw1⟩ : ∃ w1, w0.drewN nq = w1 := ⟨_, rfl⟩
  rw [hw1] at hb1 ⊢
  have H1 := Lib.hid (H0.out.1.trans (hb1.mono H0.out.1.size))
  have HC1 : Hid (w1.cell? ⟨w.heap.size, 1, none⟩ = some (.int .u8 p1) ∧ w1.cell? ⟨w.heap.size, 2, none⟩ = some (.int .u8 p2) ∧ w1.cell? ⟨w.heap.size, 3, none⟩ = some (.int .u8 p3)) := Lib.hid ⟨(hb1.cell (p := ⟨w.heap.size, 1, none⟩) (World.block_lt_of_cell? _ _ c1)).trans c1, (hb1.cell (p := ⟨w.heap.size, 2, none⟩) (World.block_lt_of_cell? _ _ c2)).trans c2, (hb1.cell (p := ⟨w.heap.size, 3, none⟩) (World.block_lt_of_cell? _ _ c3)).trans c3⟩
  clear hb1 c0 c1 c2 c3 c4 hw1
  go_wp2_with (fail)
  refine (HWD.out w1 H1.out).mono ?_
  rintro e w2 ⟨g, c, rfl, hLc, hg, hz2, hb2⟩
  have HC2 : Hid (w2.cell? ⟨w.heap.size, 3, none⟩ = some (.int .u8 p3)) := Lib.hid ((hb2.cell (p := ⟨w.heap.size, 3, none⟩) (World.block_lt_of_cell? _ _ HC1.out.2.2)).trans HC1.out.2.2)
  have d1 := (hb2.cell (p := ⟨w.heap.size, 1, none⟩) (World.block_lt_of_cell? _ _ HC1.out.1)).trans HC1.out.1
  have d2 := (hb2.cell (p := ⟨w.heap.size, 2, none⟩) (World.block_lt_of_cell? _ _ HC1.out.2.1)).trans HC1.out.2.1
  have H2 := Lib.hid (And.intro hz2 (H1.out.trans (hb2.mono H1.out.size)))
  clear hb2 hz2 HC1
  obtain ⟨t, ht⟩ : ∃ t : Nat, p1 % ((L : Int) + 1) = (t : Int) := ⟨(p1 % ((L : Int) + 1)).toNat, by have := Int.emod_nonneg p1 (b := (L : Int) + 1) (by omega); omega⟩
  have htL : (t : Int) ≤ (L : Int) := by have := Int.emod_lt_of_pos p1 (b := (L : Int) + 1) (by omega); omega
  obtain ⟨i, hi⟩ : ∃ i : Nat, p2 % ((n : Int) - 1) = (i : Int) := ⟨(p2 % ((n : Int) - 1)).toNat, by have := Int.emod_nonneg p2 (b := (n : Int) - 1) (by omega); omega⟩
  have hin : (i : Int) < (n : Int) - 1 := by have := Int.emod_lt_of_pos p2 (b := (n : Int) - 1) (by omega); omega
  have htL2 : t ≤ L := by omega
  have htc : (t : Int) ≤ (c : Int) := by omega
  have hLcI : (L : Int) ≤ (c : Int) := by omega
  go_wp2_with (fail)
  go_quiet (fail)
  have hb3 := below_drewN (Below.refl w2.heap.size w2) nq
  obtain ⟨w3, hw3⟩ : ∃ w3, w2.drewN nq = w3 := ⟨_, rfl⟩
  obtain ⟨aB, haB⟩ : ∃ aB : Option Addr, (if c = t then some (⟨g, 0, none⟩ : Addr) else some ⟨g, t, none⟩) = aB := ⟨_, rfl⟩
  simp only [hw3, haB, ht] at hb3 ⊢
  have HAB : Hid ((aB = none → c - t = 0) ∧ ∀ wx, Ints wx (some ⟨g, 0, none⟩) ws → Ints wx aB (ws.drop t)) := Lib.hid (by
    refine ⟨fun e => ?_, fun wx hz => ?_⟩
    · rw [e] at haB; split at haB <;> cases haB
    · rw [← haB]
      split
      · intro j hj; rw [List.length_drop, HL.out] at hj; omega
      · exact ints_drop hz t)
  have HC3 : Hid (w3.cell? ⟨w.heap.size, 3, none⟩ = some (.int .u8 p3)) := Lib.hid ((hb3.cell (p := ⟨w.heap.size, 3, none⟩) (World.block_lt_of_cell? _ _ HC2.out)).trans HC2.out)
  have d2' := (hb3.cell (p := ⟨w.heap.size, 2, none⟩) (World.block_lt_of_cell? _ _ d2)).trans d2
  have H3 := Lib.hid (And.intro (H2.out.1.below hb3) (H2.out.2.trans (hb3.mono H2.out.2.size)))
  clear hb3 d1 d2 hw3 haB HC2
  have hne : ¬ (n : Int) - 1 = 0 := by omega
  have HJ2 : Hid (∀ (wx : World) (x y : Int), Below w3.heap.size w3 wx → Calls Try.prog 43 #[.slice (some ⟨wx.heap.size + 1, 0, none⟩) 3 3] ((wx.alloc (.cells #[.int .i64 x, .int .i64 y] 3)).alloc (.cells #[.slice (some ⟨g, 0, none⟩) t t, .slice (some ⟨wx.heap.size, 0, none⟩) 2 2, .slice aB (L - t) (c - t)] 22)) (fun e w' => ∃ a' c', e = .returned (.slice a' (L + 2) c') ∧ Ints w' a' (ws.take t ++ [x, y] ++ ws.drop t) ∧ Below wx.heap.size wx w')) := Lib.hid (fun wx x y hb => by
    have hzx := H3.out.1.below hb
    have h := joined3 (some ⟨g, 0, none⟩) aB t (L - t) t (c - t) (ws.take t) [x, y] (ws.drop t) wx (ints_take hzx t) (HAB.out.2 wx hzx) (by rw [List.length_take, HL.out]; omega) (by rw [List.length_drop, HL.out]) (fun h => by cases h) HAB.out.1 (by omega) (by simp) (by omega) 2 rfl
    refine Calls.mono h fun e w' ⟨a', c', e1, e2, e3⟩ => ⟨a', c', ?_, e2, e3⟩
    rw [e1]
    have : (ws.take t ++ [x, y] ++ ws.drop t).length = L + 2 := by
      rw [List.length_append, List.length_append, List.length_take, List.length_drop, HL.out]; simp; omega
    rw [this])
  have HJ3 : Hid (∀ (wx : World) (x y z : Int), Below w3.heap.size w3 wx → Calls Try.prog 43 #[.slice (some ⟨wx.heap.size + 1, 0, none⟩) 3 3] ((wx.alloc (.cells #[.int .i64 x, .int .i64 y, .int .i64 z] 3)).alloc (.cells #[.slice (some ⟨g, 0, none⟩) t t, .slice (some ⟨wx.heap.size, 0, none⟩) 3 3, .slice aB (L - t) (c - t)] 22)) (fun e w' => ∃ a' c', e = .returned (.slice a' (L + 3) c') ∧ Ints w' a' (ws.take t ++ [x, y, z] ++ ws.drop t) ∧ Below wx.heap.size wx w')) := Lib.hid (fun wx x y z hb => by
    have hzx := H3.out.1.below hb
    have h := joined3 (some ⟨g, 0, none⟩) aB t (L - t) t (c - t) (ws.take t) [x, y, z] (ws.drop t) wx (ints_take hzx t) (HAB.out.2 wx hzx) (by rw [List.length_take, HL.out]; omega) (by rw [List.length_drop, HL.out]) (fun h => by cases h) HAB.out.1 (by omega) (by simp) (by omega) 3 rfl
    refine Calls.mono h fun e w' ⟨a', c', e1, e2, e3⟩ => ⟨a', c', ?_, e2, e3⟩
    rw [e1]
    have : (ws.take t ++ [x, y, z] ++ ws.drop t).length = L + 3 := by
      rw [List.length_append, List.length_append, List.length_take, List.length_drop, HL.out]; simp; omega
    rw [this])
  have HLV := Lib.hid (fun wx => lives_any wx)
  have HTA : Hid (∀ z ∈ ws.take t, Gar.Let n z) := Lib.hid fun z hz => HLET.out z (List.mem_of_mem_take hz)
  have HDR : Hid (∀ z ∈ ws.drop t, Gar.Let n z) := Lib.hid fun z hz => HLET.out z (List.mem_of_mem_drop hz)
  -- a part of a word in the place of another one
  have HWQ : Hid (∀ u v : List Int, Gar.Wq n u v → (∀ z ∈ u, Gar.Let n z) → Gar.Eqv n (Gar.word n (0, []) (ws.take t ++ u ++ ws.drop t)) (Gar.word n (0, []) (ws.take t ++ v ++ ws.drop t))) := Lib.hid fun u v h hu => h.mid (ws.take t) (ws.drop t) HTA.out hu HDR.out (0, []) (fun _ h => by cases h)
  have HS1 : Hid (∀ (wx : World) (a' : Option Addr) (c' : Nat) (u : List Int), Below w3.heap.size w3 wx → Ints wx a' (ws.take t ++ u ++ ws.drop t) → u.length = 2 → Gar.Wq n u [] → (∀ z ∈ u, Gar.Let n z) → Calls Try.prog 42 #[.int .i64 (n : Int), .slice (some ⟨g, 0, none⟩) L c, .slice a' (L + 2) c'] wx (fun e w' => e = .returned (.bool true) ∧ Below wx.heap.size wx w')) := Lib.hid (fun wx a' c' u hb hz hul hq hu => by
    refine same_yes n L (L + 2) c c' (some ⟨g, 0, none⟩) a' ws (ws.take t ++ u ++ ws.drop t) wx (by omega) (by omega) (by omega) (by omega) HL.out (by rw [List.length_append, List.length_append, List.length_take, List.length_drop, HL.out, hul]; omega) (H3.out.1.below hb) hz HLET.out (mem_app (mem_app HTA.out hu) HDR.out) ?_
    have h := HWQ.out u [] hq hu
    rw [List.append_nil, List.take_append_drop] at h
    exact h.symm)
  have HS2 : Hid (∀ (wx : World) (a' b' : Option Addr) (c' d' K : Nat) (u v : List Int), Ints wx a' (ws.take t ++ u ++ ws.drop t) → Ints wx b' (ws.take t ++ v ++ ws.drop t) → u.length = K → v.length = K → K ≤ 3 → Gar.Wq n u v → (∀ z ∈ u, Gar.Let n z) → (∀ z ∈ v, Gar.Let n z) → Calls Try.prog 42 #[.int .i64 (n : Int), .slice a' (L + K) c', .slice b' (L + K) d'] wx (fun e w' => e = .returned (.bool true) ∧ Below wx.heap.size wx w')) := Lib.hid (fun wx a' b' c' d' K u v hza hzb hul hvl hK hq hu hv => by
    exact same_yes n (L + K) (L + K) c' d' a' b' (ws.take t ++ u ++ ws.drop t) (ws.take t ++ v ++ ws.drop t) wx (by omega) (by omega) (by omega) (by omega) (by rw [List.length_append, List.length_append, List.length_take, List.length_drop, HL.out, hul]; omega) (by rw [List.length_append, List.length_append, List.length_take, List.length_drop, HL.out, hvl]; omega) hza hzb (mem_app (mem_app HTA.out hu) HDR.out) (mem_app (mem_app HTA.out hv) HDR.out) (HWQ.out u v hq hu))
  have HN := Lib.hid hn8
  have HLE2 : Hid (∀ x y : Int, Gar.Let n x → Gar.Let n y → ∀ z ∈ [x, y], Gar.Let n z) := Lib.hid fun x y hx hy z hz => by
    simp only [List.mem_cons, List.not_mem_nil, or_false] at hz
    rcases hz with rfl | rfl <;> assumption
  have HLE3 : Hid (∀ x y v : Int, Gar.Let n x → Gar.Let n y → Gar.Let n v → ∀ z ∈ [x, y, v], Gar.Let n z) := Lib.hid fun x y v hx hy hv z hz => by
    simp only [List.mem_cons, List.not_mem_nil, or_false] at hz
    rcases hz with rfl | rfl | rfl <;> assumption
  have HLP : Hid (∀ j : Nat, j + 1 < n → Gar.Let n ((j : Int) + 1) ∧ Gar.Let n (-((j : Int) + 1))) := Lib.hid fun j hj => ⟨⟨by omega, by omega, by omega⟩, ⟨by omega, by omega, by omega⟩⟩
  have HBR : Hid (i + 2 < n → Gar.Wq n [(i : Int) + 1, (i : Int) + 1 + 1, (i : Int) + 1] [(i : Int) + 1 + 1, (i : Int) + 1, (i : Int) + 1 + 1] ∧ Gar.Wq n [-((i : Int) + 1), -((i : Int) + 1 + 1), -((i : Int) + 1)] [-((i : Int) + 1 + 1), -((i : Int) + 1), -((i : Int) + 1 + 1)]) := Lib.hid (fun hi2 => by
    have h := Gar.wq_near (n := n) (i := i) hi2
    rw [show (((i + 1 : Nat) : Int) + 1) = (i : Int) + 1 + 1 by omega] at h
    have l1 := (HLP.out i (by omega)).1
    have l2 := (HLP.out (i + 1) (by omega)).1
    rw [show (((i + 1 : Nat) : Int) + 1) = (i : Int) + 1 + 1 by omega] at l2
    exact ⟨h, wq_inv h (HLE3.out _ _ _ l1 l2 l1) (HLE3.out _ _ _ l2 l1 l2)⟩)
  have HFA : Hid (∀ j : Nat, (i + 2 ≤ j ∨ j + 2 ≤ i) → j + 1 < n → Gar.Wq n [(i : Int) + 1, (j : Int) + 1] [(j : Int) + 1, (i : Int) + 1] ∧ Gar.Wq n [-((i : Int) + 1), (j : Int) + 1] [(j : Int) + 1, -((i : Int) + 1)]) := Lib.hid (fun j hf hj => by
    have h := Gar.wq_far (n := n) (i := i) (j := j) hf (by omega) hj
    exact ⟨h, wq_mixed h (HLP.out i (by omega)).1 (HLP.out j hj).1⟩)
  cases mi with
  | false =>
    go_wp2_with (fail)
    refine (HJ2.out w3 ((i : Int) + 1) (-((i : Int) + 1)) (Below.refl _ _)).mono ?_
    rintro e w4 ⟨a4, c4, rfl, hz4, hb4⟩
    have H4 := Lib.hid (And.intro hz4 hb4)
    clear hz4 hb4
    go_wp2_with (fail)
    refine (HS1.out w4 a4 c4 [((i : Int) + 1), (-((i : Int) + 1))] H4.out.2 H4.out.1 rfl (Gar.wq_pos (by omega)) (HLE2.out _ _ (HLP.out i (by omega)).1 (HLP.out i (by omega)).2)).mono ?_
    rintro e w5 ⟨rfl, hb5⟩
    have H5 := Lib.hid (H4.out.2.trans (hb5.mono H4.out.2.size))
    clear hb5
    go_wp2_with (fail)
    refine (HLV.out w5).mono ?_
    rintro e w6 ⟨rfl, hb6⟩
    have H6 := Lib.hid (H5.out.trans (hb6.mono H5.out.size))
    clear hb6
    obtain ⟨j, hj⟩ : ∃ j : Nat, p3 % ((n : Int) - 1) = (j : Int) := ⟨(p3 % ((n : Int) - 1)).toNat, by have := Int.emod_nonneg p3 (b := (n : Int) - 1) (by omega); omega⟩
    have hjn : (j : Int) < (n : Int) - 1 := by have := Int.emod_lt_of_pos p3 (b := (n : Int) - 1) (by omega); omega
    by_cases hk : i + 2 < n
    · have hkI : (i : Int) + 1 + 1 < (n : Int) := by omega
      go_wp2_with (fail)
      refine (HJ3.out w6 ((i : Int) + 1) ((i : Int) + 1 + 1) ((i : Int) + 1) H6.out).mono ?_
      rintro e w7 ⟨a7, c7, rfl, hz7, hb7⟩
      have H7 := Lib.hid (And.intro hz7 (H6.out.trans (hb7.mono H6.out.size)))
      clear hz7 hb7
      go_wp2_with (fail)
      refine (HJ3.out w7 ((i : Int) + 1 + 1) ((i : Int) + 1) ((i : Int) + 1 + 1) H7.out.2).mono ?_
      rintro e w8 ⟨a8, c8, rfl, hz8, hb8⟩
      have H8 := Lib.hid (And.intro (H7.out.1.below hb8) (And.intro hz8 (H7.out.2.trans (hb8.mono H7.out.2.size))))
      clear hz8 hb8
      have hL1 := (HLP.out i (by omega)).1
      have hL2 := (HLP.out (i + 1) (by omega)).1
      rw [show (((i + 1 : Nat) : Int) + 1) = (i : Int) + 1 + 1 by omega] at hL2
      have HL12 := Lib.hid (And.intro hL1 hL2)
      clear hL1 hL2
      go_wp2_with (fail)
      refine (HS2.out w8 a7 a8 c7 c8 3 [((i : Int) + 1), ((i : Int) + 1 + 1), ((i : Int) + 1)] [((i : Int) + 1 + 1), ((i : Int) + 1), ((i : Int) + 1 + 1)] H8.out.1 H8.out.2.1 rfl rfl (by omega) (HBR.out hk).1 (HLE3.out _ _ _ HL12.out.1 HL12.out.2 HL12.out.1) (HLE3.out _ _ _ HL12.out.2 HL12.out.1 HL12.out.2)).mono ?_
      rintro e w9 ⟨rfl, hb9⟩
      have H9 := Lib.hid (H8.out.2.2.trans (hb9.mono H8.out.2.2.size))
      clear hb9
      have hc3 := (H9.out.cell (p := ⟨w.heap.size, 3, none⟩) (World.block_lt_of_cell? _ _ HC3.out)).trans HC3.out
      by_cases hA : i + 2 ≤ j
      · have hAI : (2 : Int) ≤ (j : Int) + 1 - ((i : Int) + 1) := by omega
        go_wp2_with (fail)
        refine (HJ2.out w9 ((i : Int) + 1) ((j : Int) + 1) H9.out).mono ?_
        rintro e w11 ⟨a11, c11, rfl, hz11, hb11⟩
        have H11 := Lib.hid (And.intro hz11 (H9.out.trans (hb11.mono H9.out.size)))
        clear hz11 hb11
        go_wp2_with (fail)
        refine (HJ2.out w11 ((j : Int) + 1) ((i : Int) + 1) H11.out.2).mono ?_
        rintro e w12 ⟨a12, c12, rfl, hz12, hb12⟩
        have H12 := Lib.hid (And.intro (H11.out.1.below hb12) (And.intro hz12 (H11.out.2.trans (hb12.mono H11.out.2.size))))
        clear hz12 hb12
        go_wp2_with (fail)
        refine (HS2.out w12 a11 a12 c11 c12 2 [((i : Int) + 1), (j : Int) + 1] [(j : Int) + 1, ((i : Int) + 1)] H12.out.1 H12.out.2.1 rfl rfl (by omega) (HFA.out j (.inl hA) (by omega)).1 (HLE2.out _ _ (HLP.out i (by omega)).1 (HLP.out j (by omega)).1) (HLE2.out _ _ (HLP.out j (by omega)).1 (HLP.out i (by omega)).1)).mono ?_
        rintro e w13 ⟨rfl, hb13⟩
        have H13 := Lib.hid (H12.out.2.2.trans (hb13.mono H12.out.2.2.size))
        clear hb13
        go_wp2_with (fail)
        go_ret
        exact ⟨rfl, H3.out.2.trans (H13.out.mono H3.out.2.size)⟩
      · by_cases hB : j + 2 ≤ i
        · have hBI : (2 : Int) ≤ (i : Int) + 1 - ((j : Int) + 1) := by omega
          have hAI : ¬ (2 : Int) ≤ (j : Int) + 1 - ((i : Int) + 1) := by omega
          go_wp2_with (fail)
          refine (HJ2.out w9 ((i : Int) + 1) ((j : Int) + 1) H9.out).mono ?_
          rintro e w11 ⟨a11, c11, rfl, hz11, hb11⟩
          have H11 := Lib.hid (And.intro hz11 (H9.out.trans (hb11.mono H9.out.size)))
          clear hz11 hb11
          go_wp2_with (fail)
          refine (HJ2.out w11 ((j : Int) + 1) ((i : Int) + 1) H11.out.2).mono ?_
          rintro e w12 ⟨a12, c12, rfl, hz12, hb12⟩
          have H12 := Lib.hid (And.intro (H11.out.1.below hb12) (And.intro hz12 (H11.out.2.trans (hb12.mono H11.out.2.size))))
          clear hz12 hb12
          go_wp2_with (fail)
          refine (HS2.out w12 a11 a12 c11 c12 2 [((i : Int) + 1), (j : Int) + 1] [(j : Int) + 1, ((i : Int) + 1)] H12.out.1 H12.out.2.1 rfl rfl (by omega) (HFA.out j (.inr hB) (by omega)).1 (HLE2.out _ _ (HLP.out i (by omega)).1 (HLP.out j (by omega)).1) (HLE2.out _ _ (HLP.out j (by omega)).1 (HLP.out i (by omega)).1)).mono ?_
          rintro e w13 ⟨rfl, hb13⟩
          have H13 := Lib.hid (H12.out.2.2.trans (hb13.mono H12.out.2.2.size))
          clear hb13
          go_wp2_with (fail)
          go_ret
          exact ⟨rfl, H3.out.2.trans (H13.out.mono H3.out.2.size)⟩
        · have hBI : ¬ (2 : Int) ≤ (i : Int) + 1 - ((j : Int) + 1) := by omega
          have hAI : ¬ (2 : Int) ≤ (j : Int) + 1 - ((i : Int) + 1) := by omega
          go_wp2_with (fail)
          go_ret
          exact ⟨rfl, H3.out.2.trans (H9.out.mono H3.out.2.size)⟩
    · have hkI : ¬ (i : Int) + 1 + 1 < (n : Int) := by omega
      have hc3 := (H6.out.cell (p := ⟨w.heap.size, 3, none⟩) (World.block_lt_of_cell? _ _ HC3.out)).trans HC3.out
      by_cases hA : i + 2 ≤ j
      · exact absurd hA (by omega)
      · by_cases hB : j + 2 ≤ i
        · have hBI : (2 : Int) ≤ (i : Int) + 1 - ((j : Int) + 1) := by omega
          have hAI : ¬ (2 : Int) ≤ (j : Int) + 1 - ((i : Int) + 1) := by omega
          go_wp2_with (fail)
          refine (HJ2.out w6 ((i : Int) + 1) ((j : Int) + 1) H6.out).mono ?_
          rintro e w11 ⟨a11, c11, rfl, hz11, hb11⟩
          have H11 := Lib.hid (And.intro hz11 (H6.out.trans (hb11.mono H6.out.size)))
          clear hz11 hb11
          go_wp2_with (fail)
          refine (HJ2.out w11 ((j : Int) + 1) ((i : Int) + 1) H11.out.2).mono ?_
          rintro e w12 ⟨a12, c12, rfl, hz12, hb12⟩
          have H12 := Lib.hid (And.intro (H11.out.1.below hb12) (And.intro hz12 (H11.out.2.trans (hb12.mono H11.out.2.size))))
          clear hz12 hb12
          go_wp2_with (fail)
          refine (HS2.out w12 a11 a12 c11 c12 2 [((i : Int) + 1), (j : Int) + 1] [(j : Int) + 1, ((i : Int) + 1)] H12.out.1 H12.out.2.1 rfl rfl (by omega) (HFA.out j (.inr hB) (by omega)).1 (HLE2.out _ _ (HLP.out i (by omega)).1 (HLP.out j (by omega)).1) (HLE2.out _ _ (HLP.out j (by omega)).1 (HLP.out i (by omega)).1)).mono ?_
          rintro e w13 ⟨rfl, hb13⟩
          have H13 := Lib.hid (H12.out.2.2.trans (hb13.mono H12.out.2.2.size))
          clear hb13
          go_wp2_with (fail)
          go_ret
          exact ⟨rfl, H3.out.2.trans (H13.out.mono H3.out.2.size)⟩
        · have hBI : ¬ (2 : Int) ≤ (i : Int) + 1 - ((j : Int) + 1) := by omega
          have hAI : ¬ (2 : Int) ≤ (j : Int) + 1 - ((i : Int) + 1) := by omega
          go_wp2_with (fail)
          go_ret
          exact ⟨rfl, H3.out.2.trans (H6.out.mono H3.out.2.size)⟩
  | true =>
    go_wp2_with (fail)
    refine (HJ2.out w3 (-((i : Int) + 1)) ((i : Int) + 1) (Below.refl _ _)).mono ?_
    rintro e w4 ⟨a4, c4, rfl, hz4, hb4⟩
    have H4 := Lib.hid (And.intro hz4 hb4)
    clear hz4 hb4
    go_wp2_with (fail)
    refine (HS1.out w4 a4 c4 [(-((i : Int) + 1)), ((i : Int) + 1)] H4.out.2 H4.out.1 rfl (Gar.wq_neg (by omega)) (HLE2.out _ _ (HLP.out i (by omega)).2 (HLP.out i (by omega)).1)).mono ?_
    rintro e w5 ⟨rfl, hb5⟩
    have H5 := Lib.hid (H4.out.2.trans (hb5.mono H4.out.2.size))
    clear hb5
    go_wp2_with (fail)
    refine (HLV.out w5).mono ?_
    rintro e w6 ⟨rfl, hb6⟩
    have H6 := Lib.hid (H5.out.trans (hb6.mono H5.out.size))
    clear hb6
    obtain ⟨j, hj⟩ : ∃ j : Nat, p3 % ((n : Int) - 1) = (j : Int) := ⟨(p3 % ((n : Int) - 1)).toNat, by have := Int.emod_nonneg p3 (b := (n : Int) - 1) (by omega); omega⟩
    have hjn : (j : Int) < (n : Int) - 1 := by have := Int.emod_lt_of_pos p3 (b := (n : Int) - 1) (by omega); omega
    by_cases hk : i + 2 < n
    · have hkI : (i : Int) + 1 + 1 < (n : Int) := by omega
      go_wp2_with (fail)
      refine (HJ3.out w6 (-((i : Int) + 1)) (-((i : Int) + 1 + 1)) (-((i : Int) + 1)) H6.out).mono ?_
      rintro e w7 ⟨a7, c7, rfl, hz7, hb7⟩
      have H7 := Lib.hid (And.intro hz7 (H6.out.trans (hb7.mono H6.out.size)))
      clear hz7 hb7
      go_wp2_with (fail)
      refine (HJ3.out w7 (-((i : Int) + 1 + 1)) (-((i : Int) + 1)) (-((i : Int) + 1 + 1)) H7.out.2).mono ?_
      rintro e w8 ⟨a8, c8, rfl, hz8, hb8⟩
      have H8 := Lib.hid (And.intro (H7.out.1.below hb8) (And.intro hz8 (H7.out.2.trans (hb8.mono H7.out.2.size))))
      clear hz8 hb8
      have hL1 := (HLP.out i (by omega)).2
      have hL2 := (HLP.out (i + 1) (by omega)).2
      rw [show (((i + 1 : Nat) : Int) + 1) = (i : Int) + 1 + 1 by omega] at hL2
      have HL12 := Lib.hid (And.intro hL1 hL2)
      clear hL1 hL2
      go_wp2_with (fail)
      refine (HS2.out w8 a7 a8 c7 c8 3 [(-((i : Int) + 1)), (-((i : Int) + 1 + 1)), (-((i : Int) + 1))] [(-((i : Int) + 1 + 1)), (-((i : Int) + 1)), (-((i : Int) + 1 + 1))] H8.out.1 H8.out.2.1 rfl rfl (by omega) (HBR.out hk).2 (HLE3.out _ _ _ HL12.out.1 HL12.out.2 HL12.out.1) (HLE3.out _ _ _ HL12.out.2 HL12.out.1 HL12.out.2)).mono ?_
      rintro e w9 ⟨rfl, hb9⟩
      have H9 := Lib.hid (H8.out.2.2.trans (hb9.mono H8.out.2.2.size))
      clear hb9
      have hc3 := (H9.out.cell (p := ⟨w.heap.size, 3, none⟩) (World.block_lt_of_cell? _ _ HC3.out)).trans HC3.out
      by_cases hA : i + 2 ≤ j
      · have hAI : (2 : Int) ≤ (j : Int) + 1 - ((i : Int) + 1) := by omega
        go_wp2_with (fail)
        refine (HJ2.out w9 (-((i : Int) + 1)) ((j : Int) + 1) H9.out).mono ?_
        rintro e w11 ⟨a11, c11, rfl, hz11, hb11⟩
        have H11 := Lib.hid (And.intro hz11 (H9.out.trans (hb11.mono H9.out.size)))
        clear hz11 hb11
        go_wp2_with (fail)
        refine (HJ2.out w11 ((j : Int) + 1) (-((i : Int) + 1)) H11.out.2).mono ?_
        rintro e w12 ⟨a12, c12, rfl, hz12, hb12⟩
        have H12 := Lib.hid (And.intro (H11.out.1.below hb12) (And.intro hz12 (H11.out.2.trans (hb12.mono H11.out.2.size))))
        clear hz12 hb12
        go_wp2_with (fail)
        refine (HS2.out w12 a11 a12 c11 c12 2 [(-((i : Int) + 1)), (j : Int) + 1] [(j : Int) + 1, (-((i : Int) + 1))] H12.out.1 H12.out.2.1 rfl rfl (by omega) (HFA.out j (.inl hA) (by omega)).2 (HLE2.out _ _ (HLP.out i (by omega)).2 (HLP.out j (by omega)).1) (HLE2.out _ _ (HLP.out j (by omega)).1 (HLP.out i (by omega)).2)).mono ?_
        rintro e w13 ⟨rfl, hb13⟩
        have H13 := Lib.hid (H12.out.2.2.trans (hb13.mono H12.out.2.2.size))
        clear hb13
        go_wp2_with (fail)
        go_ret
        exact ⟨rfl, H3.out.2.trans (H13.out.mono H3.out.2.size)⟩
      · by_cases hB : j + 2 ≤ i
        · have hBI : (2 : Int) ≤ (i : Int) + 1 - ((j : Int) + 1) := by omega
          have hAI : ¬ (2 : Int) ≤ (j : Int) + 1 - ((i : Int) + 1) := by omega
          go_wp2_with (fail)
          refine (HJ2.out w9 (-((i : Int) + 1)) ((j : Int) + 1) H9.out).mono ?_
          rintro e w11 ⟨a11, c11, rfl, hz11, hb11⟩
          have H11 := Lib.hid (And.intro hz11 (H9.out.trans (hb11.mono H9.out.size)))
          clear hz11 hb11
          go_wp2_with (fail)
          refine (HJ2.out w11 ((j : Int) + 1) (-((i : Int) + 1)) H11.out.2).mono ?_
          rintro e w12 ⟨a12, c12, rfl, hz12, hb12⟩
          have H12 := Lib.hid (And.intro (H11.out.1.below hb12) (And.intro hz12 (H11.out.2.trans (hb12.mono H11.out.2.size))))
          clear hz12 hb12
          go_wp2_with (fail)
          refine (HS2.out w12 a11 a12 c11 c12 2 [(-((i : Int) + 1)), (j : Int) + 1] [(j : Int) + 1, (-((i : Int) + 1))] H12.out.1 H12.out.2.1 rfl rfl (by omega) (HFA.out j (.inr hB) (by omega)).2 (HLE2.out _ _ (HLP.out i (by omega)).2 (HLP.out j (by omega)).1) (HLE2.out _ _ (HLP.out j (by omega)).1 (HLP.out i (by omega)).2)).mono ?_
          rintro e w13 ⟨rfl, hb13⟩
          have H13 := Lib.hid (H12.out.2.2.trans (hb13.mono H12.out.2.2.size))
          clear hb13
          go_wp2_with (fail)
          go_ret
          exact ⟨rfl, H3.out.2.trans (H13.out.mono H3.out.2.size)⟩
        · have hBI : ¬ (2 : Int) ≤ (i : Int) + 1 - ((j : Int) + 1) := by omega
          have hAI : ¬ (2 : Int) ≤ (j : Int) + 1 - ((i : Int) + 1) := by omega
          go_wp2_with (fail)
          go_ret
          exact ⟨rfl, H3.out.2.trans (H9.out.mono H3.out.2.size)⟩
    · have hkI : ¬ (i : Int) + 1 + 1 < (n : Int) := by omega
      have hc3 := (H6.out.cell (p := ⟨w.heap.size, 3, none⟩) (World.block_lt_of_cell? _ _ HC3.out)).trans HC3.out
      by_cases hA : i + 2 ≤ j
      · exact absurd hA (by omega)
      · by_cases hB : j + 2 ≤ i
        · have hBI : (2 : Int) ≤ (i : Int) + 1 - ((j : Int) + 1) := by omega
          have hAI : ¬ (2 : Int) ≤ (j : Int) + 1 - ((i : Int) + 1) := by omega
          go_wp2_with (fail)
          refine (HJ2.out w6 (-((i : Int) + 1)) ((j : Int) + 1) H6.out).mono ?_
          rintro e w11 ⟨a11, c11, rfl, hz11, hb11⟩
          have H11 := Lib.hid (And.intro hz11 (H6.out.trans (hb11.mono H6.out.size)))
          clear hz11 hb11
          go_wp2_with (fail)
          refine (HJ2.out w11 ((j : Int) + 1) (-((i : Int) + 1)) H11.out.2).mono ?_
          rintro e w12 ⟨a12, c12, rfl, hz12, hb12⟩
          have H12 := Lib.hid (And.intro (H11.out.1.below hb12) (And.intro hz12 (H11.out.2.trans (hb12.mono H11.out.2.size))))
          clear hz12 hb12
          go_wp2_with (fail)
          refine (HS2.out w12 a11 a12 c11 c12 2 [(-((i : Int) + 1)), (j : Int) + 1] [(j : Int) + 1, (-((i : Int) + 1))] H12.out.1 H12.out.2.1 rfl rfl (by omega) (HFA.out j (.inr hB) (by omega)).2 (HLE2.out _ _ (HLP.out i (by omega)).2 (HLP.out j (by omega)).1) (HLE2.out _ _ (HLP.out j (by omega)).1 (HLP.out i (by omega)).2)).mono ?_
          rintro e w13 ⟨rfl, hb13⟩
          have H13 := Lib.hid (H12.out.2.2.trans (hb13.mono H12.out.2.2.size))
          clear hb13
          go_wp2_with (fail)
          go_ret
          exact ⟨rfl, H3.out.2.trans (H13.out.mono H3.out.2.size)⟩
        · have hBI : ¬ (2 : Int) ≤ (i : Int) + 1 - ((j : Int) + 1) := by omega
          have hAI : ¬ (2 : Int) ≤ (j : Int) + 1 - ((i : Int) + 1) := by omega
          go_wp2_with (fail)
          go_ret
          exact ⟨rfl, H3.out.2.trans (H6.out.mono H3.out.2.size)⟩

end Go.Proofs.Ytbcggbmjbljnfaa
