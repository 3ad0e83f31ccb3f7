/-
  strap: the reference's 'Half', 'Simple': the half twist and the word of a simple braid.
-/
import Derived.Test.YtbcggbmjbljnfaaEd
namespace Go.Proofs.Ytbcggbmjbljnfaa
open Go.RowKit Go.Sort

/-! ### Pure -/
def swapAt (q : List Nat) (i : Nat) : List Nat := (q.set i (q[i + 1]?.getD 0)).set (i + 1) (q[i]?.getD 0)
def upAt (q : List Nat) (i : Nat) : Bool := decide (q[i]?.getD 0 < q[i + 1]?.getD 0)
def fallN (q : List Nat) : Option Nat := (List.range (q.length - 1)).find? (fun i => !upAt q i)
/-- The word of a simple braid, with fuel: the letters less 1. -/
def simpN : Nat → List Nat → Option (List Nat)
  | 0, _ => none
  | f + 1, q => match fallN q with
    | none => some []
    | some i => match simpN f (swapAt q i) with
      | none => none
      | some l => some (i :: l)
theorem fallN_here {q : List Nat} {k : Nat} (h : ∀ j, j < k → upAt q j = true) (hk : k + 1 < q.length) (hp : upAt q k = false) : fallN q = some k :=
  List.find?_range_eq_some.2 ⟨by simp [hp], List.mem_range.2 (by omega), fun j hj => by simp [h j hj]⟩
theorem fallN_none {q : List Nat} (h : ∀ j, j + 1 < q.length → upAt q j = true) : fallN q = none :=
  List.find?_eq_none.2 fun j hj => by simp [h j (by have := List.mem_range.1 hj; omega)]
theorem fallN_lt {q : List Nat} {i : Nat} (h : fallN q = some i) : i + 1 < q.length ∧ upAt q i = false := by
  have h1 := List.mem_of_find?_eq_some h
  have h2 := List.find?_some h
  have := List.mem_range.1 h1
  exact ⟨by omega, by simpa using h2⟩
theorem swapAt_len (q : List Nat) (i : Nat) : (swapAt q i).length = q.length := by simp [swapAt]
/-- The letters. -/
def letsN (ks : List Nat) : List Int := ks.map fun (k : Nat) => (k : Int) + 1

set_option maxRecDepth 100000 in
set_option maxHeartbeats 1000000 in
theorem refHalf_any (n : Nat) (w : World) (hn : n ≤ 1000) : Calls Try.prog 45 #[.int .i64 (n : Int)] w fun e w' => ∃ g c, e = .returned (.slice (some ⟨g, 0, none⟩) n c) ∧ Nats w' (some ⟨g, 0, none⟩) (halfN n) ∧ Below w.heap.size w w' := by
  have HI : Hid (CollI w (castI ((halfN n).take 0)) 0 (.slice (some ⟨w.heap.size, 0, none⟩) 0 0) (w.alloc (.cells #[] 3))) := Lib.hid (CollI.start w)
  have HS : Hid (∀ k, k < n → castI ((halfN n).take (k + 1)) = castI ((halfN n).take k) ++ [(n : Int) - 1 - (k : Int)]) := Lib.hid (fun k hk => by
    have h1 : (halfN n)[k]? = some (n - 1 - k) := by
      unfold halfN idN
      rw [List.getElem?_reverse (by simpa using hk), List.length_range, List.getElem?_range (by omega)]
    rw [List.take_add_one, h1]
    unfold castI
    rw [List.map_append]
    simp
    omega)
  have HL : Hid ((halfN n).length = n) := Lib.hid (halfN_in n).1
  go_enter Try.func45, Try.ntmps45
  go_wp2_with (fail)
  go_loopw [4, 3] (fun v v3 wr => ∃ k g c : Nat, k ≤ n ∧ v = .int .i64 k ∧ v3 = .slice (some ⟨g, 0, none⟩) k c ∧ Hid (CollI w (castI ((halfN n).take k)) k (.slice (some ⟨g, 0, none⟩) k c) wr)) (fun v _ _ => n - (intOf v).toNat)
  case atStart => exact ⟨0, _, 0, Nat.zero_le _, rfl, rfl, HI⟩
  case round =>
    clear HI
    obtain ⟨k, g, c, hk, rfl, rfl, HR⟩ := hrel
    by_cases hlt : k < n
    · have hkI : (k : Int) < (n : Int) := by omega
      have hown := HR.out.owns
      have hsz := HR.out.1.size
      have HSK := Lib.hid (HS.out k hlt)
      go_wp2_with (at_builtin; refine wpList_app_int rfl (.tmp 11) (.tmp 16) rfl w.heap.size _ k _ rfl ((n : Int) - 1 - (k : Int)) wr.heap.size rfl rfl hown (by omega) hsz ?_; intro g2 c2 w2 hr2 hg2 _ _; have H2 := Lib.hid (HR.out.next hr2 hg2); clear hr2 hg2)
      exact ⟨⟨k + 1, g2, c2, by omega, by go_num, rfl, Lib.hid (by rw [HSK.out]; exact H2.out)⟩, by simp [intOf]; omega⟩
    · obtain rfl : k = n := by omega
      have e : (halfN k).take k = halfN k := List.take_of_length_le (by have := HL.out; omega)
      go_wp2_with (fail)
      go_ret
      exact ⟨g, c, rfl, Nats.of_ints (Ints.of_owns (by have := HR.out.owns; rwa [e] at this)), HR.out.1⟩

theorem owns_grown {w w2 : World} {base g n cap : Nat} {e : TypeId} {xs : List Value} {row : Option Nat} (h : w.ownsRow base e 1 (.slice (some ⟨g, 0, none⟩) n cap) n xs) (hg : w.grownBy w2 row) (hne : ∀ r, row = some r → r ≠ g) : w2.ownsRow base e 1 (.slice (some ⟨g, 0, none⟩) n cap) n xs := by
  have hl := (h.lt g rfl).2
  have hk : w2.heap[g]? = w.heap[g]? := hg.block g hl (fun e' => hne g e'.symm rfl)
  refine ⟨h.1, h.2.imp id ?_⟩
  rintro ⟨g', cap', cur, e', h1, h2, h3⟩
  cases e'
  exact ⟨g, cap, cur, rfl, h1, hk.trans h2, h3⟩
/-- The state of 'Simple': what is collected, what is left. -/
def SimS (w : World) (gq n cq : Nat) (ks : List Nat) (f : Nat) (rest qs : List Nat) (go j co : Nat) (outs : List Int) (wr : World) : Prop :=
  Below w.heap.size w wr ∧ wr.ownsRow w.heap.size 3 1 (.slice (some ⟨go, 0, none⟩) j co) j (outs.map (Value.int .i64)) ∧ wr.ownsRow w.heap.size 3 1 (.slice (some ⟨gq, 0, none⟩) n cq) n ((castI qs).map (Value.int .i64)) ∧ go ≠ gq ∧ outs.length = j ∧ letsN ks = outs ++ letsN rest ∧ simpN f qs = some rest ∧ qs.length = n ∧ w.heap.size ≤ gq
theorem SimS.drewN {w : World} {gq n cq : Nat} {ks : List Nat} {f : Nat} {rest qs : List Nat} {go j co : Nat} {outs : List Int} {wr : World} (h : SimS w gq n cq ks f rest qs go j co outs wr) (m : Nat) : SimS w gq n cq ks f rest qs go j co outs (wr.drewN m) := by
  obtain ⟨h1, h2, h3, h4⟩ := h
  have hb := below_drewN (Below.refl wr.heap.size wr) m
  exact ⟨below_drewN h1 m, ownsRow_kept h2 hb, ownsRow_kept h3 hb, h4⟩
theorem SimS.drew {w : World} {gq n cq : Nat} {ks : List Nat} {f : Nat} {rest qs : List Nat} {go j co : Nat} {outs : List Int} {wr : World} (h : SimS w gq n cq ks f rest qs go j co outs wr) : SimS w gq n cq ks f rest qs go j co outs wr.drew := by
  obtain ⟨h1, h2, h3, h4⟩ := h
  have hb := (Below.refl wr.heap.size wr).drew
  exact ⟨h1.drew, ownsRow_kept h2 hb, ownsRow_kept h3 hb, h4⟩
theorem SimS.at {w : World} {gq n cq : Nat} {ks : List Nat} {f : Nat} {rest qs : List Nat} {go j co : Nat} {outs : List Int} {wr : World} (h : SimS w gq n cq ks f rest qs go j co outs wr) {i : Nat} (hi : i < n) : wr.cell? ⟨gq, i, none⟩ = some (.int .i64 ((qs[i]?.getD 0 : Nat) : Int)) := by
  obtain ⟨_, _, h3, _, _, _, _, hl, _⟩ := h
  obtain ⟨b, off, e, hc⟩ := (Nats.of_ints (Ints.of_owns h3)) i (by omega)
  cases e
  rwa [Nat.zero_add] at hc
/-- One letter more. -/
theorem SimS.push {w : World} {gq n cq : Nat} {ks : List Nat} {f : Nat} {rest qs : List Nat} {go j co g2 c2 k : Nat} {outs : List Int} {wr w2 : World} (h : SimS w gq n cq ks (f + 1) rest qs go j co outs wr) (hk : k + 1 < n) (hf : fallN qs = some k)
    (hr : w2.ownsRow w.heap.size 3 1 (.slice (some ⟨g2, 0, none⟩) (j + 1) c2) (j + 1) (outs.map (Value.int .i64) ++ [.int .i64 ((k : Int) + 1)])) (hg : wr.grownBy w2 (Value.slice (some ⟨go, 0, none⟩) j co).ownBlock) (he : some g2 = (Value.slice (some ⟨go, 0, none⟩) j co).ownBlock ∨ wr.heap.size ≤ g2) :
    ∃ rest', SimS w gq n cq ks f rest' (swapAt qs k) g2 (j + 1) c2 (outs ++ [(k : Int) + 1]) ((w2.setCell ⟨gq, k, none⟩ (.int .i64 ((qs[k + 1]?.getD 0 : Nat) : Int))).setCell ⟨gq, k + 1, none⟩ (.int .i64 ((qs[k]?.getD 0 : Nat) : Int))) ∧ w2.ownsRow w.heap.size 3 1 (.slice (some ⟨gq, 0, none⟩) n cq) n ((castI qs).map (Value.int .i64)) := by
  obtain ⟨h1, h2, h3, h4, h5, h6, h7, h8, h9⟩ := h
  unfold simpN at h7
  rw [hf] at h7
  simp only [] at h7
  cases hs : simpN f (swapAt qs k) with
  | none => rw [hs] at h7; cases h7
  | some l =>
    rw [hs] at h7
    cases h7
    have hlq := (h3.lt gq rfl).2
    have hne : g2 ≠ gq := by
      rcases he with e | e
      · cases e; exact h4
      · omega
    have hq2 : w2.ownsRow w.heap.size 3 1 (.slice (some ⟨gq, 0, none⟩) n cq) n ((castI qs).map (Value.int .i64)) := owns_grown h3 hg (by intro g e; cases e; exact h4)
    have e1 : ((castI qs).map (Value.int .i64)).set k (.int .i64 ((qs[k + 1]?.getD 0 : Nat) : Int)) = (castI (qs.set k (qs[k + 1]?.getD 0))).map (Value.int .i64) := by simp [castI, List.map_set]
    have e2 : ((castI (qs.set k (qs[k + 1]?.getD 0))).map (Value.int .i64)).set (k + 1) (.int .i64 ((qs[k]?.getD 0 : Nat) : Int)) = (castI (swapAt qs k)).map (Value.int .i64) := by simp [castI, List.map_set, swapAt]
    have q1 := owns_put hq2 (k := k) (by omega) (.int .i64 ((qs[k + 1]?.getD 0 : Nat) : Int))
    rw [e1] at q1
    have q2 := owns_put q1 (k := k + 1) hk (.int .i64 ((qs[k]?.getD 0 : Nat) : Int))
    rw [e2] at q2
    have o1 := ownsRow_set_ne hr (p := ⟨gq, k, none⟩) (by intro e; cases e; exact hne rfl) (.int .i64 ((qs[k + 1]?.getD 0 : Nat) : Int))
    have o2 := ownsRow_set_ne o1 (p := ⟨gq, k + 1, none⟩) (by intro e; cases e; exact hne rfl) (.int .i64 ((qs[k]?.getD 0 : Nat) : Int))
    refine ⟨l, ⟨?_, ?_, q2, hne, by simp [h5], by rw [h6]; simp [letsN], hs, by rw [swapAt_len]; exact h8, h9⟩, hq2⟩
    · exact ((h1.grown hg h1.size (fun g e => by cases e; exact (h2.lt go rfl).1)).setCell (p := ⟨gq, k, none⟩) h9 _).setCell (p := ⟨gq, k + 1, none⟩) h9 _
    · simpa using o2

theorem simpN_some {f : Nat} {q l : List Nat} (h : simpN f q = some l) : ∃ f', f = f' + 1 := by
  cases f with
  | zero => simp [simpN] at h
  | succ f => exact ⟨f, rfl⟩

set_option maxRecDepth 100000 in
set_option maxHeartbeats 4000000 in
theorem refSimple_any (a : Option Addr) (n cp f : Nat) (p ks : List Nat) (w : World) (hl : p.length = n) (h1 : 1 ≤ n) (hn : n ≤ 1000) (hz : Nats w a p) (hs : simpN f p = some ks) (hk : ks.length ≤ 1000) :
    Calls Try.prog 44 #[.slice a n cp] w (GivesI (letsN ks) w) := by
  rcases hz.at with h | ⟨b, off, rfl, hc⟩
  · rw [h] at hl; simp at hl; omega
  have HA : Hid (∀ j u, ((castI p).map (Value.int .i64))[j]? = some u → ((w.alloc (.cells #[] 3)).alloc (.cells #[] 3)).cell? ((⟨b, off, none⟩ : Addr).add j) = some u) := Lib.hid (fun j u hj => by
    have hjl : j < p.length := by have := (List.getElem?_eq_some_iff.1 hj).1; simpa [castI] using this
    have hadd : (⟨b, off, none⟩ : Addr).add j = ⟨b, off + j, none⟩ := by unfold Addr.add; split <;> simp_all
    rw [hadd, (((Below.refl _ w).alloc (Nat.le_refl _) (.cells #[] 3)).alloc (by simp) (.cells #[] 3)).cell (p := ⟨b, off + j, none⟩) (World.block_lt_of_cell? w _ (hc j hjl)), hc j hjl]
    rw [← hj]
    simp [castI, hjl])
  have HLE : Hid (((castI p).map (Value.int .i64)).length = n) := Lib.hid (by simp [castI, hl])
  have h0 := (CollI.start w).owns
  have HE1 : Hid (((w.alloc (.cells #[] 3)).alloc (.cells #[] 3)).ownsRow w.heap.size 3 1 (.slice (some ⟨w.heap.size, 0, none⟩) 0 0) 0 []) := Lib.hid (ownsRow_kept h0 ((Below.refl _ _).alloc (Nat.le_refl _) _))
  have HE2 : Hid (((w.alloc (.cells #[] 3)).alloc (.cells #[] 3)).ownsRow (w.heap.size + 1) 3 1 (.slice (some ⟨w.heap.size + 1, 0, none⟩) 0 0) 0 []) := Lib.hid (by
    have := (CollI.start (w.alloc (.cells #[] 3))).owns
    rwa [show (w.alloc (.cells #[] 3)).heap.size = w.heap.size + 1 by simp] at this)
  have HKL := Lib.hid hk
  have HS := Lib.hid hs
  have HPL := Lib.hid hl
  clear hz hc hl hs hk h0
  go_enter Try.func44, Try.ntmps44
  go_wp2_with (at_builtin; refine wpList_app_intsN rfl (.tmp 7) (.tmp 8) rfl (w.heap.size + 1) _ 0 [] rfl ⟨b, off, none⟩ n cp ((castI p).map (Value.int .i64)) rfl HLE.out HA.out (by simp [castI, Value.oneCell']) HE2.out (fun e => by cases e) n (by omega) (by omega) (by simp) ?_; intro g c2 w2 hr2 hg2; have H2 := Lib.hid (And.intro hr2 hg2); clear hr2 hg2)
  have hge := (H2.out.1.lt g rfl).1
  have HI : Hid (SimS w g n c2 ks f ks p w.heap.size 0 0 [] w2) := Lib.hid ⟨(((Below.refl _ w).alloc (Nat.le_refl _) (.cells #[] 3)).alloc (by simp) (.cells #[] 3)).grown H2.out.2 (by simp; omega) (fun k hk => by cases hk; exact Nat.le_succ _), owns_grown HE1.out H2.out.2 (fun r e => by cases e; exact Nat.succ_ne_self _), by simpa using ownsRow_weaken H2.out.1 (by omega), by omega, rfl, by simp, HS.out, HPL.out, by omega⟩
  clear HA HLE HE1 HE2 H2 HS
  go_loopw [3, 5] (fun v3 v5 wr => ∃ f rest qs go j co outs, v3 = .slice (some ⟨go, 0, none⟩) j co ∧ Hid (SimS w g n c2 ks f rest qs go j co outs wr)) (fun v3 _ _ => ks.length + 1 - lenV v3)
  case atStart => exact ⟨f, ks, p, _, 0, 0, [], rfl, HI⟩
  case round =>
    clear HI
    obtain ⟨f2, rest, qs, go, j, co, outs, rfl, HR⟩ := hrel
    go_wp2_with (fail)
    rename World => w6
    go_loopw [5] (fun v wx => ∃ k : Nat, k + 1 ≤ n ∧ v = .int .i64 k ∧ Hid (∀ i, i < k → upAt qs i = true) ∧ Hid (SimS w g n c2 ks f2 rest qs go j co outs wx)) (fun v _ => n - (intOf v).toNat)
    case atStart => exact ⟨0, h1, rfl, Lib.hid (fun i hi => by omega), HR⟩
    case round =>
      clear HR
      obtain ⟨k, hk, rfl, HU, HR⟩ := hrel
      by_cases hlt : k + 1 < n
      · have hkI : (k : Int) + 1 < (n : Int) := by omega
        have hkI0 : (k : Int) < (n : Int) := by omega
        have c0 := HR.out.at (i := k) (by omega)
        have c1 := HR.out.at (i := k + 1) hlt
        obtain ⟨x, hx⟩ : ∃ x, qs[k]?.getD 0 = x := ⟨_, rfl⟩
        obtain ⟨y, hy⟩ : ∃ y, qs[k + 1]?.getD 0 = y := ⟨_, rfl⟩
        rw [hx] at c0
        rw [hy] at c1
        have HXY := Lib.hid (And.intro hx hy)
        clear hx hy
        rcases Bool.eq_false_or_eq_true (decide (x < y)) with q1 | q1
        · have HU2 : Hid (∀ i, i < k + 1 → upAt qs i = true) := Lib.hid (fun i hi => by
            by_cases e : i = k
            · rw [e, upAt, HXY.out.1, HXY.out.2]; exact q1
            · exact HU.out i (by omega))
          go_wp2_with (fail)
          go_quiet (fail)
          go_wp2_with (fail)
          go_roundw
          case rel => exact ⟨k + 1, by omega, by go_num, HU2, Lib.hid (HR.out.drewN _)⟩
          case measure => simp [intOf]; omega
        · have HF : Hid (fallN qs = some k) := Lib.hid (fallN_here HU.out (by have := HR.out.2.2.2.2.2.2.2.1; omega) (by rw [upAt, HXY.out.1, HXY.out.2]; exact q1))
          go_wp2_with (fail)
          go_quiet (fail)
          obtain ⟨f3, rfl⟩ := simpN_some HR.out.2.2.2.2.2.2.1
          have HR7 := Lib.hid (HR.out.drewN nq)
          generalize wr.drewN nq = w7 at HR7 ⊢
          have hown := HR7.out.2.1
          have hsz := HR7.out.1.size
          have hjm : j ≤ 1000 ∧ j + rest.length = ks.length := by
            have h5 := HR7.out.2.2.2.2.1
            have h6 := congrArg List.length HR7.out.2.2.2.2.2.1
            simp [letsN] at h6
            have := HKL.out
            omega
          have hjj := hjm.1
          have HJM := Lib.hid hjm
          clear c0 c1 hjm q1 HR
          go_wp2_with (at_builtin; refine wpList_app_int rfl (.tmp 35) (.tmp 38) rfl w.heap.size _ j _ rfl ((k : Int) + 1) w7.heap.size rfl rfl hown (by omega) hsz ?_; intro g8 c8 w8 hr8 hg8 he8 _; have H8 := Lib.hid (And.intro hr8 (And.intro hg8 he8)); clear hr8 hg8 he8)
          obtain ⟨rest', hS9, hq8⟩ := HR7.out.push hlt HF.out H8.out.1 H8.out.2.1 H8.out.2.2
          have hN8 := Nats.of_ints (Ints.of_owns hq8)
          have hl8 := HR7.out.2.2.2.2.2.2.2.1
          have hat : ∀ i, i < n → w8.cell? ⟨g, i, none⟩ = some (.int .i64 ((qs[i]?.getD 0 : Nat) : Int)) := fun i hi => by
            obtain ⟨b', off', e, hc⟩ := hN8 i (by omega)
            cases e
            rwa [Nat.zero_add] at hc
          have f1 := hat k (by omega)
          have f2 := hat (k + 1) hlt
          rw [HXY.out.1] at f1
          rw [HXY.out.2] at f2
          rw [HXY.out.1, HXY.out.2] at hS9
          have f3' := owns_free hq8 k
          have f4' := owns_free hq8 (k + 1)
          have hq9 := owns_put hq8 (k := k) (by omega) (.int .i64 (y : Int))
          have f5 := owns_free hq9 (k + 1)
          obtain ⟨u6, f6⟩ : ∃ u, (w8.setCell ⟨g, k, none⟩ (.int .i64 (y : Int))).cell? ⟨g, k + 1, none⟩ = some u := ⟨_, by
            rw [hq9.cellAt (k + 1) (by omega)]
            exact List.getElem?_eq_getElem (by have := hq9.1; omega)⟩
          have HS9 := Lib.hid hS9
          have hw1 : IntKind.i64.wrap ((k : Int) + 1) = (k : Int) + 1 := by rw [IntKind.wrap_i64]; omega
          have hz1 : (0 : Int) ≤ (k : Int) + 1 := by omega
          have hz2 : ((k : Int) + 1).toNat = k + 1 := by omega
          clear hS9 hq8 hq9 hN8 hat hown hsz
          go_wp2_with (fail)
          go_region_law (fail)
          all_goals
            go_simp
            go_wp2_with (fail)
            exact ⟨⟨f3, rest', swapAt qs k, g8, j + 1, c8, outs ++ [(k : Int) + 1], rfl, Lib.hid HS9.out.drew⟩, by simp only [lenV]; have := HJM.out; omega⟩
      · have hnk : n = k + 1 := by omega
        have hgd : decide ((k : Int) + 1 < (n : Int)) = false := by simp; omega
        have HF : Hid (fallN qs = none) := Lib.hid (fallN_none (fun i hi => HU.out i (by have := HR.out.2.2.2.2.2.2.2.1; omega)))
        clear hnk
        go_wp2_with (fail)
        go_quiet (fail)
        go_wp2_with (fail)
        go_ret
        obtain ⟨h1', h2', h3', h4', h5', h6', h7', h8', h9'⟩ := HR.out
        obtain ⟨f3, rfl⟩ := simpN_some h7'
        unfold simpN at h7'
        rw [HF.out] at h7'
        cases h7'
        simp only [letsN, List.map_nil, List.append_nil] at h6'
        exact coll_gives (by rw [letsN, h6']) ⟨below_drewN h1' _, h5', go, co, rfl, ownsRow_kept h2' (below_drewN (Below.refl _ _) _)⟩

end Go.Proofs.Ytbcggbmjbljnfaa
