/-
  The walks of 'reduceOnce' and 'Reduce' at the strip 3 1 3 with VM.
-/
import Derived.Test.YteankhgikpejhaaFs
namespace Go.Proofs.Yteankhgikpejhaa
open Go.RowKit Go.Sort

def vm : ByteArray := ⟨#[86, 77]⟩
def row313 (rest : List Value) : List Value := [Value.int .i64 3, Value.int .i64 1, Value.int .i64 3] ++ rest
def row5 (rest : List Value) : List Value := [Value.int .i64 5, Value.int .i64 0, Value.int .i64 0] ++ rest

theorem ints_313 {w : World} {g : Nat} {rest : List Value} (hg : w.heap[g]? = some (.cells (row313 rest).toArray 3 (0, 0))) : Ints w (some ⟨g, 0, none⟩) [3, 1, 3] := by
  intro i hi
  refine ⟨g, 0, rfl, ?_⟩
  rw [cell_of_row' hg]
  match i, hi with
  | 0, _ => rfl
  | 1, _ => rfl
  | 2, _ => rfl

/-- The world while 3 1 3 still lies there. -/
structure R3 (g : Nat) (rest : List Value) (w wq : World) : Prop where
  row : wq.heap[g]? = some (.cells (row313 rest).toArray 3 (0, 0))
  gr : w.grownBy wq (some g)
theorem R3.drewN {g : Nat} {rest : List Value} {w wq : World} (h : R3 g rest w wq) (n : Nat) : R3 g rest w (wq.drewN n) := ⟨h.row, World.grownBy.trans h.gr ⟨rfl, rfl, rfl, Nat.le_refl _, fun _ _ _ => rfl⟩⟩
theorem R3.cells {g : Nat} {rest : List Value} {w wq : World} (h : R3 g rest w wq) : wq.cell? ⟨g, 0, none⟩ = some (.int .i64 3) ∧ wq.cell? ⟨g, 1, none⟩ = some (.int .i64 1) ∧ wq.cell? ⟨g, 2, none⟩ = some (.int .i64 3) := by
  refine ⟨?_, ?_, ?_⟩ <;> rw [cell_of_row' h.row] <;> rfl
theorem R3.name {g : Nat} {rest : List Value} {w wq : World} (h : R3 g rest w wq) (n : Nat) : ∃ w1, wq.drewN n = w1 ∧ R3 g rest w w1 := ⟨_, rfl, h.drewN n⟩

theorem grownBy_drewN (w : World) (n : Nat) (x : Option Nat) : w.grownBy (w.drewN n) x := ⟨rfl, rfl, rfl, Nat.le_refl _, fun _ _ _ => rfl⟩

set_option maxRecDepth 100000 in
set_option maxHeartbeats 1000000 in
theorem reduce_313 (g cap : Nat) (rest : List Value) (w : World) (hcap : 3 + rest.length = cap) (hg : w.heap[g]? = some (.cells (row313 rest).toArray 3 (0, 0))) :
    Calls Try.prog 64 #[.slice (some ⟨g, 0, none⟩) 3 cap, .string vm] w
      fun e w' => e = .returned (.tuple #[.slice (some ⟨g, 0, none⟩) 1 cap, .string ByteArray.empty, .bool true]) ∧ w'.heap[g]? = some (.cells (row5 rest).toArray 3 (0, 0)) ∧ w.grownBy w' (some g) := by
  have h0 : R3 g rest w w := ⟨hg, ⟨rfl, rfl, rfl, Nat.le_refl _, fun _ _ _ => rfl⟩⟩
  obtain ⟨c0, c1, c2⟩ := h0.cells
  have Hcr : Hid (∀ wq, R3 g rest w wq → Calls Try.prog 76 #[.slice (some ⟨g, 0, none⟩) 3 cap, .string vm, .int .i64 1] wq fun e w' => e = .returned (.bool true) ∧ ∃ m, w' = wq.drewN m) := Lib.hid fun wq h =>
    canCrimp_any g 0 cap 3 [3, 1, 3] vm 0 wq rfl (by omega) rfl (by omega) (lt_of_block h.row) (ints_313 h.row)
  have hsz : vm.size = 2 := rfl
  have HC := Lib.hid hcap
  have H0 := Lib.hid h0
  clear hg hcap h0
  go_enter Try.func64, Try.ntmps64
  go_wp2
  go_quiet (fail)
  obtain ⟨w1, hw1, h1⟩ := H0.out.name nq
  rw [hw1]
  clear c0 c1 c2 hw1
  obtain ⟨c0, c1, c2⟩ := h1.cells
  have H1 := Lib.hid h1
  clear h1 H0 nq
  go_wp2
  go_quiet (fail)
  obtain ⟨w2, hw2, h2⟩ := H1.out.name nq
  rw [hw2]
  clear c0 c1 c2 hw2
  have H2 := Lib.hid h2
  clear h2 H1 nq w1
  go_wp2
  go_loop [0, 8] (fun s i => s = .slice (some ⟨g, 0, none⟩) 3 cap ∧ i = .int .i64 1) (fun _ _ => 0)
  case atStart => exact ⟨rfl, rfl⟩
  case round =>
    obtain ⟨rfl, rfl⟩ := hrel
    go_wp2_with (go_at_call 76; refine (Hcr.out _ H2.out).mono ?_; rintro e w3 ⟨rfl, m1, hm1⟩; obtain ⟨w4, hw4, h3⟩ := H2.out.name m1; rw [hw4] at hm1; subst hm1; clear hw4; obtain ⟨c0, c1, c2⟩ := h3.cells; have H3 := Lib.hid h3; clear h3 H2 m1)
    go_quiet (fail)
    obtain ⟨w5, hw5, h5⟩ := H3.out.name nq
    rw [hw5]
    clear c0 c1 c2 hw5
    have hb5 := h5.row
    have H5 := Lib.hid h5
    clear h5 H3 nq
    obtain ⟨W6, hW6⟩ : ∃ W6, w5.alloc (.cells #[.int .i64 5] 3) = W6 := ⟨_, rfl⟩
    have hr := replace_end g w5.heap.size 0 cap [] rest (.int .i64 3) (.int .i64 1) (.int .i64 3) 5 W6 rfl (by have := HC.out; omega) (by omega) (by rw [← hW6, Below.heap_alloc _ _ _ (lt_of_block hb5)]; exact hb5) (by rw [← hW6]; exact cells_new w5 [.int .i64 5] 3 w5.heap.size rfl 0 _ rfl)
    have HR := Lib.hid hr
    have HW := Lib.hid (And.intro hW6 (lt_of_block hb5))
    clear hr hW6 hb5
    go_wp2_with (go_at_call 77; rw [HW.out.1]; refine HR.out.mono ?_; rintro e w7 ⟨rfl, hrow, hgr⟩; have H7 := Lib.hid (And.intro hrow hgr); clear hrow hgr HR)
    go_quiet (fail)
    go_wp2
    go_ret3
    have e6 : w.grownBy W6 (some g) := by
      rw [← HW.out.1]
      exact World.grownBy.trans H5.out.gr ⟨rfl, rfl, rfl, by simp, fun k hk _ => Below.heap_alloc _ _ _ hk⟩
    exact ⟨rfl, H7.out.1, World.grownBy.trans e6 (World.grownBy.trans H7.out.2 (grownBy_drewN _ _ _))⟩

theorem reduce_5 (a : Option Addr) (cap : Nat) (w : World) (s : ByteArray) :
    Calls Try.prog 64 #[.slice a 1 cap, .string s] w fun e w' => e = .returned (.tuple #[.slice a 1 cap, .string s, .bool false]) ∧ w = w' := by
  go_enter Try.func64, Try.ntmps64
  go_wp2
  go_ret3
  exact ⟨rfl, rfl⟩

/-- What the loop of 'Reduce' keeps at 3 1 3 with VM. -/
def RedI (w : World) (s p b : Value) (wr : World) : Prop := Below w.heap.size w wr ∧ ∃ g cap rest, w.heap.size ≤ g ∧ 3 + rest.length = cap ∧ cap ≤ maxLen ∧
  ((s = .slice (some ⟨g, 0, none⟩) 3 cap ∧ p = .string vm ∧ b = .bool true ∧ wr.heap[g]? = some (.cells (row313 rest).toArray 3 (0, 0))) ∨
   (s = .slice (some ⟨g, 0, none⟩) 1 cap ∧ p = .string ByteArray.empty ∧ (b = .bool true ∨ b = .bool false) ∧ wr.heap[g]? = some (.cells (row5 rest).toArray 3 (0, 0))))
def redM : Value → Value → Nat
  | .slice _ n _, .bool true => n + 1
  | _, _ => 0
/-- What 'Reduce' hands back there. -/
def RedPost (w : World) (e : Ending) (w' : World) : Prop := ∃ g cap, e = .returned (.tuple #[.slice (some ⟨g, 0, none⟩) 1 cap, .string ByteArray.empty, .int .i64 0]) ∧ w.heap.size ≤ g ∧ w'.ownsRow 0 3 1 (.slice (some ⟨g, 0, none⟩) 1 cap) 1 [.int .i64 5] ∧ Below w.heap.size w w'

theorem row_split {w : World} {base g c : Nat} (h : w.ownsRow base 3 1 (.slice (some ⟨g, 0, none⟩) 3 c) 3 [.int .i64 3, .int .i64 1, .int .i64 3]) : ∃ rest, 3 + rest.length = c ∧ c ≤ maxLen ∧ w.heap[g]? = some (.cells (row313 rest).toArray 3 (0, 0)) := by
  rcases h.2 with ⟨h0, _⟩ | ⟨g', c', cur, e, _, hb, h1, h2, h3, h4⟩
  · cases h0
  · cases e
    refine ⟨cur.toList.drop 3, by simp; omega, h2, ?_⟩
    rw [hb]
    have : cur = (row313 (cur.toList.drop 3)).toArray := by
      rw [← Array.toList_inj]
      have h4' : cur.toList.take 3 = [Value.int .i64 3, Value.int .i64 1, Value.int .i64 3] := by simpa using h4
      show cur.toList = row313 (cur.toList.drop 3)
      rw [row313, ← h4', List.take_append_drop]
    rw [← this]

set_option maxRecDepth 100000 in
set_option maxHeartbeats 1000000 in
theorem Reduce_313 (b : Nat) (w : World) (hb : w.heap[b]? = some (.cells #[.int .i64 3, .int .i64 1, .int .i64 3] 3 (0, 0))) :
    Calls Try.prog 27 #[.slice (some ⟨b, 0, none⟩) 3 3, .string vm] w (RedPost w) := by
  have hz : Ints w (some ⟨b, 0, none⟩) [3, 1, 3] := ints_313 (rest := []) hb
  have his := Lib.hid (isStrip_any (some ⟨b, 0, none⟩) 3 3 [3, 1, 3] w rfl (by omega) hz)
  have hpat := Lib.hid (isPattern_any vm 2 w (by decide) (by omega))
  have hcl := Lib.hid (clone_any (some ⟨b, 0, none⟩) 3 3 b [3, 1, 3] w (by omega) (by omega) ⟨rfl, .inr ⟨b, 3, _, rfl, Nat.le_refl _, hb, Nat.le_refl _, by decide, rfl, rfl⟩⟩)
  clear hz hb
  go_enter Try.func27, Try.ntmps27
  go_wp2_with (first
    | (go_at_call 47; refine his.out.mono ?_; rintro e w1 ⟨rfl, rfl⟩; rw [show stripB [3, 1, 3] = true from rfl])
    | (go_at_call 62; refine hpat.out.mono ?_; rintro e w1 ⟨rfl, rfl⟩; rw [show patB vm 2 = true from rfl])
    | (go_at_call 63; refine hcl.out.mono ?_; rintro e w1 ⟨v, rfl, ⟨g, c, rfl, hrow⟩, hb1⟩; have HR := Lib.hid hrow; have HB := Lib.hid hb1; clear hrow hb1))
  go_loopw [7, 8, 9] (fun s p b wr => RedI w s p b wr) (fun s _ b _ => redM s b)
  case atStart =>
    obtain ⟨rest, h1, h2, h3⟩ := row_split HR.out
    exact ⟨HB.out, g, c, rest, by have := HR.out.lt g rfl; omega, h1, h2, .inl ⟨rfl, rfl, rfl, h3⟩⟩
  case round =>
    obtain ⟨hb, g, c, rest, hg, hc, hm, ⟨rfl, rfl, rfl, hrow⟩ | ⟨rfl, rfl, rfl | rfl, hrow⟩⟩ := hrel
    · have H := Lib.hid (And.intro hb (And.intro hg (And.intro hc (And.intro hm hrow))))
      have hr := Lib.hid (reduce_313 g c rest wr hc hrow)
      clear hb hg hc hm hrow
      go_wp2_with (go_at_call 64; refine hr.out.mono ?_; rintro e w2 ⟨rfl, hrow, hgr⟩; have HQ := Lib.hid (And.intro hrow hgr); clear hrow hgr)
      go_roundw
      case rel => 
        have := H.out.1.size
        exact ⟨H.out.1.grown HQ.out.2 this (fun k hk => by have := H.out.2.1; simp at hk; omega), g, c, rest, H.out.2.1, H.out.2.2.1, H.out.2.2.2.1, .inr ⟨rfl, rfl, .inl rfl, HQ.out.1⟩⟩
      case measure => simp [redM]
    · have H := Lib.hid (And.intro hb (And.intro hg (And.intro hc (And.intro hm hrow))))
      have hr := Lib.hid (reduce_5 (some ⟨g, 0, none⟩) c wr ByteArray.empty)
      clear hb hg hc hm hrow
      go_wp2_with (go_at_call 64; refine hr.out.mono ?_; rintro e w2 ⟨rfl, rfl⟩)
      go_roundw
      case rel => 
        exact ⟨H.out.1, g, c, rest, H.out.2.1, H.out.2.2.1, H.out.2.2.2.1, .inr ⟨rfl, rfl, .inr rfl, H.out.2.2.2.2⟩⟩
      case measure => simp [redM]
    · have H := Lib.hid (And.intro hb (And.intro hg (And.intro hc (And.intro hm hrow))))
      clear hb hg hc hm hrow
      go_wp2
      go_ret3
      refine ⟨g, c, rfl, H.out.2.1, ⟨rfl, .inr ⟨g, c, _, rfl, Nat.zero_le _, H.out.2.2.2.2, by have := H.out.2.2.1; omega, H.out.2.2.2.1, ?_, rfl⟩⟩, H.out.1⟩
      have := H.out.2.2.1
      simp [row5]; omega

end Go.Proofs.Yteankhgikpejhaa
