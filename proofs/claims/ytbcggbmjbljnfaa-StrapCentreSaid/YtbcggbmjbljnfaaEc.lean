/-
  strap: the laws' 'strands', 'word'.
-/
import Derived.Test.YtbcggbmjbljnfaaDg
import Derived.Test.YtbcggbmjbljnfaaEb
namespace Go.Proofs.Ytbcggbmjbljnfaa
open Go.RowKit Go.Sort

theorem strands_any (u most : Int) (w : World) (hu : 0 ≤ u ∧ u ≤ 255) (hm : 3 ≤ most ∧ most ≤ 100) : Calls Try.prog 40 #[.int .u8 u, .int .i64 most] w fun e w' => (e = .returned (.int .i64 (u % (most - 1) + 2))) ∧ w = w' := by
  have hb : 0 ≤ u % (most - 1) ∧ u % (most - 1) < most - 1 := ⟨Int.emod_nonneg _ (by omega), Int.emod_lt_of_pos _ (by omega)⟩
  have e3 : wrap64 (u % (most - 1) + 2) = u % (most - 1) + 2 := by unfold wrap64; omega
  have hne : ¬ most - 1 = 0 := by omega
  go_enter Try.func40, Try.ntmps40
  go_wp2_with (fail)
  go_ret
  exact ⟨by simp [e3], rfl⟩

/-- Small numbers, read. -/
def Ints8 (w : World) (a : Option Addr) (zs : List Int) : Prop := (∀ z ∈ zs, -128 ≤ z ∧ z ≤ 127) ∧ ∀ i, i < zs.length → ∃ b off, a = some ⟨b, off, none⟩ ∧ w.cell? ⟨b, off + i, none⟩ = some (.int .i8 (zs[i]?.getD 0))
theorem Ints8.below {w w' : World} {a : Option Addr} {zs : List Int} (h : Ints8 w a zs) (hb : Below w.heap.size w w') : Ints8 w' a zs := ⟨h.1, fun i hi => by
  obtain ⟨b, off, e, hc⟩ := h.2 i hi
  exact ⟨b, off, e, (hb.cell (p := ⟨b, off + i, none⟩) (World.block_lt_of_cell? w _ hc)).trans hc⟩⟩
theorem Ints8.at {w : World} {a : Option Addr} {zs : List Int} (h : Ints8 w a zs) : zs = [] ∨ ∃ b off, a = some ⟨b, off, none⟩ ∧ ∀ i, i < zs.length → w.cell? ⟨b, off + i, none⟩ = some (.int .i8 (zs[i]?.getD 0)) := by
  cases zs with
  | nil => exact .inl rfl
  | cons x p =>
    obtain ⟨b, off, rfl, _⟩ := h.2 0 (by simp)
    refine .inr ⟨b, off, rfl, fun i hi => ?_⟩
    obtain ⟨b', off', e, hc⟩ := h.2 i hi
    cases e
    exact hc
/-- The letters. -/
def wordN (n : Nat) (zs : List Int) : List Int := (zs.map fun z => z.tmod n).filter (fun z => z != 0)
theorem wordN_snoc (n : Nat) (zs : List Int) (z : Int) : wordN n (zs ++ [z]) = wordN n zs ++ (if z.tmod n = 0 then [] else [z.tmod n]) := by
  unfold wordN
  rw [List.map_append, List.filter_append]
  congr 1
  by_cases h : z.tmod n = 0 <;> simp [h]
theorem wordN_len (n : Nat) (zs : List Int) : (wordN n zs).length ≤ zs.length := by
  unfold wordN
  exact Nat.le_trans (List.length_filter_le _ _) (by simp)
theorem tmod_bd (y : Int) {n : Nat} (hn : 1 ≤ n) : -(n : Int) < y.tmod n ∧ y.tmod n < n := by
  have h1 := Int.tmod_lt_of_pos y (b := n) (by omega)
  have h3 := Int.neg_tmod y n
  have h4 := Int.tmod_lt_of_pos (-y) (b := n) (by omega)
  omega
theorem wordN_let {n : Nat} (hn : 1 ≤ n) {zs : List Int} : ∀ z ∈ wordN n zs, Gar.Let n z := fun z hz => by
  unfold wordN at hz
  obtain ⟨hz, h0⟩ := List.mem_filter.1 hz
  obtain ⟨y, _, rfl⟩ := List.mem_map.1 hz
  have h1 := tmod_bd y hn
  exact ⟨by simpa using h0, h1.1, h1.2⟩
def GivesI (l : List Int) (w : World) (e : Ending) (w' : World) : Prop := ∃ g c, e = .returned (.slice (some ⟨g, 0, none⟩) l.length c) ∧ l.length ≤ c ∧ w.heap.size ≤ g ∧ Ints w' (some ⟨g, 0, none⟩) l ∧ Below w.heap.size w w'

theorem coll_gives {w wr : World} {l l' : List Int} {j g c : Nat} (e : l' = l) (h : CollI w l j (.slice (some ⟨g, 0, none⟩) j c) wr) : GivesI l' w (.returned (.slice (some ⟨g, 0, none⟩) j c)) wr := by
  subst e
  have ho := h.owns
  obtain ⟨hb, hl, g', c', e, hg, _⟩ := h
  cases e
  subst hl
  rcases ho.2 with ⟨e, _⟩ | ⟨g', cap', cur, e', hg', hr, h1, h2, hs, ht⟩
  · cases e
  · cases e'
    exact ⟨g, c, rfl, h1, hg', Ints.of_owns ho, hb⟩

set_option maxRecDepth 100000 in
set_option maxHeartbeats 1000000 in
theorem word_any (n most m cap : Nat) (a : Option Addr) (zs : List Int) (w : World) (h1 : 1 ≤ n) (hn : n ≤ 100) (hmo : most ≤ 1000) (hl : zs.length = m) (hm : m ≤ 9223372036854775807) (hz : Ints8 w a zs) :
    Calls Try.prog 41 #[.int .i64 (n : Int), .slice a m cap, .int .i64 (most : Int)] w (GivesI (wordN n (zs.take most)) w) := by
  have HI : Hid (CollI w (wordN n (zs.take 0)) 0 (.slice (some ⟨w.heap.size, 0, none⟩) 0 0) (w.alloc (.cells #[] 3))) := Lib.hid (by simpa [wordN] using CollI.start w)
  have HZ := Lib.hid hz
  have HL := Lib.hid hl
  have hnn : ¬ (n : Int) = 0 := by omega
  clear hz hl
  go_enter Try.func41, Try.ntmps41
  go_wp2_with (fail)
  go_loopw [8, 7, 9] (fun v v3 v9 wr => ∃ k j g c : Nat, k ≤ most ∧ k ≤ m ∧ v = .int .i64 k ∧ v3 = .slice (some ⟨g, 0, none⟩) j c ∧ Hid (CollI w (wordN n (zs.take k)) j (.slice (some ⟨g, 0, none⟩) j c) wr)) (fun v _ _ _ => m - (intOf v).toNat)
  case atStart => exact ⟨0, 0, _, 0, Nat.zero_le _, Nat.zero_le _, rfl, rfl, HI⟩
  case round =>
    clear HI
    obtain ⟨k, j, g, c, hk, hkm, rfl, rfl, HR⟩ := hrel
    by_cases hlt : k < m
    · have hkI : (k : Int) < (m : Int) := by omega
      by_cases hlt2 : k < most
      · have hkI2 : (k : Int) < (most : Int) := by omega
        rcases HZ.out.at with h | ⟨b, off, rfl, hc⟩
        · subst h; have := HL.out; simp at this; omega
        have hck := hc k (by rw [HL.out]; exact hlt)
        obtain ⟨z, hzk⟩ : ∃ z, zs[k]?.getD 0 = z := ⟨_, rfl⟩
        rw [hzk] at hck
        have hzb : -128 ≤ z ∧ z ≤ 127 := by
          rw [← hzk, List.getElem?_eq_getElem (by rw [HL.out]; exact hlt), Option.getD_some]
          exact HZ.out.1 _ (List.getElem_mem _)
        have hsn : Hid (wordN n (zs.take (k + 1)) = wordN n (zs.take k) ++ (if z.tmod n = 0 then [] else [z.tmod n])) := Lib.hid (by
          rw [← wordN_snoc, List.take_add_one, ← hzk, List.getElem?_eq_getElem (by rw [HL.out]; exact hlt)]
          rfl)
        have hck' := (HR.out.1.cell (p := ⟨b, off + k, none⟩) (World.block_lt_of_cell? w _ hck)).trans hck
        clear hck hc
        have hzt : -128 ≤ z.tmod n ∧ z.tmod n ≤ 127 := by
          have h3 := tmod_bd z (n := n) h1
          omega
        have hown := HR.out.owns
        have hsz := HR.out.1.size
        have hjm : j ≤ 1000 := by
          have h2 := HR.out.2.1
          have h3 := wordN_len n (zs.take k)
          rw [List.length_take] at h3
          omega
        by_cases h0 : z.tmod n = 0
        · have h0b : (z.tmod n != 0) = false := by simp [h0]
          go_wp2_with (fail)
          exact ⟨⟨k + 1, j, g, c, by omega, by omega, by go_num, rfl, Lib.hid (by rw [hsn.out, if_pos h0, List.append_nil]; exact HR.out)⟩, by simp [intOf]; omega⟩
        · have h0b : (z.tmod n != 0) = true := by simp [h0]
          go_wp2_with (at_builtin; refine wpList_app_int rfl (.tmp 31) (.tmp 33) rfl w.heap.size _ j _ rfl (z.tmod n) wr.heap.size rfl rfl hown (by omega) hsz ?_; intro g2 c2 w2 hr2 hg2 _ _; have H2 := Lib.hid (HR.out.next hr2 hg2); clear hr2 hg2)
          exact ⟨⟨k + 1, j + 1, g2, c2, by omega, by omega, by go_num, rfl, Lib.hid (by rw [hsn.out, if_neg h0]; exact H2.out)⟩, by simp [intOf]; omega⟩
      · obtain rfl : k = most := by omega
        go_wp2_with (fail)
        go_ret
        exact coll_gives rfl HR.out
    · obtain rfl : k = m := by omega
      have e : zs.take most = zs.take k := by rw [List.take_of_length_le (by have := HL.out; omega), List.take_of_length_le (by have := HL.out; omega)]
      go_wp2_with (fail)
      go_ret
      exact coll_gives (by rw [e]) HR.out

end Go.Proofs.Ytbcggbmjbljnfaa
