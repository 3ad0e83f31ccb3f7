/-
  strap: the laws' 'joined'.
-/
import Derived.Test.YtbcggbmjbljnfaaDh
import Derived.Test.YtbcggbmjbljnfaaEc
namespace Go.Proofs.Ytbcggbmjbljnfaa
open Go.RowKit Go.Sort

/-- Words, collected. -/
def CollJ (w : World) (l : List Int) (k : Nat) (v : Value) (wr : World) : Prop := Below w.heap.size w wr ∧ l.length = k ∧ wr.ownsRow w.heap.size 3 1 v k (l.map (Value.int .i64))
theorem CollJ.next {w wr w2 : World} {l l' : List Int} {k r : Nat} {v v' : Value} (h : CollJ w l k v wr) (hr : w2.ownsRow w.heap.size 3 1 v' r (l.map (Value.int .i64) ++ l'.map (Value.int .i64))) (hk : (l ++ l').length = r) (hg : wr.grownBy w2 v.ownBlock) : CollJ w (l ++ l') r v' w2 := by
  obtain ⟨hb, hl, h0⟩ := h
  exact ⟨hb.grown hg hb.size (fun q hq => (h0.lt q hq).1), hk, by simpa using hr⟩
theorem take_flat {ls : List (List Int)} {k : Nat} (hk : k < ls.length) : (ls.take (k + 1)).flatten = (ls.take k).flatten ++ ls[k]?.getD [] := by
  rw [List.take_add_one, List.flatten_append, List.getElem?_eq_getElem hk]
  simp
/-- Words in a row. -/
def Words (w : World) (b : Nat) (ls : List (List Int)) : Prop := ∀ i, i < ls.length → ∃ a c, w.cell? ⟨b, i, none⟩ = some (.slice a (ls[i]?.getD []).length c) ∧ Ints w a (ls[i]?.getD []) ∧ (a = none → c = 0)
theorem Words.below {w w' : World} {b : Nat} {ls : List (List Int)} (h : Words w b ls) (hb : Below w.heap.size w w') : Words w' b ls := fun i hi => by
  obtain ⟨a, c, hc, hz, hn⟩ := h i hi
  exact ⟨a, c, (hb.cell (p := ⟨b, i, none⟩) (World.block_lt_of_cell? w _ hc)).trans hc, hz.below hb, hn⟩

set_option maxRecDepth 100000 in
set_option maxHeartbeats 1000000 in
theorem joined_any (b m cap : Nat) (ls : List (List Int)) (w : World) (hl : ls.length = m) (hm : m ≤ 10) (hs : ∀ l ∈ ls, l.length ≤ 1000) (hW : Words w b ls) :
    Calls Try.prog 43 #[.slice (some ⟨b, 0, none⟩) m cap] w (CutV ls.flatten w) := by
  have HI : Hid (CollJ w (ls.take 0).flatten 0 (.slice (some ⟨w.heap.size, 0, none⟩) 0 0) (w.alloc (.cells #[] 3))) := Lib.hid ⟨(Below.refl _ w).alloc (Nat.le_refl _) _, rfl, owns_empty w _⟩
  have HW := Lib.hid hW
  have HL := Lib.hid hl
  have HS := Lib.hid hs
  clear hW hl hs
  go_enter Try.func43, Try.ntmps43
  go_wp2_with (fail)
  go_loopw [4, 3] (fun v v3 wr => ∃ k j c : Nat, ∃ a : Option Addr, k ≤ m ∧ v = .int .i64 k ∧ v3 = .slice a j c ∧ Hid (CollJ w (ls.take k).flatten j (.slice a j c) wr)) (fun v _ _ => m - (intOf v).toNat)
  case atStart => exact ⟨0, 0, 0, _, Nat.zero_le _, rfl, rfl, HI⟩
  case round =>
    clear HI
    obtain ⟨k, j, c, a, hk, rfl, rfl, HR⟩ := hrel
    by_cases hlt : k < m
    · have hkI : (k : Int) < (m : Int) := by omega
      have hkl : k < ls.length := by rw [HL.out]; exact hlt
      obtain ⟨ak, ck, hck, hzk, hnk⟩ := (HW.out.below HR.out.1) k hkl
      have hlen : (ls[k]?.getD []).length ≤ 1000 := by
        rw [List.getElem?_eq_getElem hkl, Option.getD_some]
        exact HS.out _ (List.getElem_mem _)
      have HT := Lib.hid (take_flat hkl)
      obtain ⟨l, hlk⟩ : ∃ l, ls[k]?.getD [] = l := ⟨_, rfl⟩
      rw [hlk] at hck hzk HT hlen
      obtain ⟨L, hL⟩ : ∃ L, l.length = L := ⟨_, rfl⟩
      rw [hL] at hck hlen
      have hown := HR.out.2.2
      have hsz := HR.out.1.size
      have hjm : j ≤ 100000 := by
        have h2 := HR.out.2.1
        have h3 : ∀ (q : Nat) (ls : List (List Int)), (∀ l ∈ ls, l.length ≤ 1000) → ls.length ≤ q → ls.flatten.length ≤ q * 1000 := by
          intro q
          induction q with
          | zero => intro ls _ h; have : ls = [] := List.eq_nil_of_length_eq_zero (by omega); subst this; simp
          | succ q ih =>
            intro ls h1 h
            cases ls with
            | nil => simp
            | cons x ls =>
              have := ih ls (fun l hl => h1 l (List.mem_cons_of_mem _ hl)) (by simpa using h)
              have := h1 x (List.mem_cons_self ..)
              simp only [List.flatten_cons, List.length_append]
              omega
        have h4 := h3 10 (ls.take k) (fun l hl => HS.out l (List.mem_of_mem_take hl)) (by rw [List.length_take]; omega)
        omega
      clear hlk
      have HLL := Lib.hid hL
      rcases hzk.at with h | ⟨bk, ok, rfl, hcz⟩
      · subst h
        obtain rfl : L = 0 := by simpa using hL.symm
        clear hL hzk hlen
        have HNK := Lib.hid hnk
        clear hnk
        go_wp2_with (at_builtin; refine wpList_app_nothing rfl (.tmp 12) (.tmp 16) rfl w.heap.size _ j _ rfl ak ck rfl HNK.out hown (by omega) hsz ?_; intro a2 c2 w2 hr2 hg2; have H2 := Lib.hid (HR.out.next (l' := []) (by simpa using hr2) (by simpa using HR.out.2.1) hg2); clear hr2 hg2)
        exact ⟨⟨k + 1, j, c2, a2, by omega, by go_num, rfl, Lib.hid (by rw [HT.out]; exact H2.out)⟩, by simp [intOf]; omega⟩
      · clear hL hzk hnk
        go_wp2_with (at_builtin; refine wpList_app_zs rfl (.tmp 12) (.tmp 16) rfl w.heap.size _ j _ rfl bk ok L ck l rfl HLL.out hcz hown (j + L) rfl (by omega) hsz ?_; intro a2 c2 w2 hr2 hg2; have H2 := Lib.hid (HR.out.next (l' := l) hr2 (by rw [List.length_append, HR.out.2.1, HLL.out]) hg2); clear hr2 hg2)
        exact ⟨⟨k + 1, j + L, c2, a2, by omega, by go_num, rfl, Lib.hid (by rw [HT.out]; exact H2.out)⟩, by simp [intOf]; omega⟩
    · obtain rfl : k = m := by omega
      go_wp2_with (fail)
      go_ret
      have e : ls.take k = ls := List.take_of_length_le (by have := HL.out; omega)
      have h1 := HR.out
      rw [e] at h1
      obtain ⟨hb, hj, ho⟩ := h1
      subst hj
      exact ⟨a, c, rfl, Ints.of_owns ho, hb⟩

end Go.Proofs.Ytbcggbmjbljnfaa
