/-
  Clique trees: the program's 'isTree'.
-/
import Derived.Test.YtdlfoompfaipnaaUd
namespace Go.Proofs.Ytdlfoompfaipnaa
open Go.RowKit Go.Sort

theorem parts_some {w w1 : World} {ps : List Int} {c : Nat} {v : Value} (h : PartsV w ps c v w1) (hc : 1 ≤ c) : ∃ g cap, v = .slice (some ⟨g, 0, none⟩) c cap := by
  rcases h.2.1.2 with ⟨_, h0⟩ | ⟨g, cap, _, e, _⟩
  · omega
  · exact ⟨g, cap, e⟩
/-- Whether pairs join parts, one after the other. -/
def treeFrom (c : Nat) : List (Int × Int) → List Int → Bool
  | [], _ => true
  | p :: t, ps => if p.1 < 0 then false else if p.2 ≤ p.1 then false else if (c : Int) ≤ p.2 then false else
      (ps[p.1.toNat]?.getD 0 != ps[p.2.toNat]?.getD 0) && treeFrom c t (joinL ps (ps[p.1.toNat]?.getD 0) (ps[p.2.toNat]?.getD 0))
def partsI (c : Nat) : List Int := (List.range c).map fun (x : Nat) => (x : Int)
def isTreeB (c : Nat) (t : List (Int × Int)) : Bool := decide (t.length + 1 = c) && treeFrom c t (partsI c)

set_option maxRecDepth 100000 in
set_option maxHeartbeats 4000000 in
theorem isTree_any (aC aT : Option Addr) (c cc m cT : Nat) (t : List (Int × Int)) (w : World) (hc1 : 1 ≤ c) (hc : c ≤ 4096) (hl : t.length = m) (hm : m ≤ 1000) (he : Edges w aT t) :
    Calls Try.prog 53 #[.slice aC c cc, .slice aT m cT] w fun e w' => e = .returned (.bool (isTreeB c t)) ∧ Below w.heap.size w w' := by
  have HX := Lib.hid he
  have HL := Lib.hid hl
  have HP := Lib.hid (partsOf_any c w (by omega))
  have HI : Hid (isTreeB c t = (decide (m + 1 = c) && treeFrom c t (partsI c))) := Lib.hid (by rw [isTreeB, hl])
  clear he hl
  go_enter Try.func53, Try.ntmps53
  by_cases hmc : m + 1 = c
  · have HI2 : Hid (isTreeB c t = treeFrom c t (partsI c)) := Lib.hid (by rw [HI.out, decide_eq_true hmc, Bool.true_and])
    have hb : ((m : Int) != (c : Int) - 1) = false := by
      rw [bne_eq_false_iff_eq]; omega
    have hpl : (partsI c).length = c := by simp [partsI]
    obtain ⟨P0, hP0⟩ : ∃ P0, partsI c = P0 := ⟨_, rfl⟩
    rw [hP0] at hpl HI2
    have HP0 := Lib.hid hP0
    clear hP0 HI
    go_wp2_with (go_at_call 79; refine HP.out.mono ?_; rintro e w1 ⟨v, rfl, hv⟩; obtain ⟨g, cap, rfl⟩ : ∃ g cap, v = .slice (some ⟨g, 0, none⟩) c cap := parts_some hv hc1; have H1 := Lib.hid hv; clear hv)
    have HO1 : Hid (w1.ownsRow w.heap.size 3 1 (.slice (some ⟨g, 0, none⟩) c cap) c (P0.map (Value.int .i64))) := Lib.hid (by rw [← HP0.out]; exact H1.out.2.1)
    have HB1 := Lib.hid H1.out.2.2
    clear H1 HP
    go_loopw [19] (fun i wr => ∃ (j : Nat) (ps : List Int), j ≤ m ∧ i = .int .i64 j ∧ Hid (wr.ownsRow w.heap.size 3 1 (.slice (some ⟨g, 0, none⟩) c cap) c (ps.map (Value.int .i64))) ∧ Hid (Below w.heap.size w wr) ∧ Hid (treeFrom c t P0 = treeFrom c (t.drop j) ps)) (fun i _ => m - (intOf i).toNat)
    case atStart => exact ⟨0, P0, Nat.zero_le _, rfl, HO1, HB1, Lib.hid rfl⟩
    case round =>
      obtain ⟨j, ps, hj, rfl, HO, HB, HE⟩ := hrel
      by_cases hjm : j < m
      · have hjL : j < t.length := by rw [HL.out]; exact hjm
        rcases HX.out with h | ⟨b, off, rfl, hc'⟩
        · subst h; simp at hjL
        obtain ⟨c0, c1⟩ := hc' j hjL
        replace c0 := (HB.out.cell (p := ⟨b, off + j * 2, none⟩) (World.block_lt_of_cell? w _ c0)).trans c0
        replace c1 := (HB.out.cell (p := ⟨b, off + j * 2 + 1, none⟩) (World.block_lt_of_cell? w _ c1)).trans c1
        have HD : Hid (t.drop j = (t[j]?.getD (0, 0)) :: t.drop (j + 1)) := Lib.hid (by rw [List.drop_eq_getElem_cons hjL, List.getElem?_eq_getElem hjL]; rfl)
        obtain ⟨⟨A, B⟩, hAB⟩ : ∃ p, t[j]?.getD (0, 0) = p := ⟨_, rfl⟩
        rw [hAB] at c0 c1 HD
        simp only [] at c0 c1
        have hszw : w.heap.size ≤ wr.heap.size := HB.out.size
        have HBA : Hid (Below w.heap.size w (wr.alloc (.cells #[.int .i64 A, .int .i64 B] 65))) := Lib.hid (HB.out.alloc hszw _)
        clear hc' hAB hjL
        by_cases h1 : A < 0
        · have HR : Hid (isTreeB c t = false) := Lib.hid (by rw [HI2.out, HE.out, HD.out, treeFrom, if_pos h1])
          go_wp2
          go_ret
          exact ⟨ret_bool HR.out.symm, HBA.out⟩
        · have q1 : 0 ≤ A := by omega
          have q2 : decide (A < 0) = false := decide_eq_false h1
          have q3 : (A < 0) = False := eq_false h1
          by_cases h2 : B ≤ A
          · have HR : Hid (isTreeB c t = false) := Lib.hid (by rw [HI2.out, HE.out, HD.out, treeFrom, if_neg h1, if_pos h2])
            go_wp2
            go_ret
            exact ⟨ret_bool HR.out.symm, HBA.out⟩
          · have q4 : decide (B ≤ A) = false := decide_eq_false h2
            have q5 : (B ≤ A) = False := eq_false h2
            by_cases h3 : (c : Int) ≤ B
            · have HR : Hid (isTreeB c t = false) := Lib.hid (by rw [HI2.out, HE.out, HD.out, treeFrom, if_neg h1, if_neg h2, if_pos h3])
              go_wp2
              go_ret
              exact ⟨ret_bool HR.out.symm, HBA.out⟩
            · have q6 : decide ((c : Int) ≤ B) = false := decide_eq_false h3
              have q7 : ((c : Int) ≤ B) = False := eq_false h3
              obtain ⟨x, rfl⟩ := Int.eq_ofNat_of_zero_le (show 0 ≤ A by omega)
              obtain ⟨y, rfl⟩ := Int.eq_ofNat_of_zero_le (show 0 ≤ B by omega)
              have HJ := Lib.hid (join_any g c cap w.heap.size x y ps (wr.alloc (.cells #[.int .i64 x, .int .i64 y] 65)) (by omega) (by omega) (by omega) (by simp; omega) (HO.out.alloc _))
              have HT : Hid (isTreeB c t = ((ps[x]?.getD 0 != ps[y]?.getD 0) && treeFrom c (t.drop (j + 1)) (joinL ps (ps[x]?.getD 0) (ps[y]?.getD 0)))) := Lib.hid (by
                rw [HI2.out, HE.out, HD.out, treeFrom, if_neg h1, if_neg h2, if_neg h3]; rfl)
              obtain ⟨P1, hP1⟩ : ∃ P1, joinL ps (ps[x]?.getD 0) (ps[y]?.getD 0) = P1 := ⟨_, rfl⟩
              obtain ⟨r, hr⟩ : ∃ r, (ps[x]?.getD 0 != ps[y]?.getD 0) = r := ⟨_, rfl⟩
              rw [hP1, hr] at HJ HT
              clear hP1 hr
              cases r with
              | false =>
                have HR : Hid (isTreeB c t = false) := Lib.hid (by rw [HT.out, Bool.false_and])
                go_wp2_with (go_at_call 80; refine HJ.out.mono ?_; rintro e w3 ⟨rfl, hj3⟩; have H3 := Lib.hid hj3; clear hj3)
                go_ret
                exact ⟨ret_bool HR.out.symm, HBA.out.trans H3.out.2⟩
              | true =>
                have HR : Hid (treeFrom c t P0 = treeFrom c (t.drop (j + 1)) P1) := Lib.hid (by rw [← HI2.out, HT.out, Bool.true_and])
                go_wp2_with (go_at_call 80; refine HJ.out.mono ?_; rintro e w3 ⟨rfl, hj3⟩; have H3 := Lib.hid hj3; clear hj3)
                go_roundw
                case rel => exact ⟨j + 1, P1, by omega, by go_num, Lib.hid H3.out.1, Lib.hid (HBA.out.trans H3.out.2), HR⟩
                case measure => simp [intOf]; omega
      · obtain rfl : j = m := by omega
        have HR : Hid (isTreeB c t = true) := Lib.hid (by rw [HI2.out, HE.out, List.drop_eq_nil_of_le (by rw [HL.out]; exact Nat.le_refl _), treeFrom])
        go_wp2
        go_ret
        exact ⟨ret_bool HR.out.symm, HB.out⟩
  · have HR : Hid (isTreeB c t = false) := Lib.hid (by rw [HI.out, decide_eq_false hmc, Bool.false_and])
    have hb : ((m : Int) != (c : Int) - 1) = true := by
      rw [bne_iff_ne]; omega
    clear hmc
    go_wp2
    go_ret
    exact ⟨ret_bool HR.out.symm, Below.refl _ _⟩

end Go.Proofs.Ytdlfoompfaipnaa
