/-
  strap: matrices of polynomials: 'times'.
-/
import Derived.Test.YtbcggbmjbljnfaaCg
namespace Go.Proofs.Ytbcggbmjbljnfaa
open Go.RowKit Go.Sort

theorem keep7 {w w' : World} {a1 a2 a3 a4 a5 a6 a7 : Addr} {v1 v2 v3 v4 v5 v6 v7 : Value} (h : w.cell? a1 = some v1 ∧ w.cell? a2 = some v2 ∧ w.cell? a3 = some v3 ∧ w.cell? a4 = some v4 ∧ w.cell? a5 = some v5 ∧ w.cell? a6 = some v6 ∧ w.cell? a7 = some v7) (hb : Below w.heap.size w w') :
    w'.cell? a1 = some v1 ∧ w'.cell? a2 = some v2 ∧ w'.cell? a3 = some v3 ∧ w'.cell? a4 = some v4 ∧ w'.cell? a5 = some v5 ∧ w'.cell? a6 = some v6 ∧ w'.cell? a7 = some v7 := by
  have k : ∀ {a : Addr} {v : Value}, w.cell? a = some v → w'.cell? a = some v := fun {a v} hc => (hb.cell (p := a) (World.block_lt_of_cell? w _ hc)).trans hc
  exact ⟨k h.1, k h.2.1, k h.2.2.1, k h.2.2.2.1, k h.2.2.2.2.1, k h.2.2.2.2.2.1, k h.2.2.2.2.2.2⟩
theorem set7 {w : World} {b1 o1 b2 o2 b3 o3 b4 o4 b5 o5 b6 o6 b7 o7 B x y : Nat} {v1 v2 v3 v4 v5 v6 v7 u v : Value} (h : w.cell? ⟨b1, o1, none⟩ = some v1 ∧ w.cell? ⟨b2, o2, none⟩ = some v2 ∧ w.cell? ⟨b3, o3, none⟩ = some v3 ∧ w.cell? ⟨b4, o4, none⟩ = some v4 ∧ w.cell? ⟨b5, o5, none⟩ = some v5 ∧ w.cell? ⟨b6, o6, none⟩ = some v6 ∧ w.cell? ⟨b7, o7, none⟩ = some v7)
    (hn : b1 ≠ B ∧ b2 ≠ B ∧ b3 ≠ B ∧ b4 ≠ B ∧ b5 ≠ B ∧ b6 ≠ B ∧ b7 ≠ B) :
    ((w.setCell ⟨B, x, none⟩ u).setCell ⟨B, y, none⟩ v).cell? ⟨b1, o1, none⟩ = some v1 ∧ ((w.setCell ⟨B, x, none⟩ u).setCell ⟨B, y, none⟩ v).cell? ⟨b2, o2, none⟩ = some v2 ∧ ((w.setCell ⟨B, x, none⟩ u).setCell ⟨B, y, none⟩ v).cell? ⟨b3, o3, none⟩ = some v3 ∧ ((w.setCell ⟨B, x, none⟩ u).setCell ⟨B, y, none⟩ v).cell? ⟨b4, o4, none⟩ = some v4 ∧
    ((w.setCell ⟨B, x, none⟩ u).setCell ⟨B, y, none⟩ v).cell? ⟨b5, o5, none⟩ = some v5 ∧ ((w.setCell ⟨B, x, none⟩ u).setCell ⟨B, y, none⟩ v).cell? ⟨b6, o6, none⟩ = some v6 ∧ ((w.setCell ⟨B, x, none⟩ u).setCell ⟨B, y, none⟩ v).cell? ⟨b7, o7, none⟩ = some v7 := by
  have k : ∀ {b o : Nat} {z : Value}, b ≠ B → w.cell? ⟨b, o, none⟩ = some z → ((w.setCell ⟨B, x, none⟩ u).setCell ⟨B, y, none⟩ v).cell? ⟨b, o, none⟩ = some z := fun hb hc => by rw [cell_other hb, cell_other hb, hc]
  exact ⟨k hn.1 h.1, k hn.2.1 h.2.1, k hn.2.2.1 h.2.2.1, k hn.2.2.2.1 h.2.2.2.1, k hn.2.2.2.2.1 h.2.2.2.2.1, k hn.2.2.2.2.2.1 h.2.2.2.2.2.1, k hn.2.2.2.2.2.2 h.2.2.2.2.2.2⟩

set_option maxRecDepth 100000 in
set_option maxHeartbeats 2000000 in
theorem matTimes_any (gm go n : Nat) (A B A' B' : Int) (M O : Nat → Nat → Pol) (w : World) (hn : n ≤ 100) (hA : -200 ≤ A ∧ A ≤ 0) (hB : 0 ≤ B ∧ B ≤ 200) (hA' : -200 ≤ A' ∧ A' ≤ 0) (hB' : 0 ≤ B' ∧ B' ≤ 200) (hm : MatC w gm n M) (ho : MatC w go n O)
    (hM : ∀ i, i < n → ∀ j, j < n → Wi A B (M i j)) (hO : ∀ i, i < n → ∀ j, j < n → Wi A' B' (O i j)) :
    Calls Try.prog 100 #[.slice (some ⟨gm, 0, none⟩) n n, .slice (some ⟨go, 0, none⟩) n n] w (GivesM n (mulM n M O) w) := by
  have HZ := Lib.hid (zeroes_any n w (by omega))
  unfold GivesM at HZ
  have HMC := Lib.hid hm
  have HOC := Lib.hid ho
  have HW : Hid (∀ i, i < n → ∀ j, j < n → ∀ k, k ≤ n → Wi (A + A') (B + B') (mulAcc M O i j k)) := Lib.hid (fun i hi j hj k hk => mulAcc_wi hA.2 hB.1 hA'.2 hB'.1 hM hO hi hj hk)
  have HWM := Lib.hid hM
  have HWO := Lib.hid hO
  have HAB := Lib.hid (And.intro hA (And.intro hB (And.intro hA' hB')))
  have hgm := hm.lt
  have hgo := ho.lt
  clear hm ho hM hO hA hB hA' hB'
  go_enter Try.func100, Try.ntmps100
  go_wp2_with (fail)
  refine HZ.out.mono ?_
  rintro e w1 ⟨g, rfl, hg, hmz, hb⟩
  have HG := Lib.hid hg
  have HI : Hid (MatC w1 g n (mulP n M O 0 0 0) ∧ Below w.heap.size w w1) := Lib.hid ⟨by
    rw [show mulP n M O 0 0 0 = fun _ _ => (0, []) by funext a b; simp [mulP, mulAcc]]; exact hmz, hb⟩
  clear hmz hb hg
  go_wp2_with (fail)
  go_loopw [14] (fun v wr => ∃ i : Nat, i ≤ n ∧ v = .int .i64 i ∧ Hid (MatC wr g n (mulP n M O i 0 0) ∧ Below w.heap.size w wr)) (fun v _ => n - (intOf v).toNat)
  case atStart => exact ⟨0, Nat.zero_le _, rfl, HI⟩
  case round =>
    clear HI
    obtain ⟨i, hi, rfl, HR⟩ := hrel
    by_cases hlt : i < n
    · have hiI : (i : Int) < (n : Int) := by omega
      go_wp2_with (fail)
      go_loopw [19] (fun v wx => ∃ j : Nat, j ≤ n ∧ v = .int .i64 j ∧ Hid (MatC wx g n (mulP n M O i j 0) ∧ Below w.heap.size w wx)) (fun v _ => n - (intOf v).toNat)
      case atStart => exact ⟨0, Nat.zero_le _, rfl, HR⟩
      case round =>
        clear HR
        rename World => w2
        obtain ⟨j, hj, rfl, HR⟩ := hrel
        by_cases hltj : j < n
        · have hjI : (j : Int) < (n : Int) := by omega
          go_wp2_with (fail)
          go_loopw [24] (fun v wx => ∃ k : Nat, k ≤ n ∧ v = .int .i64 k ∧ Hid (MatC wx g n (mulP n M O i j k) ∧ Below w.heap.size w wx)) (fun v _ => n - (intOf v).toNat)
          case atStart => exact ⟨0, Nat.zero_le _, rfl, HR⟩
          case round =>
            clear HR
            rename World => w3
            obtain ⟨k, hk, rfl, HR⟩ := hrel
            by_cases hltk : k < n
            · have hkI : (k : Int) < (n : Int) := by omega
              have hm3 := HMC.out.below HR.out.2
              have ho3 := HOC.out.below HR.out.2
              have r1 := HR.out.1.row hlt
              have r2 := hm3.row hlt
              have r3 := ho3.row hltk
              obtain ⟨am, cm, e1, e2, z1, _⟩ := (hm3.2 i hlt).at hltk
              obtain ⟨ao, co, e3, e4, z2, _⟩ := (ho3.2 k hltk).at hltj
              obtain ⟨ap, cp, e5, e6, z3, _⟩ := (HR.out.1.2 i hlt).at hltj
              have hpv : mulP n M O i j k i j = mulAcc M O i j k := by simp [mulP]
              rw [hpv] at e5 e6 z3
              have hw1 := HWM.out i hlt k hltk
              have hw2 := HWO.out k hltk j hltj
              have hw3 := HW.out i hlt j hltj k hk
              obtain ⟨⟨ha1, ha2⟩, ⟨hb1, hb2⟩, ⟨ha3, ha4⟩, ⟨hb3, hb4⟩⟩ := HAB.out
              have hw4 := timesN_wi ha2 hb1 ha4 hb3 hw1 hw2
              have HSU := Lib.hid (mulAcc_succ M O i j k)
              have HNX := Lib.hid (mulP_next n M O i j k)
              obtain ⟨me, hme⟩ : ∃ me, M i k = me := ⟨_, rfl⟩
              obtain ⟨oe, hoe⟩ : ∃ oe, O k j = oe := ⟨_, rfl⟩
              obtain ⟨pe, hpe⟩ : ∃ pe, mulAcc M O i j k = pe := ⟨_, rfl⟩
              rw [hme] at e1 e2 z1 hw1 hw4 HSU
              rw [hoe] at e3 e4 z2 hw2 hw4 HSU
              rw [hpe] at e5 e6 z3 hw3 HSU
              obtain ⟨te, hte⟩ : ∃ te, timesN me oe = te := ⟨_, rfl⟩
              rw [hte] at hw4 HSU
              obtain ⟨re, hre⟩ : ∃ re, plusN pe te = re := ⟨_, rfl⟩
              rw [hre] at HSU
              rw [HSU.out] at HNX
              unfold Wi at hw1 hw2 hw3 hw4
              have HTI : Hid (∀ wx, Below w3.heap.size w3 wx → Calls Try.prog 117 #[.agg #[.int .i64 me.1, .slice am me.2.length cm], .agg #[.int .i64 oe.1, .slice ao oe.2.length co]] wx (fun e w' => ∃ a c, e = .returned (.agg #[.int .i64 te.1, .slice a te.2.length c]) ∧ IntsT w' a te.2 ∧ Below w3.heap.size w3 w')) := Lib.hid (fun wx hb => by
                refine (times_any me.1 oe.1 _ _ cm co am ao me.2 oe.2 wx rfl rfl (by omega) (by omega) (by omega) (by omega) (z1.below hb) (z2.below hb)).mono ?_
                rw [show timesN (me.1, me.2) (oe.1, oe.2) = te from hte]
                rintro e w' ⟨a, c, rfl, hz, hb', _⟩
                exact ⟨a, c, rfl, hz, hb.trans (hb'.mono hb.size)⟩)
              have HPL : Hid (∀ a c wx, Below w3.heap.size w3 wx → IntsT wx a te.2 → Calls Try.prog 101 #[.agg #[.int .i64 pe.1, .slice ap pe.2.length cp], .agg #[.int .i64 te.1, .slice a te.2.length c]] wx (fun e w' => ∃ a c, e = .returned (.agg #[.int .i64 re.1, .slice a re.2.length c]) ∧ IntsT w' a re.2 ∧ Below w3.heap.size w3 w' ∧ re.2.length ≤ c)) := Lib.hid (fun a c wx hb hz => by
                refine (plus_any pe.1 te.1 _ _ cp c ap a pe.2 te.2 wx rfl rfl (by omega) (by omega) (by omega) (by omega) (z3.below hb) hz).mono ?_
                rw [show plusN (pe.1, pe.2) (te.1, te.2) = re from hre]
                rintro e w' ⟨a, c, rfl, hz, hb', hl⟩
                exact ⟨a, c, rfl, hz, hb.trans (hb'.mono hb.size), hl⟩)
              have hgg := HG.out
              have HNE : Hid (g ≠ g + 1 + i ∧ gm ≠ g + 1 + i ∧ gm + 1 + i ≠ g + 1 + i ∧ gm + 1 + i ≠ g + 1 + i ∧ go ≠ g + 1 + i ∧ go + 1 + k ≠ g + 1 + i ∧ go + 1 + k ≠ g + 1 + i) := Lib.hid (by omega)
              have HM3 := Lib.hid HR.out.1
              have HB3 := Lib.hid HR.out.2
              have hs3 := HR.out.1.lt
              clear hm3 ho3 z1 z2 z3 hw1 hw2 hw3 hw4 ha1 ha2 ha3 ha4 hb1 hb2 hb3 hb4 hme hoe hpe hte hre hpv HSU hgg HR hgm hgo
              go_wp2_with (fail)
              refine wp_region_held_drew (S := (fun w' => w'.cell? ⟨g, i, none⟩ = some (.slice (some ⟨g + 1 + i, 0, none⟩) n n) ∧ w'.cell? ⟨gm, i, none⟩ = some (.slice (some ⟨gm + 1 + i, 0, none⟩) n n) ∧ w'.cell? ⟨gm + 1 + i, k * 2, none⟩ = some (.int .i64 me.1) ∧ w'.cell? ⟨gm + 1 + i, k * 2 + 1, none⟩ = some (.slice am me.2.length cm) ∧ w'.cell? ⟨go, k, none⟩ = some (.slice (some ⟨go + 1 + k, 0, none⟩) n n) ∧ w'.cell? ⟨go + 1 + k, j * 2, none⟩ = some (.int .i64 oe.1) ∧ w'.cell? ⟨go + 1 + k, j * 2 + 1, none⟩ = some (.slice ao oe.2.length co))) (by kernel_rfl) ?_ (fun hHl0 => ?_)
              · (try dsimp only)
                first | assumption | exact ⟨r1, r2, e1, e2, r3, e3, e4⟩ | exact keep7 ⟨r1, r2, e1, e2, r3, e3, e4⟩ H6.out.2.1 | exact keep7 ⟨r1, r2, e1, e2, r3, e3, e4⟩ H5.out.2 | exact set7 (by assumption) HNE.out
              refine wpAnyH_take (i := 0) (oi := _) (v := ?vv1) rfl (by kernel_rfl) (by kernel_rfl) (by kernel_rfl) (fun _ _ _ h => h) (Or.inl ⟨by rfl, ?hy1⟩) hHl0 ?rest1
              case hy1 => (intro wS hSw; (try dsimp only at hSw); go_simp; try with_reducible rfl)
              try simp only [Act.put, List.setIfInBounds_toArray, List.set_cons_zero, List.set_cons_succ]
              refine wpAnyH_take (i := 1) (oi := _) (v := ?vv2) rfl (by kernel_rfl) (by kernel_rfl) (by kernel_rfl) (fun _ _ _ h => h) (Or.inl ⟨by rfl, ?hy2⟩) hHl0 ?rest2
              case hy2 => (intro wS hSw; (try dsimp only at hSw); go_simp; try with_reducible rfl)
              try simp only [Act.put, List.setIfInBounds_toArray, List.set_cons_zero, List.set_cons_succ]
              refine wpAnyH_take (i := 2) (oi := _) (v := ?vv3) rfl (by kernel_rfl) (by kernel_rfl) (by kernel_rfl) (fun _ _ _ h => h) (Or.inl ⟨by rfl, ?hy3⟩) hHl0 ?rest3
              case hy3 => (intro wS hSw; (try dsimp only at hSw); go_simp; try with_reducible rfl)
              try simp only [Act.put, List.setIfInBounds_toArray, List.set_cons_zero, List.set_cons_succ]
              refine wpAnyH_take (i := 3) (oi := _) (v := ?vv4) rfl (by kernel_rfl) (by kernel_rfl) (by kernel_rfl) (fun _ _ _ h => h) (Or.inl ⟨by rfl, ?hy4⟩) hHl0 ?rest4
              case hy4 => (intro wS hSw; (try dsimp only at hSw); go_simp; try with_reducible rfl)
              try simp only [Act.put, List.setIfInBounds_toArray, List.set_cons_zero, List.set_cons_succ]
              refine wpAnyH_take (i := 4) (oi := _) (v := ?vv5) rfl (by kernel_rfl) (by kernel_rfl) (by kernel_rfl) (fun _ _ _ h => h) (Or.inl ⟨by rfl, ?hy5⟩) hHl0 ?rest5
              case hy5 => (intro wS hSw; (try dsimp only at hSw); go_simp; try with_reducible rfl)
              try simp only [Act.put, List.setIfInBounds_toArray, List.set_cons_zero, List.set_cons_succ]
              refine wpAnyH_take (i := 5) (oi := _) (v := ?vv6) rfl (by kernel_rfl) (by kernel_rfl) (by kernel_rfl) (fun _ _ _ h => h) (Or.inl ⟨by rfl, ?hy6⟩) hHl0 ?rest6
              case hy6 => (intro wS hSw; (try dsimp only at hSw); go_simp; try with_reducible rfl)
              try simp only [Act.put, List.setIfInBounds_toArray, List.set_cons_zero, List.set_cons_succ]
              refine wpAnyH_take (i := 6) (oi := _) (v := ?vv7) rfl (by kernel_rfl) (by kernel_rfl) (by kernel_rfl) (fun _ _ _ h => h) (Or.inl ⟨by rfl, ?hy7⟩) hHl0 ?rest7
              case hy7 => (intro wS hSw; (try dsimp only at hSw); go_simp; try with_reducible rfl)
              try simp only [Act.put, List.setIfInBounds_toArray, List.set_cons_zero, List.set_cons_succ]
              refine wpAnyH_take (i := 7) (oi := _) (v := ?vv8) rfl (by kernel_rfl) (by kernel_rfl) (by kernel_rfl) (fun _ _ _ h => h) (Or.inl ⟨by rfl, ?hy8⟩) hHl0 ?rest8
              case hy8 => (intro wS hSw; (try dsimp only at hSw); go_simp; try with_reducible rfl)
              try simp only [Act.put, List.setIfInBounds_toArray, List.set_cons_zero, List.set_cons_succ]
              refine wpAnyH_take (i := 8) (oi := _) (v := ?vv9) rfl (by kernel_rfl) (by kernel_rfl) (by kernel_rfl) (fun _ _ _ h => h) (Or.inl ⟨by rfl, ?hy9⟩) hHl0 ?rest9
              case hy9 => (intro wS hSw; (try dsimp only at hSw); go_simp; try with_reducible rfl)
              try simp only [Act.put, List.setIfInBounds_toArray, List.set_cons_zero, List.set_cons_succ]
              refine wpAnyH_take (i := 9) (oi := _) (v := ?vv10) rfl (by kernel_rfl) (by kernel_rfl) (by kernel_rfl) (fun _ _ _ h => h) (Or.inl ⟨by rfl, ?hy10⟩) hHl0 ?rest10
              case hy10 => (intro wS hSw; (try dsimp only at hSw); go_simp; try with_reducible rfl)
              try simp only [Act.put, List.setIfInBounds_toArray, List.set_cons_zero, List.set_cons_succ]
              refine wpAnyH_take (i := 10) (oi := _) (v := ?vv11) rfl (by kernel_rfl) (by kernel_rfl) (by kernel_rfl) (fun _ _ _ h => h) (Or.inl ⟨by rfl, ?hy11⟩) hHl0 ?rest11
              case hy11 => (intro wS hSw; (try dsimp only at hSw); go_simp; try with_reducible rfl)
              try simp only [Act.put, List.setIfInBounds_toArray, List.set_cons_zero, List.set_cons_succ]
              refine wpAnyH_take (i := 12) (oi := _) (v := ?vv12) rfl (by kernel_rfl) (by kernel_rfl) (by kernel_rfl) (fun _ _ _ h => h) (Or.inl ⟨by rfl, ?hy12⟩) hHl0 ?rest12
              case hy12 => (intro wS hSw; (try dsimp only at hSw); go_simp; try with_reducible rfl)
              try simp only [Act.put, List.setIfInBounds_toArray, List.set_cons_zero, List.set_cons_succ]
              refine wpAnyH_take (i := 13) (oi := _) (v := ?vv13) rfl (by kernel_rfl) (by kernel_rfl) (by kernel_rfl) (fun _ _ _ h => h) (Or.inl ⟨by rfl, ?hy13⟩) hHl0 ?rest13
              case hy13 => (intro wS hSw; (try dsimp only at hSw); go_simp; try with_reducible rfl)
              try simp only [Act.put, List.setIfInBounds_toArray, List.set_cons_zero, List.set_cons_succ]
              refine wpAnyH_take (i := 14) (oi := _) (v := ?vv14) rfl (by kernel_rfl) (by kernel_rfl) (by kernel_rfl) (fun _ _ _ h => h) (Or.inl ⟨by rfl, ?hy14⟩) hHl0 ?rest14
              case hy14 => (intro wS hSw; (try dsimp only at hSw); go_simp; try with_reducible rfl)
              try simp only [Act.put, List.setIfInBounds_toArray, List.set_cons_zero, List.set_cons_succ]
              refine wpAnyH_take (i := 15) (oi := _) (v := ?vv15) rfl (by kernel_rfl) (by kernel_rfl) (by kernel_rfl) (fun _ _ _ h => h) (Or.inl ⟨by rfl, ?hy15⟩) hHl0 ?rest15
              case hy15 => (intro wS hSw; (try dsimp only at hSw); go_simp; try with_reducible rfl)
              try simp only [Act.put, List.setIfInBounds_toArray, List.set_cons_zero, List.set_cons_succ]
              refine wpAnyH_take (i := 16) (oi := _) (v := ?vv16) rfl (by kernel_rfl) (by kernel_rfl) (by kernel_rfl) (fun _ _ _ h => h) (Or.inl ⟨by rfl, ?hy16⟩) hHl0 ?rest16
              case hy16 => (intro wS hSw; (try dsimp only at hSw); go_simp; try with_reducible rfl)
              try simp only [Act.put, List.setIfInBounds_toArray, List.set_cons_zero, List.set_cons_succ]
              refine wpAnyH_take (i := 17) (oi := _) (v := ?vv17) rfl (by kernel_rfl) (by kernel_rfl) (by kernel_rfl) (fun _ _ _ h => h) (Or.inl ⟨by rfl, ?hy17⟩) hHl0 ?rest17
              case hy17 => (intro wS hSw; (try dsimp only at hSw); go_simp; try with_reducible rfl)
              try simp only [Act.put, List.setIfInBounds_toArray, List.set_cons_zero, List.set_cons_succ]
              refine wpAnyH_take (i := 18) (oi := _) (v := ?vv18) rfl (by kernel_rfl) (by kernel_rfl) (by kernel_rfl) (fun _ _ _ h => h) (Or.inl ⟨by rfl, ?hy18⟩) hHl0 ?rest18
              case hy18 => (intro wS hSw; (try dsimp only at hSw); go_simp; try with_reducible rfl)
              try simp only [Act.put, List.setIfInBounds_toArray, List.set_cons_zero, List.set_cons_succ]
              refine wpAnyH_take (i := 19) (oi := _) (v := ?vv19) rfl (by kernel_rfl) (by kernel_rfl) (by kernel_rfl) (fun _ _ _ h => h) (Or.inl ⟨by rfl, ?hy19⟩) hHl0 ?rest19
              case hy19 => (intro wS hSw; (try dsimp only at hSw); go_simp; try with_reducible rfl)
              try simp only [Act.put, List.setIfInBounds_toArray, List.set_cons_zero, List.set_cons_succ]
              refine wpAnyH_take (i := 20) (oi := _) (v := ?vv20) rfl (by kernel_rfl) (by kernel_rfl) (by kernel_rfl) (fun _ _ _ h => h) (Or.inl ⟨by rfl, ?hy20⟩) hHl0 ?rest20
              case hy20 => (intro wS hSw; (try dsimp only at hSw); go_simp; try with_reducible rfl)
              try simp only [Act.put, List.setIfInBounds_toArray, List.set_cons_zero, List.set_cons_succ]
              refine wpAnyH_take (i := 21) (oi := _) (v := ?vv21) rfl (by kernel_rfl) (by kernel_rfl) (by kernel_rfl) (fun _ _ _ h => h) (Or.inl ⟨by rfl, ?hy21⟩) hHl0 ?rest21
              case hy21 => (intro wS hSw; (try dsimp only at hSw); go_simp; try with_reducible rfl)
              try simp only [Act.put, List.setIfInBounds_toArray, List.set_cons_zero, List.set_cons_succ]
              refine wpAnyH_take (i := 22) (oi := _) (v := ?vv22) rfl (by kernel_rfl) (by kernel_rfl) (by kernel_rfl) (fun _ _ _ h => h) (Or.inl ⟨by rfl, ?hy22⟩) hHl0 ?rest22
              case hy22 => (intro wS hSw; (try dsimp only at hSw); go_simp; try with_reducible rfl)
              try simp only [Act.put, List.setIfInBounds_toArray, List.set_cons_zero, List.set_cons_succ]
              refine wpAnyH_take (i := 23) (oi := _) (v := ?vv23) rfl (by kernel_rfl) (by kernel_rfl) (by kernel_rfl) (fun _ _ _ h => h) (Or.inl ⟨by rfl, ?hy23⟩) hHl0 ?rest23
              case hy23 => (intro wS hSw; (try dsimp only at hSw); go_simp; try with_reducible rfl)
              try simp only [Act.put, List.setIfInBounds_toArray, List.set_cons_zero, List.set_cons_succ]
              refine wpAnyH_take (i := 24) (oi := _) (v := ?vv24) rfl (by kernel_rfl) (by kernel_rfl) (by kernel_rfl) (fun _ _ _ h => h) (Or.inl ⟨by rfl, ?hy24⟩) hHl0 ?rest24
              case hy24 => (intro wS hSw; (try dsimp only at hSw); go_simp; try with_reducible rfl)
              try simp only [Act.put, List.setIfInBounds_toArray, List.set_cons_zero, List.set_cons_succ]
              refine wpAnyH_take (i := 25) (oi := _) (v := ?vv25) rfl (by kernel_rfl) (by kernel_rfl) (by kernel_rfl) (fun _ _ _ h => h) (Or.inl ⟨by rfl, ?hy25⟩) hHl0 ?rest25
              case hy25 => (intro wS hSw; (try dsimp only at hSw); go_simp; try with_reducible rfl)
              try simp only [Act.put, List.setIfInBounds_toArray, List.set_cons_zero, List.set_cons_succ]
              refine wpAnyH_ready (rs := [11, 26]) (by kernel_rfl) (by simp) ?_
              refine AllReadyH.cons (o := _) rfl (fun K hK => ?_) ?_
              · go_simp
                refine hK.out _ _ ?_ (fun hHl26 => ?_)
                · (try dsimp only)
                  first | assumption | exact ⟨r1, r2, e1, e2, r3, e3, e4⟩ | exact keep7 ⟨r1, r2, e1, e2, r3, e3, e4⟩ H6.out.2.1 | exact keep7 ⟨r1, r2, e1, e2, r3, e3, e4⟩ H5.out.2 | exact set7 (by assumption) HNE.out
                clear hK K hHl0
                try simp only [Act.put, List.setIfInBounds_toArray, List.set_cons_zero, List.set_cons_succ]
                refine wpAnyH_ready (rs := [26]) (by kernel_rfl) (by simp) ?_
                refine AllReadyH.cons (o := _) rfl (fun K hK => ?_) ?_
                · go_simp
                  first | (go_at_call 117; refine (HTI.out _ (by first | exact Below.refl _ _ | exact Below.drew (Below.refl _ _))).mono ?_; rintro e w5 ⟨a5, c5, rfl, hz5, hb5⟩; have H5 := Lib.hid (And.intro hz5 hb5); have hm5 := HM3.out.below hb5; have p5 := (hb5.cell (p := ⟨g + 1 + i, j * 2, none⟩) (by simp; omega)).trans e5; have p6 := (hb5.cell (p := ⟨g + 1 + i, j * 2 + 1, none⟩) (by simp; omega)).trans e6; clear hz5 hb5 hm5) | (go_at_call 101; refine (HPL.out _ _ _ H5.out.2 H5.out.1).mono ?_; rintro e w6 ⟨a6, c6, rfl, hz6, hb6, hl6⟩; have H6 := Lib.hid (And.intro hz6 (And.intro hb6 hl6)); have hm6 := HM3.out.below hb6; have s5 := (hb6.cell (p := ⟨g + 1 + i, j * 2, none⟩) (by simp; omega)).trans e5; have s6 := (hb6.cell (p := ⟨g + 1 + i, j * 2 + 1, none⟩) (by simp; omega)).trans e6; have s7 := (hm6.2 i hlt).free (j * 2); have s8 := (hm6.2 i hlt).free (j * 2 + 1); clear hz6 hb6 hl6 hm6)
                  try go_wp2_with (fail)
                  refine hK.out _ _ ?_ (fun hHl27 => ?_)
                  · (try dsimp only)
                    first | assumption | exact ⟨r1, r2, e1, e2, r3, e3, e4⟩ | exact keep7 ⟨r1, r2, e1, e2, r3, e3, e4⟩ H6.out.2.1 | exact keep7 ⟨r1, r2, e1, e2, r3, e3, e4⟩ H5.out.2 | exact set7 (by assumption) HNE.out
                  clear hK K hHl26
                  try simp only [Act.put, List.setIfInBounds_toArray, List.set_cons_zero, List.set_cons_succ]
                  refine wpAnyH_ready (rs := [27]) (by kernel_rfl) (by simp) ?_
                  refine AllReadyH.cons (o := _) rfl (fun K hK => ?_) ?_
                  · go_simp
                    first | (go_at_call 117; refine (HTI.out _ (by first | exact Below.refl _ _ | exact Below.drew (Below.refl _ _))).mono ?_; rintro e w5 ⟨a5, c5, rfl, hz5, hb5⟩; have H5 := Lib.hid (And.intro hz5 hb5); have hm5 := HM3.out.below hb5; have p5 := (hb5.cell (p := ⟨g + 1 + i, j * 2, none⟩) (by simp; omega)).trans e5; have p6 := (hb5.cell (p := ⟨g + 1 + i, j * 2 + 1, none⟩) (by simp; omega)).trans e6; clear hz5 hb5 hm5) | (go_at_call 101; refine (HPL.out _ _ _ H5.out.2 H5.out.1).mono ?_; rintro e w6 ⟨a6, c6, rfl, hz6, hb6, hl6⟩; have H6 := Lib.hid (And.intro hz6 (And.intro hb6 hl6)); have hm6 := HM3.out.below hb6; have s5 := (hb6.cell (p := ⟨g + 1 + i, j * 2, none⟩) (by simp; omega)).trans e5; have s6 := (hb6.cell (p := ⟨g + 1 + i, j * 2 + 1, none⟩) (by simp; omega)).trans e6; have s7 := (hm6.2 i hlt).free (j * 2); have s8 := (hm6.2 i hlt).free (j * 2 + 1); clear hz6 hb6 hl6 hm6)
                    try go_wp2_with (fail)
                    refine hK.out _ _ ?_ (fun hHl28 => ?_)
                    · (try dsimp only)
                      first | assumption | exact ⟨r1, r2, e1, e2, r3, e3, e4⟩ | exact keep7 ⟨r1, r2, e1, e2, r3, e3, e4⟩ H6.out.2.1 | exact keep7 ⟨r1, r2, e1, e2, r3, e3, e4⟩ H5.out.2 | exact set7 (by assumption) HNE.out
                    clear hK K hHl27
                    try simp only [Act.put, List.setIfInBounds_toArray, List.set_cons_zero, List.set_cons_succ]
                    refine wpAnyH_take (i := 28) (oi := _) (v := ?vv29) rfl (by kernel_rfl) (by kernel_rfl) (by kernel_rfl) (fun _ _ _ h => h) (Or.inl ⟨by rfl, ?hy29⟩) hHl28 ?rest29
                    case hy29 => (intro wS hSw; (try dsimp only at hSw); go_simp; try with_reducible rfl)
                    try simp only [Act.put, List.setIfInBounds_toArray, List.set_cons_zero, List.set_cons_succ]
                    refine wpAnyH_ready (rs := [29]) (by kernel_rfl) (by simp) ?_
                    refine AllReadyH.cons (o := _) rfl (fun K hK => ?_) ?_
                    · go_simp
                      refine hK.out _ _ ?_ (fun hHl30 => ?_)
                      · (try dsimp only)
                        first | assumption | exact ⟨r1, r2, e1, e2, r3, e3, e4⟩ | exact keep7 ⟨r1, r2, e1, e2, r3, e3, e4⟩ H6.out.2.1 | exact keep7 ⟨r1, r2, e1, e2, r3, e3, e4⟩ H5.out.2 | exact set7 (by assumption) HNE.out
                      clear hK K hHl28
                      try simp only [Act.put, List.setIfInBounds_toArray, List.set_cons_zero, List.set_cons_succ]
                      refine wpAnyH_done (by kernel_rfl) ?_ _
                      go_wp2_with (fail)
                      exact ⟨⟨k + 1, by omega, by go_num, Lib.hid ⟨by rw [← HNX.out]; exact (HM3.out.below H6.out.2.1).put hlt hltj H6.out.1 H6.out.2.2, ((HB3.out.trans (H6.out.2.1.mono HB3.out.size)).setCell (p := ⟨g + 1 + i, j * 2, none⟩) (by have := HG.out; simp; omega) _).setCell (p := ⟨g + 1 + i, j * 2 + 1, none⟩) (by have := HG.out; simp; omega) _⟩⟩, by simp [intOf]; omega⟩
                    exact AllReadyH.nil
                  exact AllReadyH.nil
                exact AllReadyH.nil
              refine AllReadyH.cons (o := _) rfl (fun K hK => ?_) ?_
              · go_simp
                first | (go_at_call 117; refine (HTI.out _ (by first | exact Below.refl _ _ | exact Below.drew (Below.refl _ _))).mono ?_; rintro e w5 ⟨a5, c5, rfl, hz5, hb5⟩; have H5 := Lib.hid (And.intro hz5 hb5); have hm5 := HM3.out.below hb5; have p5 := (hb5.cell (p := ⟨g + 1 + i, j * 2, none⟩) (by simp; omega)).trans e5; have p6 := (hb5.cell (p := ⟨g + 1 + i, j * 2 + 1, none⟩) (by simp; omega)).trans e6; clear hz5 hb5 hm5) | (go_at_call 101; refine (HPL.out _ _ _ H5.out.2 H5.out.1).mono ?_; rintro e w6 ⟨a6, c6, rfl, hz6, hb6, hl6⟩; have H6 := Lib.hid (And.intro hz6 (And.intro hb6 hl6)); have hm6 := HM3.out.below hb6; have s5 := (hb6.cell (p := ⟨g + 1 + i, j * 2, none⟩) (by simp; omega)).trans e5; have s6 := (hb6.cell (p := ⟨g + 1 + i, j * 2 + 1, none⟩) (by simp; omega)).trans e6; have s7 := (hm6.2 i hlt).free (j * 2); have s8 := (hm6.2 i hlt).free (j * 2 + 1); clear hz6 hb6 hl6 hm6)
                try go_wp2_with (fail)
                refine hK.out _ _ ?_ (fun hHl31 => ?_)
                · (try dsimp only)
                  first | assumption | exact ⟨r1, r2, e1, e2, r3, e3, e4⟩ | exact keep7 ⟨r1, r2, e1, e2, r3, e3, e4⟩ H6.out.2.1 | exact keep7 ⟨r1, r2, e1, e2, r3, e3, e4⟩ H5.out.2 | exact set7 (by assumption) HNE.out
                clear hK K hHl0
                try simp only [Act.put, List.setIfInBounds_toArray, List.set_cons_zero, List.set_cons_succ]
                refine wpAnyH_ready (rs := [11]) (by kernel_rfl) (by simp) ?_
                refine AllReadyH.cons (o := _) rfl (fun K hK => ?_) ?_
                · go_simp
                  refine hK.out _ _ ?_ (fun hHl32 => ?_)
                  · (try dsimp only)
                    first | assumption | exact ⟨r1, r2, e1, e2, r3, e3, e4⟩ | exact keep7 ⟨r1, r2, e1, e2, r3, e3, e4⟩ H6.out.2.1 | exact keep7 ⟨r1, r2, e1, e2, r3, e3, e4⟩ H5.out.2 | exact set7 (by assumption) HNE.out
                  clear hK K hHl31
                  try simp only [Act.put, List.setIfInBounds_toArray, List.set_cons_zero, List.set_cons_succ]
                  refine wpAnyH_ready (rs := [27]) (by kernel_rfl) (by simp) ?_
                  refine AllReadyH.cons (o := _) rfl (fun K hK => ?_) ?_
                  · go_simp
                    first | (go_at_call 117; refine (HTI.out _ (by first | exact Below.refl _ _ | exact Below.drew (Below.refl _ _))).mono ?_; rintro e w5 ⟨a5, c5, rfl, hz5, hb5⟩; have H5 := Lib.hid (And.intro hz5 hb5); have hm5 := HM3.out.below hb5; have p5 := (hb5.cell (p := ⟨g + 1 + i, j * 2, none⟩) (by simp; omega)).trans e5; have p6 := (hb5.cell (p := ⟨g + 1 + i, j * 2 + 1, none⟩) (by simp; omega)).trans e6; clear hz5 hb5 hm5) | (go_at_call 101; refine (HPL.out _ _ _ H5.out.2 H5.out.1).mono ?_; rintro e w6 ⟨a6, c6, rfl, hz6, hb6, hl6⟩; have H6 := Lib.hid (And.intro hz6 (And.intro hb6 hl6)); have hm6 := HM3.out.below hb6; have s5 := (hb6.cell (p := ⟨g + 1 + i, j * 2, none⟩) (by simp; omega)).trans e5; have s6 := (hb6.cell (p := ⟨g + 1 + i, j * 2 + 1, none⟩) (by simp; omega)).trans e6; have s7 := (hm6.2 i hlt).free (j * 2); have s8 := (hm6.2 i hlt).free (j * 2 + 1); clear hz6 hb6 hl6 hm6)
                    try go_wp2_with (fail)
                    refine hK.out _ _ ?_ (fun hHl33 => ?_)
                    · (try dsimp only)
                      first | assumption | exact ⟨r1, r2, e1, e2, r3, e3, e4⟩ | exact keep7 ⟨r1, r2, e1, e2, r3, e3, e4⟩ H6.out.2.1 | exact keep7 ⟨r1, r2, e1, e2, r3, e3, e4⟩ H5.out.2 | exact set7 (by assumption) HNE.out
                    clear hK K hHl32
                    try simp only [Act.put, List.setIfInBounds_toArray, List.set_cons_zero, List.set_cons_succ]
                    refine wpAnyH_take (i := 28) (oi := _) (v := ?vv34) rfl (by kernel_rfl) (by kernel_rfl) (by kernel_rfl) (fun _ _ _ h => h) (Or.inl ⟨by rfl, ?hy34⟩) hHl33 ?rest34
                    case hy34 => (intro wS hSw; (try dsimp only at hSw); go_simp; try with_reducible rfl)
                    try simp only [Act.put, List.setIfInBounds_toArray, List.set_cons_zero, List.set_cons_succ]
                    refine wpAnyH_ready (rs := [29]) (by kernel_rfl) (by simp) ?_
                    refine AllReadyH.cons (o := _) rfl (fun K hK => ?_) ?_
                    · go_simp
                      refine hK.out _ _ ?_ (fun hHl35 => ?_)
                      · (try dsimp only)
                        first | assumption | exact ⟨r1, r2, e1, e2, r3, e3, e4⟩ | exact keep7 ⟨r1, r2, e1, e2, r3, e3, e4⟩ H6.out.2.1 | exact keep7 ⟨r1, r2, e1, e2, r3, e3, e4⟩ H5.out.2 | exact set7 (by assumption) HNE.out
                      clear hK K hHl33
                      try simp only [Act.put, List.setIfInBounds_toArray, List.set_cons_zero, List.set_cons_succ]
                      refine wpAnyH_done (by kernel_rfl) ?_ _
                      go_wp2_with (fail)
                      exact ⟨⟨k + 1, by omega, by go_num, Lib.hid ⟨by rw [← HNX.out]; exact (HM3.out.below H6.out.2.1).put hlt hltj H6.out.1 H6.out.2.2, ((HB3.out.trans (H6.out.2.1.mono HB3.out.size)).setCell (p := ⟨g + 1 + i, j * 2, none⟩) (by have := HG.out; simp; omega) _).setCell (p := ⟨g + 1 + i, j * 2 + 1, none⟩) (by have := HG.out; simp; omega) _⟩⟩, by simp [intOf]; omega⟩
                    exact AllReadyH.nil
                  exact AllReadyH.nil
                exact AllReadyH.nil
              exact AllReadyH.nil
            · obtain rfl : k = n := by omega
              go_wp2_with (fail)
              exact ⟨⟨j + 1, by omega, by go_num, Lib.hid ⟨by rw [← mulP_col]; exact HR.out.1, HR.out.2⟩⟩, by simp [intOf]; omega⟩
        · obtain rfl : j = n := by omega
          go_wp2_with (fail)
          exact ⟨⟨i + 1, by omega, by go_num, Lib.hid ⟨HR.out.1.congr (fun a _ b hb => mulP_row j M O i a b hb), HR.out.2⟩⟩, by simp [intOf]; omega⟩
    · obtain rfl : i = n := by omega
      go_wp2_with (fail)
      go_ret
      exact ⟨g, rfl, HG.out, HR.out.1.congr (fun a ha b hb => by simp [mulP, mulM, ha]), HR.out.2⟩

end Go.Proofs.Ytbcggbmjbljnfaa
