/-
  Rank's refusals; the reference's Letters, Pattern and Layers at a strip.
-/
import Derived.Test.YteankhgikpejhaaJa
import Derived.Test.YteankhgikpejhaaIe
namespace Go.Proofs.Yteankhgikpejhaa
open Go.RowKit Go.Sort

set_option maxRecDepth 100000 in
set_option maxHeartbeats 1000000 in
theorem Rank_bad (a aO : Option Addr) (n cap m cO : Nat) (zs os : List Int) (w : World) (b : Bool) (e1 err : Int) (hn : zs.length = n) (hm : n ≤ 9223372036854775807) (hz : Ints w a zs)
    (hnO : os.length = m) (hmO : m ≤ 9223372036854775807) (hO : Ints w aO os) (h : foldsZ zs os = (b, e1)) (hbad : (e1 ≠ 0 ∧ err = e1) ∨ (e1 = 0 ∧ b = false ∧ err = 5)) :
    Calls Try.prog 18 #[.slice a n cap, .slice aO m cO] w (Gives2 (.int .i64 0) (.int .i64 err) w) := by
  have hba : Below w.heap.size w (w.alloc (.cells #[.slice aO m cO] 22)) := (Below.refl _ _).alloc (Nat.le_refl _) _
  have hc := Lib.hid (Folds_any a aO n cap m cO zs os (w.alloc (.cells #[.slice aO m cO] 22)) b e1 hn hm (hz.below hba) hnO hmO (hO.below hba) h)
  clear hz hO h hnO hn hba
  rcases hbad with ⟨h1, rfl⟩ | ⟨rfl, rfl, rfl⟩
  · have h2 : (err != 0) = true := by rw [bne_iff_ne]; exact h1
    clear h1
    go_enter Try.func18, Try.ntmps18
    go_wp2_with fail
    refine hc.out.mono ?_
    rintro e w1 ⟨rfl, hb1⟩
    have H1 := Lib.hid (((Below.refl _ w).alloc (Nat.le_refl _) (.cells #[.slice aO m cO] 22)).trans (hb1.mono (by simp)))
    clear hb1
    go_wp2
    go_ret2
    exact ⟨rfl, H1.out⟩
  · go_enter Try.func18, Try.ntmps18
    go_wp2_with fail
    refine hc.out.mono ?_
    rintro e w1 ⟨rfl, hb1⟩
    have H1 := Lib.hid (((Below.refl _ w).alloc (Nat.le_refl _) (.cells #[.slice aO m cO] 22)).trans (hb1.mono (by simp)))
    clear hb1
    go_wp2
    go_ret2
    exact ⟨rfl, H1.out⟩

/-- The letter of crease k as the reference says it. -/
def letR (L : List Int) (k : Nat) : UInt8 := if ((k % 2 == 0) == decide (L[k]?.getD 0 < L[k + 1]?.getD 0)) = true then 86 else 77
theorem letR_crs {zs : List Int} {O : List Nat} (hn : O.Nodup) (hv : ∀ x ∈ O, x < zs.length) (hl : O.length = zs.length) : (List.range (zs.length - 1)).map (letR (layTo0 O zs.length zs.length)) = (crsOf zs O).data.toList := by
  rw [crsOf, strOf_list, lettersZ, layCl, crsTo, List.map_map, List.map_map]
  refine List.map_congr_left fun k hk => ?_
  rw [List.mem_range] at hk
  have hL : ∀ s, s < zs.length → (layTo0 O zs.length zs.length)[s]?.getD 0 = (layerN O s : Int) := fun s hs => by
    rw [layTo0_layer hn hv hl]; simp [hs]
  simp only [Function.comp, letR, letterZ]
  rw [hL k (by omega), hL (k + 1) (by omega), layersOf_at hn hv hl (by omega), layersOf_at hn hv hl (by omega)]
  split <;> rfl

set_option maxRecDepth 100000 in
set_option maxHeartbeats 4000000 in
theorem Letters_any (a aO : Option Addr) (m cap cO : Nat) (zs : List Int) (O : List Nat) (w : World) (hn : zs.length = m + 1) (hg : stripB zs = true) (hz : Ints w a zs) (hnd : O.Nodup) (hl : O.length = m + 1) (hv : ∀ x ∈ O, x < m + 1) (hO : Ints w aO (O.map fun (x : Nat) => (x : Int))) :
    Calls Try.prog 24 #[.slice a (m + 1) cap, .slice aO (m + 1) cO, .bool false] w fun e w' => e = .returned (.string (crsOf zs O)) ∧ Below w.heap.size w w' := by
  obtain ⟨p1, p9, ps⟩ := strip_parts hg
  have h8 : m ≤ 8 := by omega
  have HE : Hid ((List.range m).map (letR (layTo0 O (m + 1) (m + 1))) = (crsOf zs O).data.toList) := Lib.hid (by
    have := letR_crs hnd (by rw [hn]; exact hv) (by rw [hl, hn])
    rwa [hn, Nat.add_sub_cancel] at this)
  have hla := Lib.hid (layers_any aO (m + 1) cO O w hl (by omega) (by omega) hv hO)
  have hcr := Lib.hid (creases_strip a (m + 1) cap zs · hn (by omega) (by omega) ps)
  have HZ := Lib.hid hz
  clear hz hO hn hl hv ps hg p1 p9 hnd
  go_enter Try.func24, Try.ntmps24
  go_wp2_with (first
    | (go_at_call 58; refine hla.out.mono ?_; rintro e w2 ⟨v, rfl, hv2, hb2⟩; obtain ⟨gL, cL, rfl, hI2⟩ := hv2.ints; have H2 := Lib.hid (And.intro hI2 hb2); clear hv2 hI2 hb2)
    | (go_at_call 59; refine (hcr.out w2 (HZ.out.below H2.out.2)).mono ?_; rintro e w3 ⟨v, rfl, ⟨wm, hwm, hC⟩, hb3⟩; have H3 := Lib.hid (And.intro (H2.out.1.below hb3) (And.intro hC (H2.out.2.trans (hb3.mono H2.out.2.size)))); clear hwm hC hb3))
  have hlL : Hid ((layTo0 O (m + 1) (m + 1)).length = m + 1) := Lib.hid (by simp)
  obtain ⟨_, _, gc, cc, rfl, _⟩ := H3.out.2.1
  have H4 := Lib.hid (show (∀ wr, Below w3.heap.size w3 wr → (∀ i, i < m + 1 → wr.cell? ⟨gL, i, none⟩ = some (.int .i64 (atL (layTo0 O (m + 1) (m + 1)) i))) ∧
      (∀ k, k < m → wr.cell? ⟨gc, k * 4, none⟩ = some (.int .i64 (posAt zs (k + 1))) ∧ wr.cell? ⟨gc, k * 4 + 1, none⟩ = some (.int .i64 k) ∧ wr.cell? ⟨gc, k * 4 + 2, none⟩ = some (.int .i64 ((k : Int) + 1)) ∧ wr.cell? ⟨gc, k * 4 + 3, none⟩ = some (.bool (rightZ zs k)))) from fun wr hb => by
    refine ⟨fun i hi => ?_, fun k hk => ?_⟩
    · obtain ⟨b, off, e, hc⟩ := (H3.out.1.below hb) i (by rw [hlL.out]; exact hi)
      cases e
      rw [Nat.zero_add] at hc
      exact hc
    · exact rc_cells (H3.out.2.1.grow hb) k hk)
  have HB3 := Lib.hid H3.out.2.2
  obtain ⟨L, hL⟩ : ∃ L, layTo0 O (m + 1) (m + 1) = L := ⟨_, rfl⟩
  rw [hL] at H4 HE
  simp only [Nat.add_sub_cancel]
  clear H2 H3 hla hcr HZ hL hlL
  go_loopw [9, 10] (fun t i wr => ∃ k : Nat, k ≤ m ∧ i = .int .i64 k ∧ (∃ q : ByteArray, t = .string q ∧ Hid (q.size = k) ∧ Hid (q.data.toList = (List.range k).map (letR L))) ∧ Below w3.heap.size w3 wr) (fun _ i _ => m - (intOf i).toNat)
  case atStart => exact ⟨0, Nat.zero_le _, rfl, ⟨_, rfl, Lib.hid rfl, Lib.hid rfl⟩, Below.refl _ _⟩
  case round =>
    obtain ⟨k, hk, rfl, ⟨q, rfl, hq1, hq2⟩, hb⟩ := hrel
    have HB := Lib.hid hb
    clear hb
    have hq3 : q.size ≤ 1000 := by rw [hq1.out]; omega
    by_cases hlt : k < m
    · obtain ⟨hLL, hCC⟩ := H4.out wr HB.out
      obtain ⟨_, c1, c2, _⟩ := hCC k hlt
      have l0 := hLL k (by omega)
      have l1 := hLL (k + 1) (by omega)
      clear hLL hCC
      have HT : Hid (∀ c : UInt8, c = letR L k → (List.range (k + 1)).map (letR L) = (List.range k).map (letR L) ++ [c]) := Lib.hid fun c hc => by
        rw [List.range_succ, List.map_append, hc]; rfl
      have HR : Hid (letR L k = if ((k % 2 == 0) == decide (atL L k < atL L (k + 1))) = true then 86 else 77) := Lib.hid rfl
      obtain ⟨A, hA⟩ : ∃ A, atL L k = A := ⟨_, rfl⟩
      obtain ⟨B, hB⟩ : ∃ B, atL L (k + 1) = B := ⟨_, rfl⟩
      rw [hA] at l0 HR
      rw [hB] at l1 HR
      clear hA hB
      go_wp2
      go_quiet (fail)
      go_wp2
      all_goals go_roundw
      case rel =>
        obtain ⟨p1, p2⟩ := bytes_push q 86 _ _ hq1.out hq2.out
        exact ⟨k + 1, by omega, by go_num, ⟨_, rfl, Lib.hid p1, Lib.hid (p2.trans (HT.out 86 (by rw [HR.out, ← par_eq, if_pos (by assumption)])).symm)⟩, below_drewN HB.out _⟩
      case measure => simp [intOf]; omega
      case rel =>
        obtain ⟨p1, p2⟩ := bytes_push q 77 _ _ hq1.out hq2.out
        exact ⟨k + 1, by omega, by go_num, ⟨_, rfl, Lib.hid p1, Lib.hid (p2.trans (HT.out 77 (by rw [HR.out, ← par_eq, if_neg (by rw [Bool.not_eq_true]; assumption)])).symm)⟩, below_drewN HB.out _⟩
      case measure => simp [intOf]; omega
    · obtain rfl : k = m := by omega
      go_wp2
      go_ret
      have h2 := hq2.out
      rw [HE.out] at h2
      have e : q = crsOf zs O := by
        have := bytes_eq h2
        have h3 := bytes_eq (q := crsOf zs O) rfl
        rw [this, ← h3]
      exact ⟨by rw [e]; rfl, HB3.out.trans (HB.out.mono HB3.out.size)⟩


/-- Whether a string has so many letters M and V. -/
def patR (s : ByteArray) (n : Int) : Bool := s.data.toList.all letB && decide ((s.size : Int) = n)

set_option maxHeartbeats 2000000 in
theorem Pattern_any (s : ByteArray) (n : Int) (w : World) (hs : s.size ≤ 1000000) :
    Calls Try.prog 28 #[.string s, .int .i64 n] w fun e w' => e = .returned (.bool (patR s n)) ∧ w = w' := by
  go_enter Try.func28, Try.ntmps28
  go_wp2
  go_loop [5] (fun i => ∃ k : Nat, k ≤ s.size ∧ i = .int .i64 k ∧ (s.data.toList.take k).all letB = true) (fun i => s.size - (intOf i).toNat)
  case atStart => exact ⟨0, Nat.zero_le _, rfl, by simp⟩
  case round =>
    obtain ⟨k, hk, rfl, hall⟩ := hrel
    have HA := Lib.hid hall
    clear hall
    by_cases hlt : k < s.size
    · have hlt' : k < s.data.toList.length := by simpa using hlt
      have He : Hid (s.data.toList[k] = s[k]) := Lib.hid rfl
      go_wp2
      all_goals first
        | (go_round
           case rel => exact ⟨k + 1, by omega, by go_num, all_next _ _ k hlt' HA.out (by rw [He.out]; first | exact let_yes (by assumption) | exact let_yes2 (by assumption))⟩
           case measure => simp [intOf]; omega)
        | (go_ret
           exact ⟨ret_bool (Eq.symm (by rw [patR, all_false_at _ _ k hlt' (by rw [He.out]; exact let_no (by assumption) (by assumption)), Bool.false_and])), rfl⟩)
    · go_wp2
      go_ret
      have hk' : k = s.size := by omega
      subst hk'
      refine ⟨ret_bool (Eq.symm ?_), rfl⟩
      have := HA.out
      rw [List.take_of_length_le (by simp)] at this
      rw [patR, this, Bool.true_and]
      rw [Bool.eq_iff_iff, decide_eq_true_eq]
      simp

theorem find_at {α : Type} (p : α → Bool) : ∀ (l : List α) (k : Nat) (hk : k < l.length), (∀ o ∈ l.take k, p o = false) → p l[k] = true → l.find? p = some l[k]
  | x :: l, 0, _, _, h2 => by simp at h2 ⊢; exact .inl h2
  | x :: l, k + 1, hk, h1, h2 => by
    have hx : p x = false := h1 x (by simp)
    rw [List.find?_cons]
    simp only [hx]
    exact find_at p l k (by simpa using hk) (fun o ho => h1 o (by simp [ho])) h2

/-- What the reference's 'Layers' answers. -/
def RefLayers (zs : List Int) (pat : ByteArray) (w : World) (e : Ending) (w' : World) : Prop := Below w.heap.size w w' ∧
  (match (ordersOf (layCl zs) zs.length).find? (fun o => (crsOf zs o).toList == pat.toList) with
   | some o => ∃ g cap, e = .returned (.tuple #[.slice (some ⟨g, 0, none⟩) zs.length cap, .bool true]) ∧ Ints w' (some ⟨g, 0, none⟩) (o.map fun (x : Nat) => (x : Int))
   | none => e = .returned (.tuple #[.slice none 0 0, .bool false]))

set_option maxRecDepth 100000 in
set_option maxHeartbeats 4000000 in
theorem refLayers_any (b off n cap : Nat) (zs : List Int) (pat : ByteArray) (w : World) (hn : zs.length = n) (hg : stripB zs = true) (hz : Ints w (some ⟨b, off, none⟩) zs) :
    Calls Try.prog 30 #[.slice (some ⟨b, off, none⟩) n cap, .string pat] w (RefLayers zs pat w) := by
  obtain ⟨p1, p9, ps⟩ := strip_parts hg
  have h1 : 1 ≤ n := by omega
  have hall := Lib.hid (All_any b off n cap zs w hn hg hz)
  have HZ := Lib.hid (And.intro hz (And.intro hn hg))
  have HLt : Hid (∀ (O : List Nat) (wx : World) (aO : Option Addr) (cO : Nat), Ints wx (some ⟨b, off, none⟩) zs → O ∈ ordersOf (layCl zs) zs.length → Ints wx aO (O.map fun (x : Nat) => (x : Int)) →
      Calls Try.prog 24 #[.slice (some ⟨b, off, none⟩) n cap, .slice aO n cO, .bool false] wx fun e w' => e = .returned (.string (crsOf zs O)) ∧ Below wx.heap.size wx w') := Lib.hid fun O wx aO cO h1' hO h2' => by
    obtain ⟨e1, e2, e3, _⟩ := mem_orders.1 hO
    obtain ⟨m, hm⟩ : ∃ m, n = m + 1 := ⟨n - 1, by omega⟩
    subst hm
    exact Letters_any _ aO m cap cO zs O wx hn hg h1' e1 (by rw [e3, hn]) (by rw [← hn]; exact e2) h2'
  have hle := Lib.hid (ordersOf_le (layCl zs) zs.length p9)
  clear hz hn hg ps p1 p9
  go_enter Try.func30, Try.ntmps30
  go_wp2_with fail
  refine hall.out.mono ?_
  rintro e w1 ⟨v, rfl, hL, hb1⟩
  obtain ⟨gA, cA, vsA, rfl, hrA, heA⟩ := hL
  have HE := Lib.hid (And.intro hrA heA)
  have H1 := Lib.hid hb1
  obtain ⟨PL, hPL⟩ : ∃ PL, ordersOf (layCl zs) zs.length = PL := ⟨_, rfl⟩
  have hlen : PL.length ≤ 387420489 := by rw [← hPL]; exact hle.out
  have HD : Hid (RefLayers zs pat w = fun e w' => Below w.heap.size w w' ∧ (match PL.find? (fun o => (crsOf zs o).toList == pat.toList) with
   | some o => ∃ g cap, e = .returned (.tuple #[.slice (some ⟨g, 0, none⟩) zs.length cap, .bool true]) ∧ Ints w' (some ⟨g, 0, none⟩) (o.map fun (x : Nat) => (x : Int))
   | none => e = .returned (.tuple #[.slice none 0 0, .bool false]))) := Lib.hid (by rw [← hPL]; rfl)
  rw [hPL] at HE HLt ⊢
  have HPL := Lib.hid hPL
  clear hrA heA hb1 hall hPL hle
  go_wp2
  go_loopw [7] (fun i wr => ∃ k : Nat, k ≤ PL.length ∧ i = .int .i64 k ∧ (∀ o ∈ PL.take k, ((crsOf zs o).toList == pat.toList) = false) ∧ Below w1.heap.size w1 wr) (fun i _ => PL.length - (intOf i).toNat)
  case atStart => exact ⟨0, Nat.zero_le _, rfl, by simp, Below.refl _ _⟩
  case round =>
    obtain ⟨k, hk, rfl, hno, hb⟩ := hrel
    have HB := Lib.hid hb
    have HNo := Lib.hid hno
    clear hb hno
    have HBw := Lib.hid (H1.out.trans (HB.out.mono H1.out.size))
    by_cases hlt : k < PL.length
    · have hrB := ownsRow_kept HE.out.1 HB.out
      have hel := (HE.out.2 k hlt).kept HB.out
      have hvl : vsA.length = PL.length := by simpa using HE.out.1.1
      have cell := hrB.cellAt k (by omega)
      rw [List.getElem?_eq_getElem (by omega)] at cell
      rw [List.getElem?_eq_getElem hlt, List.getElem?_eq_getElem (by omega : k < vsA.length), Option.getD_some, Option.getD_some] at hel
      obtain ⟨eb, ec, ee, er⟩ := hel
      rw [ee] at cell er
      have hO := List.getElem_mem hlt
      have hOl : PL[k].length = n := by
        have := (mem_orders.1 (by rw [HPL.out]; exact hO)).2.2.1
        rw [this, HZ.out.2.1]
      rw [hOl] at cell er
      have hI : Ints wr (some ⟨eb, 0, none⟩) (PL[k].map fun (x : Nat) => (x : Int)) := Ints.of_nats er
      have HFo := Lib.hid (HLt.out PL[k] wr (some ⟨eb, 0, none⟩) ec (HZ.out.1.below HBw.out) hO hI)
      have HI := Lib.hid hI
      have HTk : Hid (PL.take (k + 1) = PL.take k ++ [PL[k]]) := Lib.hid (List.take_succ_eq_append_getElem hlt)
      have HFd : Hid (((crsOf zs PL[k]).toList == pat.toList) = true → PL.find? (fun o => (crsOf zs o).toList == pat.toList) = some PL[k]) := Lib.hid fun h => by
        exact find_at _ PL k hlt HNo.out h
      generalize PL[k] = O at *
      obtain ⟨X, hX⟩ : ∃ X, crsOf zs O = X := ⟨_, rfl⟩
      rw [hX] at HFo HFd
      have HX := Lib.hid hX
      have hlg : gA < wr.heap.size := (hrB.lt gA rfl).2
      clear hrB hvl ee er hO hI hOl hX
      by_cases hx : X.toList = pat.toList
      · have HX2 := Lib.hid hx
        have hb' : (X.toList == pat.toList) = true := by rw [beq_iff_eq]; exact hx
        clear hx
        go_wp2_with fail
        refine HFo.out.mono ?_
        rintro e w3 ⟨rfl, hb3⟩
        have cell3 := (hb3.cell (p := ⟨gA, k, none⟩) hlg).trans cell
        have H3 := Lib.hid (And.intro (HI.out.below hb3) (HBw.out.trans (hb3.mono HBw.out.size)))
        clear hb3 cell
        go_wp2
        go_ret2
        rw [HD.out]
        refine ⟨H3.out.2, ?_⟩
        rw [HFd.out hb']
        exact ⟨eb, ec, by rw [HZ.out.2.1]; rfl, H3.out.1⟩
      · have hb' : (X.toList == pat.toList) = false := by rw [beq_eq_false_iff_ne]; exact hx
        have HX2 := Lib.hid hb'
        go_wp2_with fail
        refine HFo.out.mono ?_
        rintro e w3 ⟨rfl, hb3⟩
        have H3 := Lib.hid (HB.out.trans (hb3.mono HB.out.size))
        clear hb3 cell
        go_wp2
        go_roundw
        case rel =>
          refine ⟨k + 1, by omega, by go_num, fun o ho => ?_, H3.out⟩
          rw [HTk.out] at ho
          rcases List.mem_append.1 ho with h | h
          · exact HNo.out o h
          · obtain rfl : o = O := by simpa using h
            rw [HX.out]; exact HX2.out
        case measure => simp [intOf]; omega
    · go_wp2
      go_ret2
      obtain rfl : k = PL.length := by omega
      rw [HD.out]
      refine ⟨HBw.out, ?_⟩
      have hno := HNo.out
      rw [List.take_length] at hno
      rw [List.find?_eq_none.2 (fun o ho => by rw [hno o ho]; exact Bool.false_ne_true)]
      rfl

end Go.Proofs.Yteankhgikpejhaa
