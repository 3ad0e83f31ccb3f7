/-
  The reference's 'Pattern' and 'Layers'.
-/
import Derived.Test.YteankhgikpejhaaKa
namespace Go.Proofs.Yteankhgikpejhaa
open Go.RowKit Go.Sort

/-- Whether a string has so many letters M and V. -/
def patR (s : ByteArray) (n : Int) : Bool := s.data.toList.all letB && decide ((s.size : Int) = n)

set_option maxHeartbeats 2000000 in
theorem Pattern_any (s : ByteArray) (n : Int) (w : World) (hs : s.size ≤ 1000000) :
    Calls Try.prog 28 #[.string s, .int .i64 n] w fun e w' => e = .returned (.bool (patR s n)) ∧ w = w' := by
  go_enter Try.func28, Try.ntmps28
  go_wp2
  go_loop [5] (fun i => ∃ k : Nat, k ≤ s.size ∧ i = .int .i64 k ∧ (s.data.toList.take k).all letB = true) (fun i => s.size - (intOf i).toNat)
  case atStart => exact ⟨0, Nat.zero_le _, rfl, by simp⟩
  case round =>
    obtain ⟨k, hk, rfl, hall⟩ := hrel
    have HA := Lib.hid hall
    clear hall
    by_cases hlt : k < s.size
    · have hlt' : k < s.data.toList.length := by simpa using hlt
      have He : Hid (s.data.toList[k] = s[k]) := Lib.hid rfl
      go_wp2
      all_goals first
        | (go_round
           case rel => exact ⟨k + 1, by omega, by go_num, all_next _ _ k hlt' HA.out (by rw [He.out]; first | exact let_yes (by assumption) | exact let_yes2 (by assumption))⟩
           case measure => simp [intOf]; omega)
        | (go_ret
           exact ⟨ret_bool (Eq.symm (by rw [patR, all_false_at _ _ k hlt' (by rw [He.out]; exact let_no (by assumption) (by assumption)), Bool.false_and])), rfl⟩)
    · go_wp2
      go_ret
      have hk' : k = s.size := by omega
      subst hk'
      refine ⟨ret_bool (Eq.symm ?_), rfl⟩
      have := HA.out
      rw [List.take_of_length_le (by simp)] at this
      rw [patR, this, Bool.true_and]
      rw [Bool.eq_iff_iff, decide_eq_true_eq]
      simp

theorem find_at {α : Type} (p : α → Bool) : ∀ (l : List α) (k : Nat) (hk : k < l.length), (∀ o ∈ l.take k, p o = false) → p l[k] = true → l.find? p = some l[k]
  | x :: l, 0, _, _, h2 => by simp at h2 ⊢; exact .inl h2
  | x :: l, k + 1, hk, h1, h2 => by
    have hx : p x = false := h1 x (by simp)
    rw [List.find?_cons]
    simp only [hx]
    exact find_at p l k (by simpa using hk) (fun o ho => h1 o (by simp [ho])) h2

/-- What the reference's 'Layers' answers. -/
def RefLayers (zs : List Int) (pat : ByteArray) (w : World) (e : Ending) (w' : World) : Prop := Below w.heap.size w w' ∧
  (match (ordersOf (layCl zs) zs.length).find? (fun o => (crsOf zs o).toList == pat.toList) with
   | some o => ∃ g cap, e = .returned (.tuple #[.slice (some ⟨g, 0, none⟩) zs.length cap, .bool true]) ∧ Ints w' (some ⟨g, 0, none⟩) (o.map fun (x : Nat) => (x : Int))
   | none => e = .returned (.tuple #[.slice none 0 0, .bool false]))

set_option maxRecDepth 100000 in
set_option maxHeartbeats 4000000 in
theorem refLayers_any (b off n cap : Nat) (zs : List Int) (pat : ByteArray) (w : World) (hn : zs.length = n) (hg : stripB zs = true) (hz : Ints w (some ⟨b, off, none⟩) zs) :
    Calls Try.prog 30 #[.slice (some ⟨b, off, none⟩) n cap, .string pat] w (RefLayers zs pat w) := by
  obtain ⟨p1, p9, ps⟩ := strip_parts hg
  have h1 : 1 ≤ n := by omega
  have hall := Lib.hid (All_any b off n cap zs w hn hg hz)
  have HZ := Lib.hid (And.intro hz (And.intro hn hg))
  have HLt : Hid (∀ (O : List Nat) (wx : World) (aO : Option Addr) (cO : Nat), Ints wx (some ⟨b, off, none⟩) zs → O ∈ ordersOf (layCl zs) zs.length → Ints wx aO (O.map fun (x : Nat) => (x : Int)) →
      Calls Try.prog 24 #[.slice (some ⟨b, off, none⟩) n cap, .slice aO n cO, .bool false] wx fun e w' => e = .returned (.string (crsOf zs O)) ∧ Below wx.heap.size wx w') := Lib.hid fun O wx aO cO h1' hO h2' => by
    obtain ⟨e1, e2, e3, _⟩ := mem_orders.1 hO
    obtain ⟨m, hm⟩ : ∃ m, n = m + 1 := ⟨n - 1, by omega⟩
    subst hm
    exact Letters_any _ aO m cap cO zs O wx hn hg h1' e1 (by rw [e3, hn]) (by rw [← hn]; exact e2) h2'
  have hle := Lib.hid (ordersOf_le (layCl zs) zs.length p9)
  clear hz hn hg ps p1 p9
  go_enter Try.func30, Try.ntmps30
  go_wp2_with fail
  refine hall.out.mono ?_
  rintro e w1 ⟨v, rfl, hL, hb1⟩
  obtain ⟨gA, cA, vsA, rfl, hrA, heA⟩ := hL
  have HE := Lib.hid (And.intro hrA heA)
  have H1 := Lib.hid hb1
  obtain ⟨PL, hPL⟩ : ∃ PL, ordersOf (layCl zs) zs.length = PL := ⟨_, rfl⟩
  have hlen : PL.length ≤ 387420489 := by rw [← hPL]; exact hle.out
  have HD : Hid (RefLayers zs pat w = fun e w' => Below w.heap.size w w' ∧ (match PL.find? (fun o => (crsOf zs o).toList == pat.toList) with
   | some o => ∃ g cap, e = .returned (.tuple #[.slice (some ⟨g, 0, none⟩) zs.length cap, .bool true]) ∧ Ints w' (some ⟨g, 0, none⟩) (o.map fun (x : Nat) => (x : Int))
   | none => e = .returned (.tuple #[.slice none 0 0, .bool false]))) := Lib.hid (by rw [← hPL]; rfl)
  rw [hPL] at HE HLt ⊢
  have HPL := Lib.hid hPL
  clear hrA heA hb1 hall hPL hle
  go_wp2
  go_loopw [7] (fun i wr => ∃ k : Nat, k ≤ PL.length ∧ i = .int .i64 k ∧ (∀ o ∈ PL.take k, ((crsOf zs o).toList == pat.toList) = false) ∧ Below w1.heap.size w1 wr) (fun i _ => PL.length - (intOf i).toNat)
  case atStart => exact ⟨0, Nat.zero_le _, rfl, by simp, Below.refl _ _⟩
  case round =>
    obtain ⟨k, hk, rfl, hno, hb⟩ := hrel
    have HB := Lib.hid hb
    have HNo := Lib.hid hno
    clear hb hno
    have HBw := Lib.hid (H1.out.trans (HB.out.mono H1.out.size))
    by_cases hlt : k < PL.length
    · have hrB := ownsRow_kept HE.out.1 HB.out
      have hel := (HE.out.2 k hlt).kept HB.out
      have hvl : vsA.length = PL.length := by simpa using HE.out.1.1
      have cell := hrB.cellAt k (by omega)
      rw [List.getElem?_eq_getElem (by omega)] at cell
      rw [List.getElem?_eq_getElem hlt, List.getElem?_eq_getElem (by omega : k < vsA.length), Option.getD_some, Option.getD_some] at hel
      obtain ⟨eb, ec, ee, er⟩ := hel
      rw [ee] at cell er
      have hO := List.getElem_mem hlt
      have hOl : PL[k].length = n := by
        have := (mem_orders.1 (by rw [HPL.out]; exact hO)).2.2.1
        rw [this, HZ.out.2.1]
      rw [hOl] at cell er
      have hI : Ints wr (some ⟨eb, 0, none⟩) (PL[k].map fun (x : Nat) => (x : Int)) := Ints.of_nats er
      have HFo := Lib.hid (HLt.out PL[k] wr (some ⟨eb, 0, none⟩) ec (HZ.out.1.below HBw.out) hO hI)
      have HI := Lib.hid hI
      have HTk : Hid (PL.take (k + 1) = PL.take k ++ [PL[k]]) := Lib.hid (List.take_succ_eq_append_getElem hlt)
      have HFd : Hid (((crsOf zs PL[k]).toList == pat.toList) = true → PL.find? (fun o => (crsOf zs o).toList == pat.toList) = some PL[k]) := Lib.hid fun h => by
        exact find_at _ PL k hlt HNo.out h
      generalize PL[k] = O at *
      obtain ⟨X, hX⟩ : ∃ X, crsOf zs O = X := ⟨_, rfl⟩
      rw [hX] at HFo HFd
      have HX := Lib.hid hX
      have hlg : gA < wr.heap.size := (hrB.lt gA rfl).2
      clear hrB hvl ee er hO hI hOl hX
      by_cases hx : X.toList = pat.toList
      · have HX2 := Lib.hid hx
        have hb' : (X.toList == pat.toList) = true := by rw [beq_iff_eq]; exact hx
        clear hx
        go_wp2_with fail
        refine HFo.out.mono ?_
        rintro e w3 ⟨rfl, hb3⟩
        have cell3 := (hb3.cell (p := ⟨gA, k, none⟩) hlg).trans cell
        have H3 := Lib.hid (And.intro (HI.out.below hb3) (HBw.out.trans (hb3.mono HBw.out.size)))
        clear hb3 cell
        go_wp2
        go_ret2
        rw [HD.out]
        refine ⟨H3.out.2, ?_⟩
        rw [HFd.out hb']
        exact ⟨eb, ec, by rw [HZ.out.2.1]; rfl, H3.out.1⟩
      · have hb' : (X.toList == pat.toList) = false := by rw [beq_eq_false_iff_ne]; exact hx
        have HX2 := Lib.hid hb'
        go_wp2_with fail
        refine HFo.out.mono ?_
        rintro e w3 ⟨rfl, hb3⟩
        have H3 := Lib.hid (HB.out.trans (hb3.mono HB.out.size))
        clear hb3 cell
        go_wp2
        go_roundw
        case rel =>
          refine ⟨k + 1, by omega, by go_num, fun o ho => ?_, H3.out⟩
          rw [HTk.out] at ho
          rcases List.mem_append.1 ho with h | h
          · exact HNo.out o h
          · obtain rfl : o = O := by simpa using h
            rw [HX.out]; exact HX2.out
        case measure => simp [intOf]; omega
    · go_wp2
      go_ret2
      obtain rfl : k = PL.length := by omega
      rw [HD.out]
      refine ⟨HBw.out, ?_⟩
      have hno := HNo.out
      rw [List.take_length] at hno
      rw [List.find?_eq_none.2 (fun o ho => by rw [hno o ho]; exact Bool.false_ne_true)]
      rfl

end Go.Proofs.Yteankhgikpejhaa
