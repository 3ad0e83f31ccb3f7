/-
  The walks of 'isPattern' and 'Layers'.
-/
import Derived.Test.YteankhgikpejhaaFm
namespace Go.Proofs.Yteankhgikpejhaa
open Go.RowKit Go.Sort Go.Shelf

theorem let_no {c : UInt8} (h1 : ¬ ((c.toNat : Int) = 77)) (h2 : ((c.toNat : Int) != 86) = true) : letB c = false := by
  have h2 : ¬ c.toNat = 86 := by simp at h2; omega
  have h1 : ¬ c.toNat = 77 := by omega
  simp [letB, ← UInt8.toNat_inj]
  omega
theorem let_yes {c : UInt8} (h2 : ((c.toNat : Int) != 86) = false) : letB c = true := by
  have h2 : c.toNat = 86 := by simp at h2; omega
  simp [letB, ← UInt8.toNat_inj]
  omega
theorem let_yes2 {c : UInt8} (h2 : (c.toNat : Int) = 77) : letB c = true := by
  simp [letB, ← UInt8.toNat_inj]
  omega

set_option maxHeartbeats 1000000 in
theorem isPattern_any (s : ByteArray) (n : Nat) (w : World) (hs : s.size ≤ 9223372036854775807) (hn : n ≤ 1000) :
    Calls Try.prog 62 #[.string s, .int .i64 n] w fun e w' => e = .returned (.bool (patB s n)) ∧ w = w' := by
  rcases Bool.eq_false_or_eq_true (s.size == n) with h | h
  · have hsn : s.size = n := by simpa using h
    have H := Lib.hid h
    clear h
    subst hsn
    go_enter Try.func62, Try.ntmps62
    go_wp2
    go_loop [12] (fun i => ∃ k : Nat, k ≤ s.size ∧ i = .int .i64 k ∧ (s.data.toList.take k).all letB = true) (fun i => s.size - (intOf i).toNat)
    case atStart => exact ⟨0, Nat.zero_le _, rfl, by simp⟩
    case round =>
      obtain ⟨k, hk, rfl, hall⟩ := hrel
      have Hall := Lib.hid hall
      clear hall
      by_cases hlt : k < s.size
      · have hlt' : k < s.data.toList.length := by simpa using hlt
        have He : Hid (s.data.toList[k] = s[k]) := Lib.hid rfl
        go_wp2
        case roundEnd =>
          go_round
          case rel => exact ⟨k + 1, by omega, by go_num, all_next _ _ k hlt' Hall.out (by rw [He.out]; exact let_yes (by assumption))⟩
          case measure => simp [intOf]; omega
        case roundEnd =>
          go_round
          case rel => exact ⟨k + 1, by omega, by go_num, all_next _ _ k hlt' Hall.out (by rw [He.out]; exact let_yes2 (by assumption))⟩
          case measure => simp [intOf]; omega
        · go_ret
          exact ⟨ret_bool (Eq.symm (by rw [patB, H.out, all_false_at _ _ k hlt' (by rw [He.out]; exact let_no (by assumption) (by assumption))]; rfl)), rfl⟩
      · go_wp2
        go_ret
        have hk' : k = s.size := by omega
        subst hk'
        exact ⟨ret_bool (Eq.symm (by have := Hall.out; rw [List.take_of_length_le (by simp)] at this; rw [patB, H.out, this]; rfl)), rfl⟩
  · go_enter Try.func62, Try.ntmps62
    go_wp2
    go_ret
    exact ⟨ret_bool (by rw [patB, h]; rfl), rfl⟩


attribute [local go_sem] Oper.semAt_some

/-- The letters of an order of a strip. -/
def crsOf (zs : List Int) (o : List Nat) : ByteArray := strOf (lettersZ (layCl zs).crs (layersOf o zs.length))

/-- What 'Layers' hands back. -/
def LayersPost (zs : List Int) (pat : ByteArray) (w : World) (e : Ending) (w' : World) : Prop :=
  ∃ v err, e = .returned (.tuple #[v, .int .i64 err]) ∧ Below w.heap.size w w' ∧
    (match (ordersOf (layCl zs) zs.length).find? (fun o => (crsOf zs o).toList == pat.toList) with
     | some o => err = 0 ∧ ∃ g cap, v = .slice (some ⟨g, 0, none⟩) zs.length cap ∧ w.heap.size ≤ g ∧ w'.ownsRow 0 3 1 v zs.length (intsOf o)
     | none => err = 5 ∧ v = .slice none 0 0)

theorem placeAll_ok (c : Cl) (n : Nat) : ∀ (k : Nat) (L : List Int) (O : List Nat), (∀ x ∈ O, x < n) → ∀ o ∈ placeAll c n k L O, o.length = O.length + k ∧ ∀ x ∈ o, x < n
  | 0, L, O, hO, o, ho => by
    simp [placeAll] at ho
    subst ho
    exact ⟨rfl, hO⟩
  | k + 1, L, O, hO, o, ho => by
    rw [placeAll, List.mem_flatMap] at ho
    obtain ⟨s, hs, ho⟩ := ho
    rw [List.mem_range] at hs
    split at ho
    · obtain ⟨h1, h2⟩ := placeAll_ok c n k _ _ (by
        intro x hx
        rcases List.mem_append.1 hx with h | h
        · exact hO x h
        · simp at h; omega) o ho
      refine ⟨by rw [h1]; simp; omega, h2⟩
    · cases ho
theorem ordersOf_ok (c : Cl) (n : Nat) : ∀ o ∈ ordersOf c n, o.length = n ∧ ∀ x ∈ o, x < n := fun o ho => by
  have := placeAll_ok c n n _ [] (by simp) o ho
  simpa using this

end Go.Proofs.Yteankhgikpejhaa
