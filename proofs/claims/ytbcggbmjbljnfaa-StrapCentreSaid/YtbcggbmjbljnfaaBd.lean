/-
  strap: 'settled', as far as a model with fuel says; 'check'.
-/
import Derived.Test.YtbcggbmjbljnfaaBc
namespace Go.Proofs.Ytbcggbmjbljnfaa
open Go.RowKit Go.Sort

def setN (n : Nat) : Nat → List Nat → List Nat → Option (List Nat × List Nat)
  | 0, _, _ => none
  | f + 1, s, t => match movN n s t with
    | none => some (s, t)
    | some i => setN n f (thenN s (exchN n (i + 1))) (thenN (exchN n (i + 1)) t)
theorem movN_lt {n i : Nat} {s t : List Nat} (h : movN n s t = some i) : i + 1 < n := by
  have := List.mem_of_find?_eq_some h
  have := List.mem_range.1 this
  omega
theorem exchN_in {n k : Nat} (h1 : 1 ≤ k) (hk : k < n) : InN n (exchN n k) := by
  refine ⟨exchN_len n k, fun x hx => ?_⟩
  unfold exchN at hx
  rcases List.mem_or_eq_of_mem_set hx with hx | rfl
  · rcases List.mem_or_eq_of_mem_set hx with hx | rfl
    · exact List.mem_range.1 hx
    · exact hk
  · omega
theorem thenN_in {n : Nat} {p q : List Nat} (hp : InN n p) (hq : InN n q) : InN n (thenN p q) := by
  refine ⟨by rw [thenN, List.length_map, hp.1], fun x hx => ?_⟩
  obtain ⟨y, hy, rfl⟩ := List.mem_map.1 hx
  exact hq.at (hp.2 y hy)
/-- What 'settled' keeps. -/
def Off (g : Nat) (a : Option Addr) : Prop := ∀ x, a = some x → x.block ≠ g
def SetS (g0 : Nat) (w : World) (a b : Option Addr) (s t : List Nat) (wr : World) : Prop := Nats wr a s ∧ Nats wr b t ∧ Below w.heap.size w wr ∧ Off g0 a ∧ Off g0 b
theorem SetS.next {g0 : Nat} {w : World} {a b : Option Addr} {s t : List Nat} {wr w' : World} (h : SetS g0 w a b s t wr) (hb : Below wr.heap.size wr w') : SetS g0 w a b s t w' := ⟨h.1.below hb, h.2.1.below hb, h.2.2.1.trans (hb.mono h.2.2.1.size), h.2.2.2⟩
/-- What 'settled' hands back. -/
def SetV (g0 n : Nat) (s t : List Nat) (w : World) (e : Ending) (w' : World) : Prop := ∃ (a b : Option Addr) (c d : Nat), e = .returned (.tuple #[.slice a n c, .slice b n d]) ∧ SetS g0 w a b s t w'

set_option maxRecDepth 100000 in
set_option maxHeartbeats 4000000 in
theorem settled_any (g0 : Nat) (a b : Option Addr) (n cs ct f : Nat) (s t s' t' : List Nat) (w : World) (hs : InN n s) (ht : InN n t) (h1 : 1 ≤ n) (hn : n ≤ 100) (hza : Nats w a s) (hzb : Nats w b t) (hf : setN n f s t = some (s', t')) (hg0 : g0 < w.heap.size) (hoa : Off g0 a) (hob : Off g0 b) :
    Calls Try.prog 121 #[.slice a n cs, .slice b n ct] w (SetV g0 n s' t' w) := by
  have HF := Lib.hid hf
  have HS0 : Hid (SetS g0 w a b s t w) := Lib.hid ⟨hza, hzb, Below.refl _ _, hoa, hob⟩
  have HIN := Lib.hid (And.intro hs ht)
  clear hza hzb hf hs ht hoa hob
  go_enter Try.func121, Try.ntmps121
  go_wp2
  go_loopg [0, 1, 6, 7, 8] f (fun g s0 s1 _ _ _ wr => ∃ (a b : Option Addr) (c d : Nat) (su tu : List Nat), s0 = .slice a n c ∧ s1 = .slice b n d ∧ Hid (InN n su ∧ InN n tu) ∧ Hid (setN n g su tu = some (s', t')) ∧ Hid (SetS g0 w a b su tu wr))
  case atStart => exact ⟨a, b, cs, ct, s, t, rfl, rfl, HIN, HF, HS0⟩
  case round =>
    clear HF HS0 HIN
    obtain ⟨a, b, c, d, su, tu, rfl, rfl, HI, HF, HS⟩ := hrel
    cases gk with
    | zero => exact absurd HF.out (by simp [setN])
    | succ g =>
      have HMV := Lib.hid (movable_any a b n c d su tu wr HI.out.1 HI.out.2.1 h1 (by omega) HS.out.1 HS.out.2.1)
      have hF := HF.out
      unfold setN at hF
      unfold MovV at HMV
      cases hm : movN n su tu with
      | none =>
        rw [hm] at hF HMV
        simp only [] at hF HMV
        obtain ⟨rfl, rfl⟩ : su = s' ∧ tu = t' := by simpa using hF
        clear hF hm
        go_wp2_with (go_at_call 91; refine HMV.out.mono ?_; rintro e w1 ⟨hb1, rfl⟩; have H1 := Lib.hid (HS.out.next hb1); clear hb1)
        go_ret2
        exact ⟨a, b, c, d, rfl, H1.out⟩
      | some i =>
        have hin := movN_lt hm
        rw [hm] at hF HMV
        simp only [] at hF HMV
        have HG := Lib.hid hF
        have HEI := Lib.hid (exchN_in (n := n) (k := i + 1) (by omega) hin)
        have HEX := Lib.hid (fun (wx : World) => exchange_any n (i + 1) ((i : Int) + 1) wx (by omega) (by omega) hin (.inl (by omega)))
        have HT1 := Lib.hid (fun (g8 : Nat) (wx : World) (hx : Nats wx a su) (hy : Nats wx (some ⟨g8, 0, none⟩) (exchN n (i + 1))) => then_any a (some ⟨g8, 0, none⟩) n c n su (exchN n (i + 1)) wx HI.out.1 HEI.out.1 (by omega) hx hy)
        have HT2 := Lib.hid (fun (g8 : Nat) (wx : World) (hx : Nats wx b tu) (hy : Nats wx (some ⟨g8, 0, none⟩) (exchN n (i + 1))) => then_any (some ⟨g8, 0, none⟩) b n n d (exchN n (i + 1)) tu wx HEI.out HI.out.2.1 (by omega) hy hx)
        have HI2 : Hid (InN n (thenN su (exchN n (i + 1))) ∧ InN n (thenN (exchN n (i + 1)) tu)) := Lib.hid ⟨thenN_in HI.out.1 HEI.out, thenN_in HEI.out HI.out.2⟩
        unfold GivesP at HEX HT1 HT2
        rw [HEI.out.1] at HEX
        rw [HI2.out.1.1] at HT1
        rw [HI2.out.2.1] at HT2
        obtain ⟨ex, hex⟩ : ∃ ex, exchN n (i + 1) = ex := ⟨_, rfl⟩
        rw [hex] at HEX HT1 HT2 HI2 HG
        obtain ⟨s2, hs2⟩ : ∃ s2, thenN su ex = s2 := ⟨_, rfl⟩
        rw [hs2] at HT1 HI2 HG
        obtain ⟨t2, ht2⟩ : ∃ t2, thenN ex tu = t2 := ⟨_, rfl⟩
        rw [ht2] at HT2 HI2 HG
        clear hF hm hex hs2 ht2 HEI
        go_wp2_with (fail)
        refine HMV.out.mono ?_
        rintro e w1 ⟨hb1, rfl⟩
        have H1 := Lib.hid (HS.out.next hb1)
        clear hb1
        go_wp2_with (fail)
        refine (HEX.out w1).mono ?_
        rintro e w2 ⟨g8, rfl, _, hr8, hb2⟩
        have H2 := Lib.hid (And.intro (H1.out.next hb2) hr8)
        clear hb2 hr8
        go_wp2_with (fail)
        refine (HT1.out g8 w2 H2.out.1.1 H2.out.2.nats).mono ?_
        rintro e w3 ⟨g9, rfl, hg9, hr9, hb3⟩
        have HO9 : Hid (Off g0 (some ⟨g9, 0, none⟩)) := Lib.hid (fun x hx => by cases hx; have := H2.out.1.2.2.1.size; simp; omega)
        have H3 := Lib.hid (And.intro (H2.out.1.next hb3) (And.intro (H2.out.2.below hb3) hr9))
        clear hb3 hr9 hg9
        go_wp2_with (fail)
        refine (HT2.out g8 w3 H3.out.1.2.1 H3.out.2.1.nats).mono ?_
        rintro e w4 ⟨g10, rfl, hg10, hr10, hb4⟩
        have HO10 : Hid (Off g0 (some ⟨g10, 0, none⟩)) := Lib.hid (fun x hx => by cases hx; have := H3.out.1.2.2.1.size; simp; omega)
        have H4 : Hid (SetS g0 w (some ⟨g9, 0, none⟩) (some ⟨g10, 0, none⟩) s2 t2 w4) := Lib.hid ⟨(H3.out.2.2.below hb4).nats, hr10.nats, (H3.out.1.next hb4).2.2.1, HO9.out, HO10.out⟩
        clear hb4 hr10 hg10
        go_wp2_with (fail)
        go_roundg g
        case measure => omega
        case rel => exact ⟨_, _, n, n, s2, t2, rfl, rfl, HI2, HG, H4⟩

end Go.Proofs.Ytbcggbmjbljnfaa
