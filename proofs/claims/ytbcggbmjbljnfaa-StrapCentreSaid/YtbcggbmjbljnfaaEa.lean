/-
  Braids, pure: permutations of the natural numbers; what may move from one factor to the one before it; the form at rest is unique; once through the pairs, from the last one on, is enough; the form of a word, and what does not change it.
-/
import Derived.Test.YtbcggbmjbljnfaaRa
namespace Go.Proofs.Ytbcggbmjbljnfaa.Gar

/-- A permutation of the natural numbers. -/
structure Pm where
  f : Nat → Nat
  g : Nat → Nat
  fg : ∀ x, f (g x) = x
  gf : ∀ x, g (f x) = x

theorem Pm.ext {p q : Pm} (h : ∀ x, p.f x = q.f x) : p = q := by
  obtain ⟨f, g, fg, gf⟩ := p
  obtain ⟨f', g', fg', gf'⟩ := q
  simp only at h
  have h1 : f = f' := funext h
  subst h1
  have h2 : g = g' := funext fun x => by rw [← gf' (g x), fg]
  subst h2
  rfl
theorem Pm.inj (p : Pm) {x y : Nat} (h : p.f x = p.f y) : x = y := by rw [← p.gf x, h, p.gf]
theorem Pm.ginj (p : Pm) {x y : Nat} (h : p.g x = p.g y) : x = y := by rw [← p.fg x, h, p.fg]

/-- The exchange of i and i + 1. -/
def sw (i x : Nat) : Nat := if x = i then i + 1 else if x = i + 1 then i else x
theorem sw_sw (i x : Nat) : sw i (sw i x) = x := by unfold sw; (repeat' split) <;> omega
theorem sw_l (i : Nat) : sw i i = i + 1 := by simp [sw]
theorem sw_r (i : Nat) : sw i (i + 1) = i := by simp [sw]
theorem sw_o {i x : Nat} (h1 : x ≠ i) (h2 : x ≠ i + 1) : sw i x = x := by simp [sw, h1, h2]
theorem sw_lt {i a b : Nat} (h : a < b) (hn : ¬ (a = i ∧ b = i + 1)) : sw i a < sw i b := by
  unfold sw; (repeat' split) <;> omega
def one : Pm := ⟨id, id, fun _ => rfl, fun _ => rfl⟩
def tw (i : Nat) : Pm := ⟨sw i, sw i, sw_sw i, sw_sw i⟩
/-- p, then q. -/
def mul (p q : Pm) : Pm := ⟨fun x => q.f (p.f x), fun x => p.g (q.g x), fun x => by rw [p.fg, q.fg], fun x => by rw [q.gf, p.gf]⟩
def inv (p : Pm) : Pm := ⟨p.g, p.f, p.gf, p.fg⟩
theorem mul_assoc (p q r : Pm) : mul (mul p q) r = mul p (mul q r) := rfl
theorem one_mul (p : Pm) : mul one p = p := rfl
theorem mul_one (p : Pm) : mul p one = p := rfl
theorem mul_inv (p : Pm) : mul p (inv p) = one := Pm.ext fun x => p.gf x
theorem inv_mul (p : Pm) : mul (inv p) p = one := Pm.ext fun x => p.fg x
theorem tw_tw (i : Nat) : mul (tw i) (tw i) = one := Pm.ext fun x => sw_sw i x
theorem tw_far {i j : Nat} (h : i + 2 ≤ j) : mul (tw i) (tw j) = mul (tw j) (tw i) := Pm.ext fun x => by
  simp only [mul, tw, sw]; (repeat' split) <;> omega
theorem tw_near (i : Nat) : mul (tw i) (mul (tw (i + 1)) (tw i)) = mul (tw (i + 1)) (mul (tw i) (tw (i + 1))) := Pm.ext fun x => by
  simp only [mul, tw, sw]; (repeat' split) <;> omega

/-- Letter i may move from the beginning of t to the end of s. -/
def can (s t : Pm) (i : Nat) : Prop := t.f (i + 1) < t.f i ∧ s.g i < s.g (i + 1)

inductive Mv : List Pm → List Pm → Prop
  | here {s t : Pm} {i : Nat} {B : List Pm} : can s t i → Mv (s :: t :: B) (mul s (tw i) :: mul (tw i) t :: B)
  | there {s : Pm} {A B : List Pm} : Mv A B → Mv (s :: A) (s :: B)

inductive Mvs : List Pm → List Pm → Prop
  | refl {A : List Pm} : Mvs A A
  | step {A B C : List Pm} : Mv A B → Mvs B C → Mvs A C
theorem Mvs.one {A B : List Pm} (h : Mv A B) : Mvs A B := .step h .refl
theorem Mvs.trans {A B C : List Pm} (h : Mvs A B) (h' : Mvs B C) : Mvs A C := by
  induction h with
  | refl => exact h'
  | step a _ ih => exact .step a (ih h')
theorem Mvs.there {s : Pm} {A B : List Pm} (h : Mvs A B) : Mvs (s :: A) (s :: B) := by
  induction h with
  | refl => exact .refl
  | step a _ ih => exact .step (.there a) ih
theorem Mv.append {A B : List Pm} (C : List Pm) (h : Mv A B) : Mv (A ++ C) (B ++ C) := by
  induction h with
  | here h => exact .here h
  | there _ ih => exact .there ih
theorem Mvs.append {A B : List Pm} (C : List Pm) (h : Mvs A B) : Mvs (A ++ C) (B ++ C) := by
  induction h with
  | refl => exact .refl
  | step a _ ih => exact .step (a.append C) ih
theorem Mvs.pre {A B : List Pm} (C : List Pm) (h : Mvs A B) : Mvs (C ++ A) (C ++ B) := by
  induction C with
  | nil => exact h
  | cons s C ih => exact .there ih
theorem Mv.len {A B : List Pm} (h : Mv A B) : A.length = B.length := by
  induction h with
  | here _ => rfl
  | there _ ih => simp [ih]
theorem Mvs.len {A B : List Pm} (h : Mvs A B) : A.length = B.length := by
  induction h with
  | refl => rfl
  | step a _ ih => exact a.len.trans ih
/-- Nothing moves. -/
def Stl (A : List Pm) : Prop := ∀ B, ¬ Mv A B
theorem Stl.tail {s : Pm} {A : List Pm} (h : Stl (s :: A)) : Stl A := fun B hb => h _ (.there hb)

theorem can_far {s t : Pm} {i j : Nat} (h : i + 2 ≤ j ∨ j + 2 ≤ i) (hj : can s t j) : can (mul s (tw i)) (mul (tw i) t) j := by
  unfold can mul tw at *
  simp only at *
  rw [sw_o (i := i) (x := j) (by omega) (by omega), sw_o (i := i) (x := j + 1) (by omega) (by omega)]
  exact hj
theorem can_over1 {s t u : Pm} {i j : Nat} (hi : can s t i) (hj : can t u j) : can (mul (tw i) t) u j := by
  refine ⟨hj.1, sw_lt hj.2 fun ⟨h1, h2⟩ => ?_⟩
  have e1 := t.fg j
  have e2 := t.fg (j + 1)
  rw [h1] at e1
  rw [h2] at e2
  have := hi.1
  omega
theorem can_over2 {s t u : Pm} {i j : Nat} (hi : can s t i) (hj : can t u j) : can s (mul t (tw j)) i := by
  refine ⟨sw_lt hi.1 fun ⟨h1, h2⟩ => ?_, hi.2⟩
  have e1 := t.gf (i + 1)
  have e2 := t.gf i
  rw [h1] at e1
  rw [h2] at e2
  have := hj.2
  omega

theorem conf_near {s t : Pm} {i : Nat} {B : List Pm} (h1 : can s t i) (h2 : can s t (i + 1)) :
    ∃ C, Mvs (mul s (tw i) :: mul (tw i) t :: B) C ∧ Mvs (mul s (tw (i + 1)) :: mul (tw (i + 1)) t :: B) C := by
  have e1 := sw_l i
  have e2 := sw_r i
  have e3 : sw i (i + 1 + 1) = i + 1 + 1 := sw_o (by omega) (by omega)
  have e4 := sw_l (i + 1)
  have e5 := sw_r (i + 1)
  have e6 : sw (i + 1) i = i := sw_o (by omega) (by omega)
  unfold can at h1 h2
  refine ⟨mul (mul (mul s (tw i)) (tw (i + 1))) (tw i) :: mul (tw i) (mul (tw (i + 1)) (mul (tw i) t)) :: B, ?_, ?_⟩
  · refine .step (.here (i := i + 1) ?_) (.step (.here (i := i) ?_) .refl)
    · simp only [can, mul, tw, e1, e2, e3]; omega
    · simp only [can, mul, tw, e1, e2, e3, e4, e5, e6]; omega
  · have q : ∀ r : Pm, mul (tw i) (mul (tw (i + 1)) (mul (tw i) r)) = mul (tw (i + 1)) (mul (tw i) (mul (tw (i + 1)) r)) := fun r => by
      have := congrArg (fun z => mul z r) (tw_near i)
      exact this
    rw [mul_assoc, mul_assoc, tw_near i, q, ← mul_assoc, ← mul_assoc]
    refine .step (.here (i := i) ?_) (.step (.here (i := i + 1) ?_) .refl)
    · simp only [can, mul, tw, e1, e2, e3, e4, e5, e6]; omega
    · simp only [can, mul, tw, e1, e2, e3, e4, e5, e6]; omega

/-- Two ways meet again. -/
theorem conf {A B C : List Pm} (h : Mv A B) (h' : Mv A C) : ∃ D, Mvs B D ∧ Mvs C D := by
  induction h generalizing C with
  | @here s t i B hi =>
    cases h' with
    | @here _ _ j _ hj =>
      rcases Nat.lt_trichotomy i j with hlt | rfl | hlt
      · by_cases hn : j = i + 1
        · subst hn; exact conf_near hi hj
        · refine ⟨_, .one (.here (can_far (.inl (by omega)) hj)), ?_⟩
          have e := tw_far (i := i) (j := j) (by omega)
          have e2 : mul (tw j) (mul (tw i) t) = mul (tw i) (mul (tw j) t) := congrArg (fun z => mul z t) e.symm
          rw [mul_assoc, e, ← mul_assoc, e2]
          exact .one (.here (can_far (.inr (by omega)) hi))
      · exact ⟨_, .refl, .refl⟩
      · by_cases hn : i = j + 1
        · subst hn
          obtain ⟨C, h1, h2⟩ := conf_near (B := B) hj hi
          exact ⟨C, h2, h1⟩
        · refine ⟨_, .one (.here (can_far (.inr (by omega)) hj)), ?_⟩
          have e := tw_far (i := j) (j := i) (by omega)
          have e2 : mul (tw j) (mul (tw i) t) = mul (tw i) (mul (tw j) t) := congrArg (fun z => mul z t) e
          rw [mul_assoc, ← e, ← mul_assoc, e2]
          exact .one (.here (can_far (.inl (by omega)) hi))
    | there h' =>
      cases h' with
      | here hj => exact ⟨_, .one (.there (.here (can_over1 hi hj))), .one (.here (can_over2 hi hj))⟩
      | there h' => exact ⟨_, .one (.there (.there h')), .one (.here hi)⟩
  | @there s A B h ih =>
    cases h' with
    | there h' =>
      obtain ⟨D, h1, h2⟩ := ih h'
      exact ⟨s :: D, h1.there, h2.there⟩
    | here hj =>
      cases h with
      | here hi => exact ⟨_, .one (.here (can_over2 hj hi)), .one (.there (.here (can_over1 hj hi)))⟩
      | there h => exact ⟨_, .one (.here hj), .one (.there (.there h))⟩


def cr : List Nat → Nat
  | [] => 0
  | x :: l => l.countP (fun y => decide (y < x)) + cr l

theorem cr_swap (A B : List Nat) {x y : Nat} (h : y < x) : cr (A ++ x :: y :: B) = cr (A ++ y :: x :: B) + 1 := by
  induction A with
  | nil =>
    simp only [List.nil_append, cr, List.countP_cons]
    have h1 : decide (y < x) = true := by simpa using h
    have h2 : decide (x < y) = false := by simp; omega
    rw [h1, h2]; simp; omega
  | cons a A ih =>
    simp only [List.cons_append, cr, ih]
    have : (A ++ x :: y :: B).countP (fun z => decide (z < a)) = (A ++ y :: x :: B).countP (fun z => decide (z < a)) :=
      List.Perm.countP_eq _ (List.Perm.append_left _ (List.Perm.swap _ _ _))
    omega

theorem sw_lt_iff {i a b : Nat} (h1 : ¬ (a = i ∧ b = i + 1)) (h2 : ¬ (b = i ∧ a = i + 1)) : sw i a < sw i b ↔ a < b := by
  constructor
  · intro h
    by_cases hab : a < b
    · exact hab
    · by_cases he : a = b
      · subst he; omega
      · have := sw_lt (i := i) (show b < a by omega) h2; omega
  · intro h; exact sw_lt h h1

theorem cr_map_same {i : Nat} : ∀ {l : List Nat}, (i ∉ l ∨ i + 1 ∉ l) → cr (l.map (sw i)) = cr l
  | [], _ => rfl
  | x :: l, h => by
    simp only [List.map_cons, cr, List.countP_map]
    rw [cr_map_same (l := l) (h.imp (fun h => fun hm => h (List.mem_cons_of_mem _ hm)) fun h => fun hm => h (List.mem_cons_of_mem _ hm))]
    congr 1
    refine List.countP_congr fun y hy => ?_
    simp only [Function.comp, decide_eq_true_eq]
    refine sw_lt_iff ?_ ?_
    · rintro ⟨rfl, rfl⟩; rcases h with h | h
      · exact h (List.mem_cons_of_mem _ hy)
      · exact h (List.mem_cons_self ..)
    · rintro ⟨rfl, rfl⟩; rcases h with h | h
      · exact h (List.mem_cons_self ..)
      · exact h (List.mem_cons_of_mem _ hy)

theorem countP_one {l : List Nat} (hn : l.Nodup) {z : Nat} (hz : z ∈ l) {P Q : Nat → Bool} (h : ∀ x ∈ l, x ≠ z → P x = Q x) (hP : P z = false) (hQ : Q z = true) : l.countP Q = l.countP P + 1 := by
  induction l with
  | nil => cases hz
  | cons x l ih =>
    obtain ⟨hx, hn⟩ := List.nodup_cons.1 hn
    rcases List.mem_cons.1 hz with rfl | hz
    · have : l.countP Q = l.countP P := List.countP_congr fun y hy => by
        rw [h y (List.mem_cons_of_mem _ hy) fun e => hx (e ▸ hy)]
      simp [List.countP_cons, hP, hQ, this]
    · have hne : x ≠ z := fun e => hx (e ▸ hz)
      have := ih hn hz (fun y hy hyz => h y (List.mem_cons_of_mem _ hy) hyz)
      rw [List.countP_cons, List.countP_cons, this, h x (List.mem_cons_self ..) hne]
      omega

theorem cr_map_next {i : Nat} : ∀ {l : List Nat} {a b : Nat}, l.Nodup → a < b → l[a]? = some i → l[b]? = some (i + 1) → cr (l.map (sw i)) = cr l + 1
  | [], _, _, _, _, h, _ => by simp at h
  | x :: l, a, b, hn, hab, ha, hb => by
    obtain ⟨hx, hn⟩ := List.nodup_cons.1 hn
    obtain ⟨b, rfl⟩ : ∃ b', b = b' + 1 := ⟨b - 1, by omega⟩
    rw [List.getElem?_cons_succ] at hb
    have hbm := List.mem_of_getElem? hb
    simp only [List.map_cons, cr, List.countP_map]
    cases a with
    | zero =>
      simp at ha
      subst ha
      rw [cr_map_same (.inl hx)]
      have := countP_one hn hbm (P := fun y => decide (y < x)) (Q := (fun y => decide (y < sw x x)) ∘ sw x) (fun y hy hne => by
        simp only [Function.comp, decide_eq_decide]
        have hyx : y ≠ x := fun e => hx (e ▸ hy)
        rw [sw_l, sw_o hyx hne]; omega) (by simp) (by simp [sw_l, sw_r])
      omega
    | succ a =>
      rw [List.getElem?_cons_succ] at ha
      have ham := List.mem_of_getElem? ha
      rw [cr_map_next hn (by omega) ha hb]
      have hxi : x ≠ i := fun e => hx (e ▸ ham)
      have hxj : x ≠ i + 1 := fun e => hx (e ▸ hbm)
      have : l.countP ((fun y => decide (y < sw i x)) ∘ sw i) = l.countP fun y => decide (y < x) := List.countP_congr fun y _ => by
        simp only [Function.comp, decide_eq_true_eq]
        exact sw_lt_iff (fun h => hxj h.2) (fun h => hxi h.1)
      omega

/-- Nothing from n on is moved. -/
def Sup (n : Nat) (p : Pm) : Prop := ∀ x, n ≤ x → p.f x = x
theorem Sup.lt {n : Nat} {p : Pm} (h : Sup n p) {x : Nat} (hx : x < n) : p.f x < n := by
  by_cases hl : p.f x < n
  · exact hl
  · have := h (p.f x) (by omega)
    have := p.inj this
    omega
theorem Sup.g {n : Nat} {p : Pm} (h : Sup n p) {x : Nat} (hx : n ≤ x) : p.g x = x := by
  rw [← h x hx, p.gf, h x hx]
theorem Sup.glt {n : Nat} {p : Pm} (h : Sup n p) {x : Nat} (hx : x < n) : p.g x < n := by
  by_cases hl : p.g x < n
  · exact hl
  · have := h (p.g x) (by omega)
    rw [p.fg] at this
    omega
theorem Sup.one (n : Nat) : Sup n one := fun _ _ => rfl
theorem Sup.tw {n i : Nat} (h : i + 1 < n) : Sup n (tw i) := fun x hx => sw_o (by omega) (by omega)
theorem Sup.mul {n : Nat} {p q : Pm} (hp : Sup n p) (hq : Sup n q) : Sup n (mul p q) := fun x hx => by
  show q.f (p.f x) = x
  rw [hp x hx, hq x hx]
theorem Sup.inv {n : Nat} {p : Pm} (hp : Sup n p) : Sup n (inv p) := fun _ hx => hp.g hx
theorem can_lt {n i : Nat} {s t : Pm} (ht : Sup n t) (h : can s t i) : i + 1 < n := by
  by_cases hl : i + 1 < n
  · exact hl
  · have h1 := ht (i + 1) (by omega)
    have h2 := h.1
    by_cases hi : i < n
    · have := ht.lt hi; omega
    · have := ht i (by omega); omega

def arr (n : Nat) (p : Pm) : List Nat := (List.range n).map p.f
theorem arr_len (n : Nat) (p : Pm) : (arr n p).length = n := by simp [arr]
theorem arr_get {n : Nat} {p : Pm} {x : Nat} (h : x < n) : (arr n p)[x]? = some (p.f x) := by simp [arr, h]
theorem nodup_map {f : Nat → Nat} (hf : ∀ x y, f x = f y → x = y) : ∀ {l : List Nat}, l.Nodup → (l.map f).Nodup
  | [], _ => List.nodup_nil
  | x :: l, h => by
    obtain ⟨hx, h⟩ := List.nodup_cons.1 h
    rw [List.map_cons, List.nodup_cons]
    refine ⟨fun hm => ?_, nodup_map hf h⟩
    obtain ⟨y, hy, e⟩ := List.mem_map.1 hm
    exact hx (hf _ _ e ▸ hy)
theorem arr_nodup (n : Nat) (p : Pm) : (arr n p).Nodup := nodup_map (fun _ _ => p.inj) List.nodup_range
theorem cr_right {n i : Nat} {s : Pm} (hs : Sup n s) (hi : i + 1 < n) (h : s.g i < s.g (i + 1)) : cr (arr n (mul s (tw i))) = cr (arr n s) + 1 := by
  have e : arr n (mul s (tw i)) = (arr n s).map (sw i) := by simp [arr, mul, tw, Function.comp_def]
  rw [e]
  exact cr_map_next (arr_nodup n s) h (by rw [arr_get (hs.glt (by omega)), s.fg]) (by rw [arr_get (hs.glt hi), s.fg])
theorem range_cut {n i : Nat} (h : i + 1 < n) : List.range n = List.range i ++ i :: (i + 1) :: (List.range (n - i - 2)).map (fun k => i + 2 + k) := by
  refine List.ext_getElem? fun j => ?_
  rw [List.getElem?_append, List.length_range]
  by_cases h1 : j < i
  · rw [if_pos h1, List.getElem?_range (by omega), List.getElem?_range h1]
  · rw [if_neg h1]
    obtain ⟨d, rfl⟩ : ∃ d, j = i + d := ⟨j - i, by omega⟩
    rw [show i + d - i = d by omega]
    rcases d with _ | _ | d
    · rw [List.getElem?_range (by omega)]; rfl
    · rw [List.getElem?_range (by omega)]; rfl
    · simp only [List.getElem?_cons_succ, List.getElem?_map]
      by_cases h2 : i + (d + 1 + 1) < n
      · rw [List.getElem?_range h2, List.getElem?_range (by omega)]; simp; omega
      · rw [List.getElem?_eq_none (by simp; omega), List.getElem?_eq_none (by simp; omega)]; rfl
theorem cr_left {n i : Nat} {t : Pm} (hi : i + 1 < n) (h : t.f (i + 1) < t.f i) : cr (arr n t) = cr (arr n (mul (tw i) t)) + 1 := by
  have e1 : arr n t = (List.range i).map t.f ++ t.f i :: t.f (i + 1) :: ((List.range (n - i - 2)).map (fun k => i + 2 + k)).map t.f := by rw [arr, range_cut hi]; simp
  have e2 : arr n (mul (tw i) t) = (List.range i).map t.f ++ t.f (i + 1) :: t.f i :: ((List.range (n - i - 2)).map (fun k => i + 2 + k)).map t.f := by
    rw [arr, range_cut hi, List.map_append, List.map_cons, List.map_cons]
    have e3 : (List.range i).map (mul (tw i) t).f = (List.range i).map t.f := List.map_congr_left fun x hx => by
      have := List.mem_range.1 hx
      show t.f (sw i x) = t.f x
      rw [sw_o (by omega) (by omega)]
    have e4 : ((List.range (n - i - 2)).map (fun k => i + 2 + k)).map (mul (tw i) t).f = ((List.range (n - i - 2)).map (fun k => i + 2 + k)).map t.f := List.map_congr_left fun x hx => by
      obtain ⟨k, _, rfl⟩ := List.mem_map.1 hx
      show t.f (sw i (i + 2 + k)) = t.f (i + 2 + k)
      rw [sw_o (by omega) (by omega)]
    rw [e3, e4]
    show _ ++ t.f (sw i i) :: t.f (sw i (i + 1)) :: _ = _
    rw [sw_l, sw_r]
  rw [e1, e2, cr_swap _ _ h]

def mu (n : Nat) : Nat → List Pm → Nat
  | _, [] => 0
  | k, p :: L => k * cr (arr n p) + mu n (k + 1) L
def Sups (n : Nat) (L : List Pm) : Prop := ∀ p ∈ L, Sup n p
theorem Sups.cons {n : Nat} {p : Pm} {L : List Pm} : Sups n (p :: L) ↔ Sup n p ∧ Sups n L :=
  ⟨fun h => ⟨h p (List.mem_cons_self ..), fun q hq => h q (List.mem_cons_of_mem _ hq)⟩, fun h q hq => (List.mem_cons.1 hq).elim (fun e => e ▸ h.1) (h.2 q)⟩
theorem Mv.sups {n : Nat} {A B : List Pm} (h : Mv A B) (hs : Sups n A) : Sups n B := by
  induction h with
  | here h =>
    obtain ⟨h1, h2⟩ := Sups.cons.1 hs
    obtain ⟨h2, h3⟩ := Sups.cons.1 h2
    have ht := Sup.tw (can_lt h2 h)
    exact Sups.cons.2 ⟨h1.mul ht, Sups.cons.2 ⟨ht.mul h2, h3⟩⟩
  | there _ ih =>
    obtain ⟨h1, h2⟩ := Sups.cons.1 hs
    exact Sups.cons.2 ⟨h1, ih h2⟩
theorem Mvs.sups {n : Nat} {A B : List Pm} (h : Mvs A B) (hs : Sups n A) : Sups n B := by
  induction h with
  | refl => exact hs
  | step a _ ih => exact ih (a.sups hs)
theorem Mv.mu {n : Nat} {A B : List Pm} (h : Mv A B) (hs : Sups n A) : ∀ k, mu n k A = mu n k B + 1 := by
  induction h with
  | @here s t i B h =>
    intro k
    obtain ⟨h1, h2⟩ := Sups.cons.1 hs
    obtain ⟨h2, h3⟩ := Sups.cons.1 h2
    have hi := can_lt h2 h
    simp only [Gar.mu]
    rw [cr_right h1 hi h.2, cr_left hi h.1]
    simp only [Nat.mul_add, Nat.add_mul, Nat.mul_one, Nat.one_mul]
    omega
  | there _ ih =>
    intro k
    obtain ⟨h1, h2⟩ := Sups.cons.1 hs
    have := ih h2 (k + 1)
    simp only [Gar.mu]
    omega
theorem rest_exists {n : Nat} : ∀ (m : Nat) (L : List Pm), Sups n L → mu n 0 L = m → ∃ D, Mvs L D ∧ Stl D := by
  intro m
  induction m with
  | zero =>
    intro L hs hm
    exact ⟨L, .refl, fun B hb => by have := hb.mu hs 0; omega⟩
  | succ m ih =>
    intro L hs hm
    by_cases h : Stl L
    · exact ⟨L, .refl, h⟩
    · unfold Stl at h
      simp only [Classical.not_forall, Classical.not_not] at h
      obtain ⟨B, hb⟩ := h
      obtain ⟨D, h1, h2⟩ := ih B (hb.sups hs) (by have := hb.mu hs 0; omega)
      exact ⟨D, .step hb h1, h2⟩
theorem rest_one {n : Nat} : ∀ (m : Nat) (L A B : List Pm), Sups n L → mu n 0 L ≤ m → Mvs L A → Stl A → Mvs L B → Stl B → A = B := by
  intro m
  induction m with
  | zero =>
    intro L A B hs hm h1 _ h2 _
    cases h1 with
    | refl => cases h2 with
      | refl => rfl
      | step a _ => have := a.mu hs 0; omega
    | step a _ => have := a.mu hs 0; omega
  | succ m ih =>
    intro L A B hs hm h1 hA h2 hB
    cases h1 with
    | refl => cases h2 with
      | refl => rfl
      | step a _ => exact absurd a (hA _)
    | step a h1 => cases h2 with
      | refl => exact absurd a (hB _)
      | step b h2 =>
        obtain ⟨D, d1, d2⟩ := conf a b
        obtain ⟨E, e1, e2⟩ := rest_exists (n := n) _ D (d1.sups (a.sups hs)) rfl
        have x1 := ih _ A E (a.sups hs) (by have := a.mu hs 0; omega) h1 hA (d1.trans e1) e2
        have x2 := ih _ B E (b.sups hs) (by have := b.mu hs 0; omega) h2 hB (d2.trans e1) e2
        rw [x1, x2]
theorem rest_unique {n : Nat} {L A B : List Pm} (hs : Sups n L) (h1 : Mvs L A) (hA : Stl A) (h2 : Mvs L B) (hB : Stl B) : A = B := rest_one _ L A B hs (Nat.le_refl _) h1 hA h2 hB


def Pair (s t : Pm) : Prop := ∀ i, ¬ can s t i
theorem stl_cons {s t : Pm} {B : List Pm} : Stl (s :: t :: B) ↔ Pair s t ∧ Stl (t :: B) := by
  constructor
  · intro h; exact ⟨fun i hi => h _ (.here hi), h.tail⟩
  · rintro ⟨h1, h2⟩ C hc
    cases hc with
    | here hi => exact h1 _ hi
    | there hc => exact h2 _ hc
theorem stl_nil : Stl [] := fun _ h => by cases h
theorem stl_one (s : Pm) : Stl [s] := fun _ h => by
  cases h with
  | there h => cases h
theorem Stl.pair {s t : Pm} {B : List Pm} (h : Stl (s :: t :: B)) : Pair s t := (stl_cons.1 h).1

/-- What moves from t to s: b; and which strands cross then. -/
def Dv (s t s' t' : Pm) : Prop := ∃ b : Pm, s' = mul s b ∧ t = mul b t' ∧ (∀ p q, p < q → b.f q < b.f p → t.f q < t.f p) ∧ (∀ p q, p < q → s.f q < s.f p → s'.f q < s'.f p) ∧ (∀ p q, p < q → b.f q < b.f p → s.g p < s.g q)
theorem Dv.refl (s t : Pm) : Dv s t s t := ⟨one, rfl, rfl, fun p q h h' => by simp [one] at h'; omega, fun _ _ _ h => h, fun p q h h' => by simp [one] at h'; omega⟩
theorem Dv.step {s t : Pm} {i : Nat} (h : can s t i) : Dv s t (mul s (tw i)) (mul (tw i) t) := by
  refine ⟨tw i, rfl, ?_, ?_, ?_, ?_⟩
  · rw [← mul_assoc, tw_tw, one_mul]
  · intro p q hpq hb
    by_cases hc : p = i ∧ q = i + 1
    · obtain ⟨rfl, rfl⟩ := hc; exact h.1
    · have := sw_lt (i := i) hpq hc
      simp only [tw] at hb
      omega
  · intro p q hpq hs
    refine sw_lt hs fun ⟨h1, h2⟩ => ?_
    have e1 := s.gf q
    have e2 := s.gf p
    rw [h1] at e1
    rw [h2] at e2
    have := h.2
    omega
  · intro p q hpq hb
    by_cases hc : p = i ∧ q = i + 1
    · obtain ⟨rfl, rfl⟩ := hc; exact h.2
    · have := sw_lt (i := i) hpq hc
      simp only [tw] at hb
      omega
theorem Dv.trans {s t s1 t1 s2 t2 : Pm} (h : Dv s t s1 t1) (h' : Dv s1 t1 s2 t2) : Dv s t s2 t2 := by
  obtain ⟨b, rfl, rfl, c1, c2, c3⟩ := h
  obtain ⟨d, rfl, rfl, e1, e2, e3⟩ := h'
  refine ⟨mul b d, rfl, rfl, ?_, fun p q hpq h => e2 p q hpq (c2 p q hpq h), ?_⟩
  · intro p q hpq hc
    rcases Nat.lt_trichotomy (b.f p) (b.f q) with h | h | h
    · exact e1 _ _ h hc
    · have := b.inj h; omega
    · exact c1 p q hpq h
  · intro p q hpq hc
    rcases Nat.lt_trichotomy (b.f p) (b.f q) with h | h | h
    · have := e3 _ _ h hc
      simp only [mul, b.gf] at this
      exact this
    · have := b.inj h; omega
    · exact c3 p q hpq h
theorem Mvs.dv {s t : Pm} {L : List Pm} (h : Mvs [s, t] L) : ∃ s' t', L = [s', t'] ∧ Dv s t s' t' := by
  generalize hA : [s, t] = A at h
  induction h generalizing s t with
  | refl => exact ⟨s, t, hA.symm, Dv.refl s t⟩
  | step a _ ih =>
    subst hA
    cases a with
    | here hi =>
      obtain ⟨s', t', e, h⟩ := ih rfl
      exact ⟨s', t', e, (Dv.step hi).trans h⟩
    | there a => cases a with
      | there a => cases a

theorem switch {f : Nat → Nat} {v : Nat} : ∀ (d p : Nat), v < f p → f (p + d + 1) ≤ v → ∃ k, p ≤ k ∧ k < p + d + 1 ∧ v < f k ∧ f (k + 1) ≤ v
  | 0, p, h1, h2 => ⟨p, Nat.le_refl _, by omega, h1, by simpa using h2⟩
  | d + 1, p, h1, h2 => by
    by_cases h : f (p + 1) ≤ v
    · exact ⟨p, Nat.le_refl _, by omega, h1, h⟩
    · obtain ⟨k, a, b, c, e⟩ := switch (f := f) (v := v) d (p + 1) (by omega) (by rw [show p + 1 + d + 1 = p + (d + 1) + 1 by omega]; exact h2)
      exact ⟨k, by omega, by omega, c, e⟩

/-- Settling a pair leaves the pair behind it settled. -/
theorem domino {x y u y' u' x'' y'' : Pm} (h : Pair x y) (h1 : Dv y u y' u') (hp : Pair y' u') (h2 : Dv x y' x'' y'') : Pair y'' u' := by
  intro i hi
  obtain ⟨b, rfl, rfl, c1, c2, c3⟩ := h1
  obtain ⟨a, rfl, ey, e1, e2, e3⟩ := h2
  obtain ⟨z, hz⟩ : ∃ z, mul y b = z := ⟨_, rfl⟩
  have hzf : ∀ q, z.f q = b.f (y.f q) := fun q => by rw [← hz]; rfl
  rw [hz] at hp e1 ey c2
  have hni := hp i
  unfold can at hni hi
  have hlt : z.g (i + 1) < z.g i := by
    rcases Nat.lt_trichotomy (z.g i) (z.g (i + 1)) with h | h | h
    · exact absurd ⟨hi.1, h⟩ hni
    · have := z.ginj h; omega
    · exact h
  obtain ⟨p, hp'⟩ : ∃ p, z.g (i + 1) = p := ⟨_, rfl⟩
  obtain ⟨q, hq'⟩ : ∃ q, z.g i = q := ⟨_, rfl⟩
  have hzp : z.f p = i + 1 := by rw [← hp', z.fg]
  have hzq : z.f q = i := by rw [← hq', z.fg]
  rw [hp', hq'] at hlt
  have haz : ∀ r, y''.f (a.f r) = z.f r := fun r => by rw [ey]; rfl
  have hag : ∀ r, a.f r = y''.g (z.f r) := fun r => by rw [← haz r, y''.gf]
  have ha : a.f q < a.f p := by rw [hag, hag, hzp, hzq]; exact hi.2
  have hy : y.f q < y.f p := by
    rcases Nat.lt_trichotomy (y.f p) (y.f q) with h | h | h
    · have e4 := c1 (y.f p) (y.f q) h (by rw [← hzf, ← hzf, hzp, hzq]; omega)
      simp only [mul] at e4
      rw [← hzf, ← hzf, hzp, hzq] at e4
      have := hi.1
      omega
    · have := y.inj h; omega
    · exact h
  obtain ⟨d, hd⟩ : ∃ d, q = p + d + 1 := ⟨q - p - 1, by omega⟩
  obtain ⟨k, k1, k2, k3, k4⟩ := switch (f := z.f) (v := i) d p (by omega) (by rw [← hd, hzq]; exact Nat.le_refl _)
  have up : ∀ w : Pm, (∀ r s, r < s → w.f s < w.f r → z.f s < z.f r) → w.f p ≤ w.f k ∧ w.f (k + 1) ≤ w.f q := by
    intro w hw
    constructor
    · by_cases hk : k = p
      · rw [hk]; exact Nat.le_refl _
      · by_cases hc : w.f k < w.f p
        · have := hw p k (by omega) hc; omega
        · omega
    · by_cases hk : k + 1 = q
      · rw [hk]; exact Nat.le_refl _
      · by_cases hc : w.f q < w.f (k + 1)
        · have := hw (k + 1) q (by omega) hc; omega
        · omega
  have ua := up a e1
  have uy := up y c2
  exact h k ⟨by omega, e3 k (k + 1) (by omega) (by omega)⟩

/-- Once through the pairs, from the last one on. -/
inductive Pass : List Pm → List Pm → Prop
  | nil : Pass [] []
  | one (s : Pm) : Pass [s] [s]
  | more {x y x' y' : Pm} {z : Pm} {L R : List Pm} : Pass (z :: L) (y :: R) → Mvs [x, y] [x', y'] → Pair x' y' → Pass (x :: z :: L) (x' :: y' :: R)
theorem Pass.mvs {L R : List Pm} (h : Pass L R) : Mvs L R := by
  induction h with
  | nil => exact .refl
  | one s => exact .refl
  | more _ h _ ih => exact ih.there.trans (h.append _)
theorem pair_dv {s t s' t' : Pm} (h : Mvs [s, t] [s', t']) : Dv s t s' t' := by
  obtain ⟨a, b, e, h⟩ := h.dv
  cases e
  exact h
theorem Pass.stl {L R : List Pm} (h : Pass L R) {M : List Pm} {s : Pm} (hL : L = M ++ [s]) (hM : Stl M) : Stl R := by
  induction h generalizing M with
  | nil => exact stl_nil
  | one s => exact stl_one s
  | @more x y x' y' z L R h h2 h3 ih =>
    cases M with
    | nil => simp at hL
    | cons m M =>
      simp only [List.cons_append, List.cons.injEq] at hL
      obtain ⟨rfl, hL⟩ := hL
      have hR := ih hL hM.tail
      cases R with
      | nil => exact stl_cons.2 ⟨h3, stl_one _⟩
      | cons u' R =>
        refine stl_cons.2 ⟨h3, stl_cons.2 ⟨?_, hR.tail⟩⟩
        -- the pair behind it
        cases h with
        | @more _ u _ _ z2 L2 R2 hh hh2 hh3 =>
          cases M with
          | nil => simp at hL
          | cons m2 M =>
            simp only [List.cons_append, List.cons.injEq] at hL
            obtain ⟨rfl, _⟩ := hL
            exact domino hM.pair (pair_dv hh2) hh3 (pair_dv h2)

/-! ### The half twist -/
def hf (n x : Nat) : Nat := if x < n then n - 1 - x else x
theorem hf_hf (n x : Nat) : hf n (hf n x) = x := by unfold hf; (repeat' split) <;> omega
def half (n : Nat) : Pm := ⟨hf n, hf n, hf_hf n, hf_hf n⟩
theorem Sup.half (n : Nat) : Sup n (half n) := fun x hx => by simp only [Gar.half, hf]; rw [if_neg (by omega)]
def flip (n : Nat) (p : Pm) : Pm := mul (half n) (mul p (half n))
theorem half_half (n : Nat) : mul (half n) (half n) = one := Pm.ext fun x => hf_hf n x
theorem flip_flip (n : Nat) (p : Pm) : flip n (flip n p) = p := Pm.ext fun x => by simp only [flip, mul, half, hf_hf]
theorem flip_one (n : Nat) : flip n one = one := by unfold flip; rw [one_mul, half_half]
theorem flip_half (n : Nat) : flip n (half n) = half n := by unfold flip; rw [half_half, mul_one]
theorem flip_mul (n : Nat) (p q : Pm) : flip n (mul p q) = mul (flip n p) (flip n q) := Pm.ext fun x => by simp only [flip, mul, half, hf_hf]
theorem Sup.flip {n : Nat} {p : Pm} (h : Sup n p) : Sup n (flip n p) := (Sup.half n).mul (h.mul (Sup.half n))
theorem flip_tw {n i : Nat} (h : i + 1 < n) : flip n (tw i) = tw (n - 2 - i) := Pm.ext fun x => by
  simp only [flip, mul, half, tw, hf, sw]; (repeat' split) <;> omega
theorem half_mul {n : Nat} (p : Pm) : mul (half n) p = mul (flip n p) (half n) := Pm.ext fun x => by simp only [flip, mul, half, hf_hf]
theorem hf_lt {n a b : Nat} (hb : b < n) (h : a < b) : hf n b < hf n a := by unfold hf; (repeat' split) <;> omega
theorem can_flip {n i : Nat} {s t : Pm} (hs : Sup n s) (ht : Sup n t) (h : can s t i) : can (flip n s) (flip n t) (n - 2 - i) := by
  have hi := can_lt ht h
  have e1 : hf n (n - 2 - i + 1) = i := by unfold hf; rw [if_pos (by omega)]; omega
  have e2 : hf n (n - 2 - i) = i + 1 := by unfold hf; rw [if_pos (by omega)]; omega
  constructor
  · show hf n (t.f (hf n (n - 2 - i + 1))) < hf n (t.f (hf n (n - 2 - i)))
    rw [e1, e2]
    exact hf_lt (ht.lt (by omega)) h.1
  · show hf n (s.g (hf n (n - 2 - i))) < hf n (s.g (hf n (n - 2 - i + 1)))
    rw [e1, e2]
    exact hf_lt (hs.glt (by omega)) h.2
def flipL (n : Nat) (L : List Pm) : List Pm := L.map (flip n)
theorem Sups.flip {n : Nat} {L : List Pm} (h : Sups n L) : Sups n (flipL n L) := fun p hp => by
  obtain ⟨q, hq, rfl⟩ := List.mem_map.1 hp
  exact (h q hq).flip
theorem flipL_flipL (n : Nat) (L : List Pm) : flipL n (flipL n L) = L := by
  unfold flipL
  rw [List.map_map]
  exact (List.map_congr_left fun p _ => flip_flip n p).trans (List.map_id L)
theorem Mv.flip {n : Nat} {A B : List Pm} (h : Mv A B) (hs : Sups n A) : Mv (flipL n A) (flipL n B) := by
  induction h with
  | @here s t i B h =>
    obtain ⟨h1, h2⟩ := Sups.cons.1 hs
    obtain ⟨h2, h3⟩ := Sups.cons.1 h2
    have hc := can_flip h1 h2 h
    have hi := can_lt h2 h
    show Mv (Gar.flip n s :: Gar.flip n t :: flipL n B) (Gar.flip n (mul s (tw i)) :: Gar.flip n (mul (tw i) t) :: flipL n B)
    rw [flip_mul, flip_mul, flip_tw hi]
    exact .here hc
  | there _ ih => exact .there (ih (Sups.cons.1 hs).2)
theorem Mvs.flip {n : Nat} {A B : List Pm} (h : Mvs A B) (hs : Sups n A) : Mvs (flipL n A) (flipL n B) := by
  induction h with
  | refl => exact .refl
  | step a _ ih => exact .step (a.flip hs) (ih (a.sups hs))
theorem Stl.flip {n : Nat} {A : List Pm} (h : Stl A) (hs : Sups n A) : Stl (flipL n A) := fun B hb => by
  have := hb.flip hs.flip
  rw [flipL_flipL] at this
  exact h _ this

/-- Nothing is before nothing, and the half twist is behind nothing. -/
theorem pair_half {n : Nat} {t : Pm} (ht : Sup n t) : Pair (half n) t := fun i hi => by
  have h1 := can_lt ht hi
  have h2 := hi.2
  have := hf_lt (n := n) h1 (show i < i + 1 by omega)
  simp only [half] at h2
  omega
theorem pair_one (s : Pm) : Pair s one := fun i hi => by
  have := hi.1
  simp only [one, id] at this
  omega
theorem rises {n : Nat} {t : Pm} (ht : Sup n t) (h : ∀ i, i + 1 < n → t.f i < t.f (i + 1)) : t = one := by
  have h2 : ∀ k, ∀ i, i + k < n → t.f i + k ≤ t.f (i + k) := by
    intro k
    induction k with
    | zero => intro i _; exact Nat.le_refl _
    | succ k ih =>
      intro i hi
      have := ih i (by omega)
      have := h (i + k) (by omega)
      rw [show i + (k + 1) = i + k + 1 by omega]
      omega
  refine Pm.ext fun x => ?_
  by_cases hx : x < n
  · have h3 := h2 x 0 (by omega)
    rw [Nat.zero_add] at h3
    have h4 := h2 (n - 1 - x) x (by omega)
    have h5 := ht.lt (x := x + (n - 1 - x)) (by omega)
    show t.f x = x
    omega
  · exact ht x (by omega)
/-- What nothing moves out of, behind nothing: nothing. -/
theorem pair_none {n : Nat} {t : Pm} (ht : Sup n t) (h : Pair one t) : t = one := rises ht fun i _ => by
  have := h i
  unfold can at this
  simp only [one, id] at this
  rcases Nat.lt_trichotomy (t.f i) (t.f (i + 1)) with h | h | h
  · exact h
  · have := t.inj h; omega
  · exact absurd ⟨h, by omega⟩ this
theorem pair_full {n : Nat} {s : Pm} (hs : Sup n s) (h : Pair s (half n)) : s = half n := by
  have h1 : mul (inv s) (half n) = one := rises (hs.inv.mul (Sup.half n)) fun i hi => by
    have h2 := h i
    unfold can at h2
    have h3 : (half n).f (i + 1) < (half n).f i := hf_lt hi (by omega)
    have h4 : s.g (i + 1) < s.g i := by
      rcases Nat.lt_trichotomy (s.g i) (s.g (i + 1)) with h | h | h
      · exact absurd ⟨h3, h⟩ h2
      · have := s.ginj h; omega
      · exact h
    exact hf_lt (hs.glt (by omega)) h4
  calc s = mul s (mul (half n) (half n)) := by rw [half_half, mul_one]
    _ = mul s (mul (mul (half n) (mul (inv s) s)) (half n)) := by rw [inv_mul, mul_one]
    _ = half n := by
      have h5 : inv s = half n := by
        have := congrArg (fun z => mul z (half n)) h1
        rw [mul_assoc, half_half, mul_one, one_mul] at this
        exact this
      have h6 : mul s (half n) = one := by rw [← h5, mul_inv]
      rw [inv_mul, mul_one, half_half, mul_one]
      have := congrArg (fun z => mul z (half n)) h6
      rw [mul_assoc, half_half, mul_one, one_mul] at this
      exact this


/-- All letters of s move, if the crossings add up. -/
theorem absorb {n : Nat} {x s : Pm} (hx : Sup n x) (hs : Sup n s) (h : ∀ p q, p < q → s.f q < s.f p → x.g p < x.g q) : Mvs [x, s] [mul x s, one] := by
  have hS : Sups n [x, s] := Sups.cons.2 ⟨hx, Sups.cons.2 ⟨hs, fun _ h => by cases h⟩⟩
  obtain ⟨D, h1, h2⟩ := rest_exists _ _ hS rfl
  obtain ⟨x', t', rfl, hd⟩ := h1.dv
  have ht' := (Sups.cons.1 (Sups.cons.1 (h1.sups hS)).2).1
  obtain ⟨b, rfl, rfl, c1, c2, c3⟩ := hd
  have hp := h2.pair
  have e : t' = one := rises ht' fun i hi => by
    rcases Nat.lt_trichotomy (t'.f i) (t'.f (i + 1)) with hc | hc | hc
    · exact hc
    · have := t'.inj hc; omega
    · exfalso
      have hn := hp i
      unfold can at hn
      have hlt : x.g (b.g (i + 1)) < x.g (b.g i) := by
        rcases Nat.lt_trichotomy (x.g (b.g i)) (x.g (b.g (i + 1))) with h | h | h
        · exact absurd ⟨hc, h⟩ hn
        · have := b.ginj (x.ginj h); omega
        · exact h
      rcases Nat.lt_trichotomy (b.g (i + 1)) (b.g i) with h | h' | h'
      · have := c1 _ _ h (by rw [b.fg, b.fg]; omega)
        simp only [mul, b.fg] at this
        omega
      · have := b.ginj h'; omega
      · have := h _ _ h' (by simp only [mul, b.fg]; exact hc)
        omega
  subst e
  exact h1
theorem one_move {n : Nat} {s : Pm} (hs : Sup n s) : Mvs [one, s] [s, one] := absorb (Sup.one n) hs fun _ _ h _ => h
theorem falls {n : Nat} {s : Pm} (hs : Sup n s) (h : ∀ i, i + 1 < n → s.g (i + 1) < s.g i) : s = half n := by
  refine pair_full hs fun i hi => ?_
  have := h i (can_lt (Sup.half n) hi)
  have := hi.2
  omega
/-- The half twist moves to the front. -/
theorem half_move {n : Nat} {s : Pm} (hs : Sup n s) : Mvs [s, half n] [half n, flip n s] := by
  have hS : Sups n [s, half n] := Sups.cons.2 ⟨hs, Sups.cons.2 ⟨Sup.half n, fun _ h => by cases h⟩⟩
  obtain ⟨D, h1, h2⟩ := rest_exists _ _ hS rfl
  obtain ⟨x', t', rfl, hd⟩ := h1.dv
  have hx' := (Sups.cons.1 (h1.sups hS)).1
  obtain ⟨b, rfl, e2, c1, c2, c3⟩ := hd
  have hp := h2.pair
  have hf2 : ∀ x, t'.f (b.f x) = hf n x := fun x => by
    have := congrArg (fun z => z.f x) e2
    exact this.symm
  have e : mul s b = half n := falls hx' fun i hi => by
    rcases Nat.lt_trichotomy ((mul s b).g i) ((mul s b).g (i + 1)) with hc | hc | hc
    · exfalso
      have hn := hp i
      unfold can at hn
      have hlt : t'.f i < t'.f (i + 1) := by
        rcases Nat.lt_trichotomy (t'.f i) (t'.f (i + 1)) with h | h | h
        · exact h
        · have := t'.inj h; omega
        · exact absurd ⟨h, hc⟩ hn
      have k1 := hf2 (b.g i)
      have k2 := hf2 (b.g (i + 1))
      rw [b.fg] at k1 k2
      have hb : Sup n b := fun x hx => by
        have e3 : b.f (s.f x) = x := hx' x hx
        rwa [hs x hx] at e3
      have hQ : b.g (i + 1) < b.g i := by
        rw [k1, k2] at hlt
        rcases Nat.lt_trichotomy (b.g (i + 1)) (b.g i) with h | h | h
        · exact h
        · have := b.ginj h; omega
        · have := hf_lt (hb.glt hi) h; omega
      have := c3 _ _ hQ (by rw [b.fg, b.fg]; omega)
      simp only [mul] at hc
      omega
    · have := (mul s b).ginj hc; omega
    · exact hc
  have e3 : t' = flip n s := by
    have h3 : t' = mul (inv b) (half n) := by rw [e2, ← mul_assoc, inv_mul, one_mul]
    have h4 : inv b = mul (half n) s := by
      have h5 : mul (mul s b) (mul (inv b) (half n)) = mul (half n) (mul (inv b) (half n)) := by rw [e]
      have h6 : mul (half n) (mul s (mul b (inv b))) = mul (half n) (mul (half n) (inv b)) := by rw [← mul_assoc s, e]
      rw [mul_inv, mul_one, ← mul_assoc (half n) (half n), half_half, one_mul] at h6
      exact h6.symm
    rw [h3, h4]; rfl
  rw [e, e3] at h1
  exact h1
theorem push {n : Nat} : ∀ {L : List Pm}, Sups n L → Mvs (L ++ [half n]) (half n :: flipL n L)
  | [], _ => .refl
  | s :: L, h => by
    obtain ⟨h1, h2⟩ := Sups.cons.1 h
    exact ((push h2).there (s := s)).trans ((half_move h1).append (flipL n L))

theorem stl_snoc : ∀ {D : List Pm}, Stl D → Stl (D ++ [one])
  | [], _ => stl_one _
  | [s], _ => stl_cons.2 ⟨pair_one s, stl_one _⟩
  | s :: t :: D, h => stl_cons.2 ⟨h.pair, stl_snoc (D := t :: D) h.tail⟩
theorem stl_half {n : Nat} {D : List Pm} (hs : Sups n D) (h : Stl D) : Stl (half n :: D) := by
  cases D with
  | nil => exact stl_one _
  | cons t D => exact stl_cons.2 ⟨pair_half (Sups.cons.1 hs).1, h⟩

def Cln (n : Nat) (M : List Pm) : Prop := ∀ p ∈ M, p ≠ half n ∧ p ≠ one
/-- What is at rest: half twists, what is neither, nothing. -/
def whole (n k : Nat) (M : List Pm) (j : Nat) : List Pm := List.replicate k (half n) ++ (M ++ List.replicate j one)
theorem whole_exists {n : Nat} : ∀ {D : List Pm}, Sups n D → Stl D → ∃ k M j, D = whole n k M j ∧ Cln n M
  | [], _, _ => ⟨0, [], 0, rfl, fun _ h => by cases h⟩
  | p :: D, hs, h => by
    obtain ⟨h1, h2⟩ := Sups.cons.1 hs
    obtain ⟨k, M, j, e, hc⟩ := whole_exists h2 h.tail
    by_cases hp : p = half n
    · exact ⟨k + 1, M, j, by rw [e, hp]; simp [whole, List.replicate_succ], hc⟩
    · have hk : k = 0 := by
        cases k with
        | zero => rfl
        | succ k =>
          rw [whole, List.replicate_succ, List.cons_append] at e
          subst e
          exact absurd (pair_full h1 h.pair) hp
      subst hk
      by_cases hq : p = one
      · have hM : M = [] := by
          cases M with
          | nil => rfl
          | cons m M =>
            simp only [whole, List.replicate_zero, List.nil_append, List.cons_append] at e
            subst e
            subst hq
            have := pair_none (Sups.cons.1 h2).1 h.pair
            exact absurd this (hc m (List.mem_cons_self ..)).2
        subst hM
        exact ⟨0, [], j + 1, by rw [e, hq]; simp [whole, List.replicate_succ], hc⟩
      · refine ⟨0, p :: M, j, by rw [e]; simp [whole], fun q hq' => ?_⟩
        rcases List.mem_cons.1 hq' with rfl | hq'
        · exact ⟨hp, hq⟩
        · exact hc q hq'
theorem half_ne {n : Nat} (hn : 2 ≤ n) : half n ≠ one := fun e => by
  have := congrArg (fun z => z.f 0) e
  simp only [half, one, hf, id] at this
  rw [if_pos (by omega)] at this
  omega
open Classical in
theorem whole_parts {n k j : Nat} {M : List Pm} (hn : 2 ≤ n) (hc : Cln n M) : (whole n k M j).filter (fun p => decide (p ≠ half n ∧ p ≠ one)) = M ∧ (whole n k M j).countP (fun p => decide (p = half n)) = k := by
  have h1 := half_ne hn
  constructor
  · unfold whole
    rw [List.filter_append, List.filter_append, List.filter_replicate, List.filter_replicate, if_neg (by simp), if_neg (by simp), List.nil_append, List.append_nil]
    exact List.filter_eq_self.2 fun p hp => by simpa using hc p hp
  · unfold whole
    rw [List.countP_append, List.countP_append, List.countP_replicate, List.countP_replicate, if_pos (by simp), if_neg (by simpa using fun e => h1 e.symm)]
    have : M.countP (fun p => decide (p = half n)) = 0 := List.countP_eq_zero.2 fun p hp => by simpa using (hc p hp).1
    omega
theorem whole_inj {n k j k' j' : Nat} {M M' : List Pm} (hn : 2 ≤ n) (hc : Cln n M) (hc' : Cln n M') (e : whole n k M j = whole n k' M' j') : k = k' ∧ M = M' := by
  have h1 := whole_parts (k := k) (j := j) hn hc
  have h2 := whole_parts (k := k') (j := j') hn hc'
  rw [e] at h1
  exact ⟨h1.2.symm.trans h2.2, h1.1.symm.trans h2.1⟩

/-- (pw, M) is the normal form of (P, L). -/
def Nf (n : Nat) (a : Int × List Pm) (r : Int × List Pm) : Prop := Sups n a.2 ∧ ∃ k j, Mvs a.2 (whole n k r.2 j) ∧ Stl (whole n k r.2 j) ∧ Cln n r.2 ∧ r.1 = a.1 + (k : Int)
theorem Nf.exists {n : Nat} (a : Int × List Pm) (h : Sups n a.2) : ∃ r, Nf n a r := by
  obtain ⟨D, h1, h2⟩ := rest_exists _ _ h rfl
  obtain ⟨k, M, j, rfl, hc⟩ := whole_exists (h1.sups h) h2
  exact ⟨(a.1 + (k : Int), M), h, k, j, h1, h2, hc, rfl⟩
theorem Nf.one {n : Nat} (hn : 2 ≤ n) {a r r' : Int × List Pm} (h : Nf n a r) (h' : Nf n a r') : r = r' := by
  obtain ⟨hs, k, j, h1, h2, h3, h4⟩ := h
  obtain ⟨_, k', j', g1, g2, g3, g4⟩ := h'
  obtain ⟨rfl, e⟩ := whole_inj hn h3 g3 (rest_unique hs h1 h2 g1 g2)
  exact Prod.ext (by rw [h4, g4]) e
theorem Nf.of_mvs {n : Nat} {P : Int} {L L' : List Pm} {r : Int × List Pm} (hs : Sups n L) (h : Mvs L L') : Nf n (P, L) r ↔ Nf n (P, L') r := by
  constructor
  · rintro ⟨_, k, j, h1, h2, h3, h4⟩
    obtain ⟨D, d1, d2⟩ := rest_exists (n := n) _ L' (h.sups hs) rfl
    have := rest_unique hs h1 h2 (h.trans d1) d2
    subst this
    exact ⟨h.sups hs, k, j, d1, h2, h3, h4⟩
  · rintro ⟨_, k, j, h1, h2, h3, h4⟩
    exact ⟨hs, k, j, h.trans h1, h2, h3, h4⟩
theorem Nf.half {n : Nat} (hn : 2 ≤ n) {P : Int} {L : List Pm} {r : Int × List Pm} : Nf n (P, Gar.half n :: L) r ↔ Nf n (P + 1, L) r := by
  have key : ∀ r, Nf n (P + 1, L) r → Nf n (P, Gar.half n :: L) r := by
    rintro r ⟨hs, k, j, h1, h2, h3, h4⟩
    have e : whole n (k + 1) r.2 j = Gar.half n :: whole n k r.2 j := by simp [whole, List.replicate_succ]
    exact ⟨Sups.cons.2 ⟨Sup.half n, hs⟩, k + 1, j, by rw [e]; exact h1.there, by rw [e]; exact stl_half (h1.sups hs) h2, h3, by rw [h4]; simp; omega⟩
  refine ⟨fun h => ?_, key r⟩
  obtain ⟨r', h'⟩ := Nf.exists (n := n) (P + 1, L) (Sups.cons.1 h.1).2
  rw [h.one hn (key _ h')]
  exact h'
theorem Nf.snoc {n : Nat} (hn : 2 ≤ n) {P : Int} {L : List Pm} {r : Int × List Pm} : Nf n (P, L ++ [Gar.one]) r ↔ Nf n (P, L) r := by
  have key : ∀ r, Nf n (P, L) r → Nf n (P, L ++ [Gar.one]) r := by
    rintro r ⟨hs, k, j, h1, h2, h3, h4⟩
    have e : whole n k r.2 (j + 1) = whole n k r.2 j ++ [Gar.one] := by simp [whole, List.replicate_succ']
    refine ⟨fun p hp => ?_, k, j + 1, by rw [e]; exact h1.append _, by rw [e]; exact stl_snoc h2, h3, h4⟩
    rcases List.mem_append.1 hp with hp | hp
    · exact hs p hp
    · rw [List.mem_singleton.1 hp]; exact Sup.one n
  refine ⟨fun h => ?_, key r⟩
  obtain ⟨r', h'⟩ := Nf.exists (n := n) (P, L) fun p hp => h.1 p (List.mem_append_left _ hp)
  rw [h.one hn (key _ h')]
  exact h'

/-- The same braid. -/
inductive Eqv (n : Nat) : Int × List Pm → Int × List Pm → Prop
  | refl (a) : Eqv n a a
  | symm {a b} : Eqv n a b → Eqv n b a
  | trans {a b c} : Eqv n a b → Eqv n b c → Eqv n a c
  | mv {P L L'} : Sups n L → Mvs L L' → Eqv n (P, L) (P, L')
  | half (P L) : Eqv n (P, Gar.half n :: L) (P + 1, L)
  | snoc (P L) : Eqv n (P, L ++ [one]) (P, L)
theorem Eqv.nf {n : Nat} (hn : 2 ≤ n) {a b : Int × List Pm} (h : Eqv n a b) (r) : Nf n a r ↔ Nf n b r := by
  induction h with
  | refl a => exact Iff.rfl
  | symm _ ih => exact ih.symm
  | trans _ _ i1 i2 => exact i1.trans i2
  | mv hs h => exact Nf.of_mvs hs h
  | half P L => exact Nf.half hn
  | snoc P L => exact Nf.snoc hn

/-- One letter more. -/
def step (n : Nat) (a : Int × List Pm) (z : Int) : Int × List Pm :=
  if 0 < z then (a.1, a.2 ++ [tw (z.natAbs - 1)]) else (a.1 - 1, flipL n a.2 ++ [mul (half n) (tw (z.natAbs - 1))])
theorem step_pos (n : Nat) (a : Int × List Pm) (i : Nat) : step n a ((i : Int) + 1) = (a.1, a.2 ++ [tw i]) := by
  have e0 : ((i : Int) + 1).natAbs - 1 = i := by omega
  unfold step; rw [if_pos (by omega), e0]
theorem step_neg (n : Nat) (a : Int × List Pm) (i : Nat) : step n a (-((i : Int) + 1)) = (a.1 - 1, flipL n a.2 ++ [mul (half n) (tw i)]) := by
  have e1 : (-((i : Int) + 1)).natAbs - 1 = i := by omega
  unfold step; rw [if_neg (by omega), e1]
def Let (n : Nat) (z : Int) : Prop := z ≠ 0 ∧ -(n : Int) < z ∧ z < n
theorem sups_one {n : Nat} {L : List Pm} {s : Pm} : Sups n (L ++ [s]) ↔ Sups n L ∧ Sup n s :=
  ⟨fun h => ⟨fun p hp => h p (List.mem_append_left _ hp), h s (by simp)⟩, fun h p hp => by
    rcases List.mem_append.1 hp with hp | hp
    · exact h.1 p hp
    · rw [List.mem_singleton.1 hp]; exact h.2⟩
theorem step_sups {n : Nat} {a : Int × List Pm} {z : Int} (hz : Let n z) (h : Sups n a.2) : Sups n (step n a z).2 := by
  obtain ⟨h1, h2, h3⟩ := hz
  unfold step
  split
  · exact sups_one.2 ⟨h, Sup.tw (by omega)⟩
  · exact sups_one.2 ⟨h.flip, (Sup.half n).mul (Sup.tw (by omega))⟩
theorem Eqv.snoc_more {n : Nat} {P : Int} {L : List Pm} {s : Pm} (hL : Sups n L) (hs : Sup n s) : Eqv n (P, L ++ [one] ++ [s]) (P, L ++ [s]) := by
  refine .trans (.mv (L' := L ++ [s] ++ [one]) (sups_one.2 ⟨sups_one.2 ⟨hL, Sup.one n⟩, hs⟩) ?_) (.snoc P _)
  have := (one_move hs).pre L
  simpa using this

/-- 'Eqv' of lists that keep to n, letter by letter. -/
theorem Eqv.step' {n : Nat} {a b : Int × List Pm} (h : Eqv n a b) {z : Int} (hz : Let n z) : (Sups n a.2 ↔ Sups n b.2) ∧ (Sups n a.2 → Eqv n (Gar.step n a z) (Gar.step n b z)) := by
  obtain ⟨z1, z2, z3⟩ := hz
  have htw : Sup n (tw (z.natAbs - 1)) := Sup.tw (by omega)
  induction h with
  | refl a => exact ⟨Iff.rfl, fun _ => .refl _⟩
  | symm _ ih => exact ⟨ih.1.symm, fun h => (ih.2 (ih.1.2 h)).symm⟩
  | trans _ _ i1 i2 => exact ⟨i1.1.trans i2.1, fun h => (i1.2 h).trans (i2.2 (i1.1.1 h))⟩
  | @mv P L L' hs h =>
    refine ⟨⟨fun h' => h.sups h', fun _ => hs⟩, fun _ => ?_⟩
    unfold Gar.step
    split
    · exact .mv (sups_one.2 ⟨hs, htw⟩) (h.append _)
    · exact .mv (sups_one.2 ⟨hs.flip, (Sup.half n).mul htw⟩) ((h.flip hs).append _)
  | half P L =>
    refine ⟨⟨fun h => (Sups.cons.1 h).2, fun h => Sups.cons.2 ⟨Sup.half n, h⟩⟩, fun _ => ?_⟩
    unfold Gar.step
    split
    · exact .half _ _
    · have e : flipL n (Gar.half n :: L) ++ [mul (Gar.half n) (tw (z.natAbs - 1))] = Gar.half n :: (flipL n L ++ [mul (Gar.half n) (tw (z.natAbs - 1))]) := by simp [flipL, flip_half]
      simp only [e]
      have := Eqv.half (n := n) (P - 1) (flipL n L ++ [mul (Gar.half n) (tw (z.natAbs - 1))])
      rw [show P - 1 + 1 = P + 1 - 1 by omega] at this
      exact this
  | snoc P L =>
    refine ⟨sups_one.trans ⟨fun h => h.1, fun h => ⟨h, Sup.one n⟩⟩, fun h => ?_⟩
    have hL := (sups_one.1 h).1
    unfold Gar.step
    split
    · exact .snoc_more hL htw
    · have e : flipL n (L ++ [one]) = flipL n L ++ [one] := by simp [flipL, flip_one]
      simp only [e]
      exact .snoc_more hL.flip ((Sup.half n).mul htw)

def word (n : Nat) (a : Int × List Pm) (ws : List Int) : Int × List Pm := ws.foldl (step n) a
theorem word_sups {n : Nat} : ∀ {ws : List Int} {a : Int × List Pm}, (∀ z ∈ ws, Let n z) → Sups n a.2 → Sups n (word n a ws).2
  | [], _, _, h => h
  | z :: ws, _, hw, h => word_sups (ws := ws) (fun y hy => hw y (List.mem_cons_of_mem _ hy)) (step_sups (hw z (List.mem_cons_self ..)) h)
theorem word_app (n : Nat) (a : Int × List Pm) (u v : List Int) : word n a (u ++ v) = word n (word n a u) v := List.foldl_append
theorem Eqv.word {n : Nat} : ∀ {ws : List Int} {a b : Int × List Pm}, (∀ z ∈ ws, Let n z) → Sups n a.2 → Eqv n a b → Eqv n (Gar.word n a ws) (Gar.word n b ws)
  | [], _, _, _, _, h => h
  | z :: ws, _, _, hw, hs, h => by
    have hz := hw z (List.mem_cons_self ..)
    exact Eqv.word (ws := ws) (fun y hy => hw y (List.mem_cons_of_mem _ hy)) (step_sups hz hs) ((h.step' hz).2 hs)

/-- Two words that do the same, wherever they stand. -/
def Wq (n : Nat) (u v : List Int) : Prop := ∀ a, Sups n a.2 → Eqv n (Gar.word n a u) (Gar.word n a v)
theorem Wq.refl (n : Nat) (u : List Int) : Wq n u u := fun _ _ => .refl _
theorem Wq.symm {n : Nat} {u v : List Int} (h : Wq n u v) : Wq n v u := fun a ha => (h a ha).symm
theorem Wq.trans {n : Nat} {u v w : List Int} (h : Wq n u v) (h' : Wq n v w) : Wq n u w := fun a ha => (h a ha).trans (h' a ha)
theorem Wq.mid {n : Nat} {u v : List Int} (h : Wq n u v) (x y : List Int) (hx : ∀ z ∈ x, Let n z) (hu : ∀ z ∈ u, Let n z) (hy : ∀ z ∈ y, Let n z) : Wq n (x ++ u ++ y) (x ++ v ++ y) := fun a ha => by
  rw [word_app, word_app, word_app, word_app]
  have h1 := word_sups hx ha
  exact Eqv.word hy (word_sups hu h1) (h _ h1)

theorem wq_pos {n i : Nat} (hi : i + 1 < n) : Wq n [((i : Int) + 1), -((i : Int) + 1)] [] := fun a ha => by
  show Eqv n (Gar.step n (Gar.step n a ((i : Int) + 1)) (-((i : Int) + 1))) a
  rw [step_pos, step_neg]
  have htw := Sup.tw hi
  have e2 : flipL n (a.2 ++ [tw i]) = flipL n a.2 ++ [flip n (tw i)] := by simp [flipL]
  simp only [e2]
  have hab : Mvs [flip n (tw i), mul (half n) (tw i)] [half n, one] := by
    have := absorb (n := n) (x := flip n (tw i)) (s := mul (half n) (tw i)) htw.flip ((Sup.half n).mul htw) (fun p q hpq hc => by
      rw [flip_tw hi]
      show sw (n - 2 - i) p < sw (n - 2 - i) q
      refine sw_lt hpq fun ⟨h1, h2⟩ => ?_
      have h3 : sw i (hf n q) < sw i (hf n p) := hc
      have h4 : hf n q = i := by unfold hf; rw [if_pos (by omega)]; omega
      have h5 : hf n p = i + 1 := by unfold hf; rw [if_pos (by omega)]; omega
      rw [h4, h5, sw_l, sw_r] at h3
      omega)
    have e3 : mul (flip n (tw i)) (mul (half n) (tw i)) = half n := by
      rw [← mul_assoc, ← half_mul, mul_assoc, tw_tw, mul_one]
    rw [e3] at this
    exact this
  have hS : Sups n (flipL n a.2 ++ [flip n (tw i)] ++ [mul (half n) (tw i)]) := sups_one.2 ⟨sups_one.2 ⟨ha.flip, htw.flip⟩, (Sup.half n).mul htw⟩
  refine .trans (.mv (L' := flipL n a.2 ++ [half n] ++ [one]) hS (by simpa using hab.pre (flipL n a.2))) (.trans (.snoc _ _) (.trans (.mv (sups_one.2 ⟨ha.flip, Sup.half n⟩) (push ha.flip)) ?_))
  rw [flipL_flipL]
  have := Eqv.half (n := n) (a.1 - 1) a.2
  rw [show a.1 - 1 + 1 = a.1 by omega] at this
  exact this
theorem wq_neg {n i : Nat} (hi : i + 1 < n) : Wq n [-((i : Int) + 1), ((i : Int) + 1)] [] := fun a ha => by
  show Eqv n (Gar.step n (Gar.step n a (-((i : Int) + 1))) ((i : Int) + 1)) a
  rw [step_neg, step_pos]
  have htw := Sup.tw hi
  have hab : Mvs [mul (half n) (tw i), tw i] [half n, one] := by
    have := absorb (n := n) (x := mul (half n) (tw i)) (s := tw i) ((Sup.half n).mul htw) htw (fun p q hpq hc => by
      by_cases h : p = i ∧ q = i + 1
      · obtain ⟨rfl, rfl⟩ := h
        show hf n (sw p p) < hf n (sw p (p + 1))
        rw [sw_l, sw_r]
        exact hf_lt hi (by omega)
      · have := sw_lt hpq h
        simp only [tw] at hc
        omega)
    rw [mul_assoc, tw_tw, mul_one] at this
    exact this
  have hS : Sups n (flipL n a.2 ++ [mul (half n) (tw i)] ++ [tw i]) := sups_one.2 ⟨sups_one.2 ⟨ha.flip, (Sup.half n).mul htw⟩, htw⟩
  refine .trans (.mv (L' := flipL n a.2 ++ [half n] ++ [one]) hS (by simpa using hab.pre (flipL n a.2))) (.trans (.snoc _ _) (.trans (.mv (sups_one.2 ⟨ha.flip, Sup.half n⟩) (push ha.flip)) ?_))
  rw [flipL_flipL]
  have := Eqv.half (n := n) (a.1 - 1) a.2
  rw [show a.1 - 1 + 1 = a.1 by omega] at this
  exact this
theorem word_pos {n : Nat} {a : Int × List Pm} : ∀ {ws : List Nat}, word n a (ws.map fun (i : Nat) => (i : Int) + 1) = (a.1, a.2 ++ ws.map tw)
  | [] => by simp [word]
  | i :: ws => by
    have h := word_pos (n := n) (a := step n a ((i : Int) + 1)) (ws := ws)
    have e1 := step_pos n a i
    rw [e1] at h
    show word n (step n a ((i : Int) + 1)) _ = _
    rw [e1, h]
    simp
theorem wq_far {n i j : Nat} (h : i + 2 ≤ j ∨ j + 2 ≤ i) (hi : i + 1 < n) (hj : j + 1 < n) : Wq n [((i : Int) + 1), ((j : Int) + 1)] [((j : Int) + 1), ((i : Int) + 1)] := fun a ha => by
  have key : ∀ i j : Nat, (i + 2 ≤ j ∨ j + 2 ≤ i) → i + 1 < n → j + 1 < n → Eqv n (word n a [((i : Int) + 1), ((j : Int) + 1)]) (a.1, a.2 ++ [mul (tw i) (tw j), one]) := by
    intro i j h hi hj
    have e := word_pos (n := n) (a := a) (ws := [i, j])
    simp only [List.map_cons, List.map_nil] at e
    rw [e]
    refine .mv ?_ (Mvs.pre a.2 (absorb (n := n) (Sup.tw hi) (Sup.tw hj) fun p q hpq hc => ?_))
    · intro p hp
      rcases List.mem_append.1 hp with hp | hp
      · exact ha p hp
      · simp at hp; rcases hp with rfl | rfl
        · exact Sup.tw hi
        · exact Sup.tw hj
    · by_cases hc2 : p = j ∧ q = j + 1
      · obtain ⟨rfl, rfl⟩ := hc2
        exact sw_lt hpq (by omega)
      · have := sw_lt hpq hc2
        simp only [tw] at hc
        omega
  refine (key i j h hi hj).trans (.trans ?_ (key j i h.symm hj hi).symm)
  have : mul (tw i) (tw j) = mul (tw j) (tw i) := by
    rcases h with h | h
    · exact tw_far h
    · exact (tw_far h).symm
  rw [this]
  exact .refl _
theorem wq_near {n i : Nat} (hi : i + 2 < n) : Wq n [((i : Int) + 1), ((i + 1 : Nat) : Int) + 1, ((i : Int) + 1)] [((i + 1 : Nat) : Int) + 1, ((i : Int) + 1), ((i + 1 : Nat) : Int) + 1] := fun a ha => by
  have e1 := word_pos (n := n) (a := a) (ws := [i, i + 1, i])
  have e2 := word_pos (n := n) (a := a) (ws := [i + 1, i, i + 1])
  simp only [List.map_cons, List.map_nil] at e1 e2
  rw [e1, e2]
  have key : ∀ i j k : Nat, i + 1 < n → j + 1 < n → k + 1 < n → (sw i j < sw i (j + 1)) → (sw i (sw j k) < sw i (sw j (k + 1))) → Mvs [tw i, tw j, tw k] [mul (mul (tw i) (tw j)) (tw k), one, one] := by
    intro i j k h1 h2 h3 hc1 hc2
    have a1 : Mvs [tw i, tw j] [mul (tw i) (tw j), one] := absorb (Sup.tw h1) (Sup.tw h2) fun p q hpq hc => by
      by_cases hc3 : p = j ∧ q = j + 1
      · obtain ⟨rfl, rfl⟩ := hc3; exact hc1
      · have := sw_lt hpq hc3
        simp only [tw] at hc
        omega
    have a2 := (one_move (Sup.tw h3)).there (s := mul (tw i) (tw j))
    have a3 : Mvs [mul (tw i) (tw j), tw k] [mul (mul (tw i) (tw j)) (tw k), one] := absorb ((Sup.tw h1).mul (Sup.tw h2)) (Sup.tw h3) fun p q hpq hc => by
      by_cases hc3 : p = k ∧ q = k + 1
      · obtain ⟨rfl, rfl⟩ := hc3; exact hc2
      · have := sw_lt hpq hc3
        simp only [tw] at hc
        omega
    exact (a1.append [tw k]).trans (a2.trans (a3.append [one]))
  have hS : ∀ i j k : Nat, i + 1 < n → j + 1 < n → k + 1 < n → Sups n (a.2 ++ [tw i, tw j, tw k]) := fun i j k h1 h2 h3 p hp => by
    rcases List.mem_append.1 hp with hp | hp
    · exact ha p hp
    · simp at hp; rcases hp with rfl | rfl | rfl
      · exact Sup.tw h1
      · exact Sup.tw h2
      · exact Sup.tw h3
  have x1 := key i (i + 1) i (by omega) (by omega) (by omega) (by unfold sw; (repeat' split) <;> omega) (by unfold sw; (repeat' split) <;> omega)
  have x2 := key (i + 1) i (i + 1) (by omega) (by omega) (by omega) (by unfold sw; (repeat' split) <;> omega) (by unfold sw; (repeat' split) <;> omega)
  refine .trans (.mv (hS _ _ _ (by omega) (by omega) (by omega)) (x1.pre a.2)) (.symm (.trans (.mv (hS _ _ _ (by omega) (by omega) (by omega)) (x2.pre a.2)) ?_))
  rw [mul_assoc, mul_assoc, tw_near]
  exact .refl _


end Go.Proofs.Ytbcggbmjbljnfaa.Gar
