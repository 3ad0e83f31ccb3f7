/-
  The walk of 'Patterns'.
-/
import Derived.Test.YteankhgikpejhaaOd
import Derived.Test.YteankhgikpejhaaFo
import Derived.Maps.OwnIn
import Derived.Maps.Views
import Derived.Carry
import Derived.Sort.KeysCollected
import Derived.Test.YteankhgikpejhaaIter
import Derived.StringKeys
import Derived.Maps.Range
import Derived.Maps.OwnSet
namespace Go.Proofs.Yteankhgikpejhaa
open Go.RowKit Go.Sort Go.Shelf Go.Maps
attribute [local go_sem] Oper.semAt_some

/-- The patterns of some orders as a set of strings. -/
def patLit (zs : List Int) (O : List Nat) : Lit := .string (crsOfV zs O).data.toList
def patSet (H : Type) (zs : List Int) (ys : List (List Nat)) : DataW H := setOf (.lit (.bool true)) (ys.map (patLit zs))

/-- A pattern's letters as bytes. -/
def patB' (zs : List Int) (O : List Nat) : List UInt8 := (crsOfV zs O).data.toList
theorem patB_map (zs : List Int) (O : List Nat) : patB' zs O = (vtxCl zs).crs.map fun f => UInt8.ofNat (letterZ (layersOf O zs.length) f).toNat := by
  rw [patB', crsOfV, strOf_list, lettersZ, List.map_map]; rfl
theorem patB_length (zs : List Int) (O : List Nat) : (patB' zs O).length = zs.length - 1 + 1 := by rw [patB_map, List.length_map, vtx_length]
theorem patB_letter (zs : List Int) (O : List Nat) : ∀ c ∈ patB' zs O, c = 77 ∨ c = 86 := by
  intro c hc
  rw [patB_map, List.mem_map] at hc
  obtain ⟨f, _, rfl⟩ := hc
  simp only [letterZ]
  split
  · exact .inr rfl
  · exact .inl rfl

/-- A string of two letters as a number. -/
def codeOf : List UInt8 → Nat
  | [] => 0
  | c :: l => (if c = 86 then 1 else 0) + 2 * codeOf l
theorem codeOf_lt : ∀ l : List UInt8, codeOf l < 2 ^ l.length
  | [] => by simp [codeOf]
  | c :: l => by
    have := codeOf_lt l
    rw [codeOf, List.length_cons, Nat.pow_succ]
    split <;> omega
theorem codeOf_inj : ∀ l m : List UInt8, l.length = m.length → (∀ c ∈ l, c = 77 ∨ c = 86) → (∀ c ∈ m, c = 77 ∨ c = 86) → codeOf l = codeOf m → l = m
  | [], [], _, _, _, _ => rfl
  | [], _ :: _, h, _, _, _ => by cases h
  | _ :: _, [], h, _, _, _ => by cases h
  | c :: l, d :: m, h, hl, hm, e => by
    rw [codeOf, codeOf] at e
    have hc := hl c (by simp)
    have hd := hm d (by simp)
    have h77 : (77 : UInt8) ≠ 86 := by decide
    rcases hc with rfl | rfl <;> rcases hd with rfl | rfl
    · rw [codeOf_inj l m (by simpa using h) (fun c hc => hl c (by simp [hc])) (fun c hc => hm c (by simp [hc])) (by omega)]
    · rw [if_neg h77, if_pos rfl] at e; omega
    · rw [if_neg h77, if_pos rfl] at e; omega
    · rw [codeOf_inj l m (by simpa using h) (fun c hc => hl c (by simp [hc])) (fun c hc => hm c (by simp [hc])) (by omega)]
theorem few_strings (k : Nat) (P : List (List UInt8)) (hn : P.Nodup) (h : ∀ x ∈ P, x.length = k ∧ ∀ c ∈ x, c = 77 ∨ c = 86) : P.length ≤ 2 ^ k := by
  have := length_le_of_nodup (2 ^ k) (P.map codeOf) ?_ ?_
  · simpa using this
  · rw [List.nodup_iff_pairwise_ne, List.pairwise_map]
    refine (List.nodup_iff_pairwise_ne.1 hn).imp_of_mem fun {a b} ha hb hne e => hne ?_
    exact codeOf_inj a b (by rw [(h a ha).1, (h b hb).1]) (h a ha).2 (h b hb).2 e
  · intro y hy
    obtain ⟨x, hx, rfl⟩ := List.mem_map.1 hy
    rw [← (h x hx).1]
    exact codeOf_lt x

/-- Each once. -/
def dd : List (List UInt8) → List (List UInt8)
  | [] => []
  | x :: l => if x ∈ dd l then dd l else x :: dd l
theorem dd_nodup : ∀ l, (dd l).Nodup
  | [] => List.nodup_nil
  | x :: l => by
    rw [dd]
    split
    · exact dd_nodup l
    · exact List.nodup_cons.2 ⟨by assumption, dd_nodup l⟩
theorem mem_dd : ∀ (l : List (List UInt8)) (x : List UInt8), x ∈ dd l ↔ x ∈ l
  | [], x => by simp [dd]
  | y :: l, x => by
    rw [dd]
    have ih := mem_dd l
    split
    · rename_i h
      rw [List.mem_cons, ih]
      constructor
      · exact .inr
      · rintro (rfl | h')
        · exact (ih x).1 h
        · exact h'
    · rw [List.mem_cons, List.mem_cons, ih]

/-- The patterns of a vertex that closes: each once, in order. -/
def patsOf (zs : List Int) : List (List UInt8) := (dd ((ordersOf (vtxCl zs) zs.length).map (patB' zs))).mergeSort leB

theorem has_patSet (H : Type) (zs : List Int) (ys : List (List Nat)) (x : List UInt8) : has (patSet H zs ys) (.string x) = true ↔ x ∈ ys.map (patB' zs) := by
  rw [patSet, has_setOf _ _ _ (by intro y hy; obtain ⟨O, _, rfl⟩ := List.mem_map.1 hy; trivial), List.any_eq_true]
  constructor
  · rintro ⟨y, hy, hs⟩
    obtain ⟨O, hO, rfl⟩ := List.mem_map.1 hy
    refine List.mem_map.2 ⟨O, hO, ?_⟩
    simpa [Lit.sameKey, patLit, patB'] using hs
  · intro hx
    obtain ⟨O, hO, rfl⟩ := List.mem_map.1 hx
    exact ⟨patLit zs O, List.mem_map.2 ⟨O, hO, rfl⟩, by simp [Lit.sameKey, patLit, patB']⟩

theorem law_str : Keyed Try.prog 9 := string_keyed Try.underlying9
theorem pat_perm {H : Type} {w : World} {b n : Nat} {R : Value → Option (DataW H × List MemPlace)} {zs : List Int} {ys : List (List Nat)} (hown : w.ownsMap Try.prog 9 R b n (patSet H zs ys)) :
    (dd (ys.map (patB' zs))).Perm (strKeys (patSet H zs ys)) := by
  obtain ⟨es, hD, hpw, _⟩ := hown.entries law_str
  obtain ⟨es', hD', hko⟩ := hown.keysOf
  obtain rfl : es = es' := by rw [hD] at hD'; simpa using hD'
  have hm : ∀ x, x ∈ dd (ys.map (patB' zs)) ↔ has (.map es) (.string x) = true := fun x => by rw [mem_dd, ← has_patSet H, hD]
  rw [hD]
  exact perm_strKeys hpw (fun p hp => by obtain ⟨v, hv⟩ := hko p hp; obtain ⟨x, _, hx, _⟩ := Maps.keyOf_str Try.underlying9 hv; exact ⟨x, hx⟩) (dd_nodup _) hm
theorem strKeys_size {H : Type} {w : World} {k : TypeId} {b n : Nat} {R : Value → Option (DataW H × List MemPlace)} {D : DataW H} (hown : w.ownsMap Try.prog k R b n D) : (strKeys D).length = Maps.size D := by
  obtain ⟨es, clock, _, _, _, rfl⟩ := hown
  simp [strKeys, Maps.size]
theorem pat_size {H : Type} {w : World} {b n : Nat} {R : Value → Option (DataW H × List MemPlace)} {zs : List Int} {ys : List (List Nat)} (hown : w.ownsMap Try.prog 9 R b n (patSet H zs ys)) (h8 : zs.length ≤ 8) (h1 : 1 ≤ zs.length) : Maps.size (patSet H zs ys) ≤ 256 := by
  rw [← strKeys_size hown, ← (pat_perm hown).length_eq]
  have := few_strings zs.length (dd (ys.map (patB' zs))) (dd_nodup _) (fun x hx => by
    rw [mem_dd] at hx
    obtain ⟨O, _, rfl⟩ := List.mem_map.1 hx
    exact ⟨by rw [patB_length]; omega, patB_letter zs O⟩)
  exact Nat.le_trans this (Nat.pow_le_pow_right (n := 2) (by omega) h8)
theorem pat_fit {H : Type} {w : World} {b n : Nat} {R : Value → Option (DataW H × List MemPlace)} {zs : List Int} {ys : List (List Nat)} (hown : w.ownsMap Try.prog 9 R b n (patSet H zs ys)) (h8 : zs.length ≤ 8) (h1 : 1 ≤ zs.length) : w.ownsMap Try.prog 9 R b 256 (patSet H zs ys) := by
  have h := pat_size hown h8 h1
  obtain ⟨es, clock, hb, F, hs, hD⟩ := hown
  refine ⟨es, clock, hb, F, ?_, hD⟩
  have e := length_read (P := Try.prog) (k := 9) (R0 := R) es
  rw [hD] at h
  change List.length _ ≤ 256 at h
  rw [e] at h
  exact h
theorem ownsMap_below {H : Type} {w w' : World} {k : TypeId} {b n B : Nat} {R : Value → Option (DataW H × List MemPlace)} {D : DataW H} (hown : w.ownsMap Try.prog k R b n D) (hb : Below B w w') (hB : b < B) : w'.ownsMap Try.prog k R b n D := by
  obtain ⟨es, clock, h, F, hs, hD⟩ := hown
  exact ⟨es, clock, (hb.block _ hB).trans h, F, hs, hD⟩

def PatI (H : Type) (zs : List Int) (bm : Nat) (wL : World) (ys : List (List Nat)) (W : World) : Prop :=
  W.ownsMap Try.prog 9 (plainElem (H := H) Try.prog 4) bm 256 (patSet H zs ys) ∧ KB bm wL W

theorem crsOfV_size (zs : List Int) (O : List Nat) : (crsOfV zs O).size ≤ zs.length + 1 := by
  have := patB_length zs O
  have e : (crsOfV zs O).size = (patB' zs O).length := by
    rw [patB', Array.length_toList]; rfl
  omega
theorem pat_next {H : Type} {bm : Nat} {wL W w2 : World} {zs : List Int} {ys : List (List Nat)} (x : List Nat) (h1 : 1 ≤ zs.length) (h8 : zs.length ≤ 8) (hown : W.ownsMap Try.prog 9 (plainElem (H := H) Try.prog 4) bm 256 (patSet H zs ys)) (hk : KB bm wL W) (hm : bm < wL.heap.size) (hb2 : Below W.heap.size W w2) :
    ∃ w5, (Instr.mapUpdate 90 (.map (some bm)) (.string (crsOfV zs x)) (.bool true)).run Try.prog w2 = .ok () w5 ∧ Hid (Above wL.heap.size W w5 ∧ PatI H zs bm wL (ys ++ [x]) w5) := by
  have hsz := crsOfV_size zs x
  obtain ⟨w5, hrun, hown5, hg⟩ := (ownsMap_below hown hb2 hown.lt).update law_str Try.underlying90 (by unfold maxLen; omega) (Go.WideMaps.keyOf_string_mk Try.underlying9 (s := crsOfV zs x) (by unfold maxLen; omega)) (plainElem_bool Try.underlying4 true)
  have e : (patSet H zs ys).put (.string (crsOfV zs x).data.toList) (.lit (.bool true)) = patSet H zs (ys ++ [x]) := by
    rw [patSet, patSet, List.map_append, List.map_cons, List.map_nil, setOf_snoc]; rfl
  rw [e] at hown5
  have hks := hk.size
  refine ⟨w5, hrun, Lib.hid ⟨⟨Nat.le_trans hb2.size hg.size, fun b hb hlt => ?_⟩, pat_fit hown5 h8 h1, (hk.grow (hb2.mono hks)).trans ⟨hg.os, hg.tape, hg.output, hg.size, fun b hb hlt => hg.block b hlt (fun e => hb (by simpa using e))⟩⟩⟩
  exact (hg.block b (by have := hb2.size; omega) (fun e => by simp at e; omega)).trans (hb2.block b hlt)

/-- What 'Patterns' hands back: the patterns, each once, in order. -/
def PatPost (zs : List Int) (w : World) (e : Ending) (w' : World) : Prop := ∃ v, e = .returned (.tuple #[v, .int .i64 0]) ∧ w'.ownsRow w.heap.size 9 1 v (patsOf zs).length ((patsOf zs).map Go.Proofs.encStr) ∧ Below w.heap.size w w'

theorem Patterns_bad (a : Option Addr) (n cap : Nat) (zs : List Int) (w : World) (hn : zs.length = n) (hm : n ≤ 9223372036854775807) (hz : Ints w a zs) (hs : vertexB zs = false) :
    Calls Try.prog 36 #[.slice a n cap] w (Gives2 (.slice none 0 0) (.int .i64 1) w) := by
  have his := isVertex_any a n cap zs w hn hm hz
  rw [hs] at his
  have His := Lib.hid his
  clear his hz hn hs
  go_enter Try.func36, Try.ntmps36
  go_wp2_with (go_at_call 65; refine His.out.mono ?_; rintro e w1 ⟨rfl, rfl⟩)
  go_ret2
  exact ⟨rfl, Below.refl _ _⟩

theorem Patterns_open (a : Option Addr) (n cap : Nat) (zs : List Int) (w : World) (hn : zs.length = n) (hm : n ≤ 9223372036854775807) (hz : Ints w a zs) (hs : vertexB zs = true) (hc : closesB zs = false) :
    Calls Try.prog 36 #[.slice a n cap] w (Gives2 (.slice none 0 0) (.int .i64 0) w) := by
  obtain ⟨p1, p9, ps⟩ := vertex_parts hs
  have his := isVertex_any a n cap zs w hn hm hz
  rw [hs] at his
  have His := Lib.hid his
  have Hcl := Lib.hid (clothOfVertex_false a n cap zs w hn (by omega) (by omega) ps hc hz)
  clear his hz hn hs hc
  go_enter Try.func36, Try.ntmps36
  go_wp2_with (first
    | (go_at_call 65; refine His.out.mono ?_; rintro e w1 ⟨rfl, rfl⟩)
    | (go_at_call 66; refine Hcl.out.mono ?_; rintro e w2 ⟨rfl, hb2⟩; have H2 := Lib.hid hb2; clear hb2))
  go_ret2
  exact ⟨rfl, H2.out.alloc H2.out.size _⟩

set_option maxRecDepth 100000 in
set_option maxHeartbeats 4000000 in
theorem Patterns_good (H : Type) (a : Option Addr) (n cap m : Nat) (zs : List Int) (w : World) (hn : zs.length = n) (hz : Ints w a zs) (hs : vertexB zs = true) (hc : closesB zs = true) :
    CallsIn Fence.wide m Try.prog 36 #[.slice a n cap] w (PatPost zs w) := by
  subst hn
  obtain ⟨p1, p9, ps⟩ := vertex_parts hs
  have his := isVertex_any a zs.length cap zs w rfl (by omega) hz
  rw [hs] at his
  have His := Lib.hid his
  have Hcl := Lib.hid (clothOfVertex_true a zs.length cap zs w rfl (by omega) (by omega) ps hc hz)
  have hmm := @run_makeMap Try.prog
  clear his hz hs hc
  refine callsIn_of_wp_marks Try.func36 rfl trivial ?_ rfl
  simp only [Try.ntmps36, List.size_toArray, List.length_cons, List.length_nil, Nat.reduceAdd, Nat.reduceSub, Array.replicate_succ, Array.replicate_zero, List.push_toArray, List.append_toArray, List.nil_append, List.cons_append]
  gi_wp2_with (first
    | ((try refine ⟨trivial, wide_depth, ?_⟩); gi_at_call 65; refine (callsIn_wide.2 His.out).mono ?_; rintro e w1 ⟨rfl, rfl⟩)
    | ((try refine ⟨trivial, wide_depth, ?_⟩); gi_at_call 66; refine (callsIn_wide.2 Hcl.out).mono ?_; rintro e w1 ⟨v, rfl, hv, hb1⟩; obtain ⟨al, cl, ah, ch, ac, cc, rfl, hl, hh, hc⟩ := hv.slices; have H1 := Lib.hid (And.intro hb1 (And.intro hl (And.intro hh hc))); clear hb1 hl hh hc hv)
    | ((try refine ⟨trivial, wide_depth, ?_⟩); gi_at_call 52; refine (callsIn_wide.2 (orders_any _ _ _ _)).mono ?_; rintro e w2 ⟨rfl, rfl⟩))
  clear hmm
  have hb1 := H1.out.1
  obtain ⟨wL, hwL⟩ : ∃ wL, ((((w1.alloc (.cells #[.slice al zs.length cl, .slice ah zs.length ch, .slice ac (zs.length - 1 + 1) cc] 73)).alloc (.map #[] 0)).alloc (.cells #[.map (some (w1.heap.size + 1))] 90)).alloc (.cells #[.slice al zs.length cl, .slice ah zs.length ch, .slice ac (zs.length - 1 + 1) cc] 73)) = wL := ⟨_, rfl⟩
  have hLs : wL.heap.size = w1.heap.size + 4 := by rw [← hwL]; simp
  have hL1 : Below w1.heap.size w1 wL := by rw [← hwL]; exact ((((Below.refl _ _).alloc (Nat.le_refl _) _).alloc (by simp) _).alloc (by simp; omega) _).alloc (by simp; omega) _
  have hbox4 : Trip wL w1.heap.size 73 (.slice al zs.length cl) (.slice ah zs.length ch) (.slice ac (zs.length - 1 + 1) cc) := by rw [← hwL]; exact (((Trip.new _ _ _ _ _).alloc _).alloc _).alloc _
  have hmap0 : wL.ownsMap Try.prog 9 (plainElem (H := H) Try.prog 4) (w1.heap.size + 1) 0 (.map []) := by
    rw [← hwL]
    have := World.ownsMap_made (w1.alloc (.cells #[.slice al zs.length cl, .slice ah zs.length ch, .slice ac (zs.length - 1 + 1) cc] 73)) Try.prog 9 (plainElem (H := H) Try.prog 4)
    rw [World.size_alloc] at this
    exact (this.alloc _).alloc _
  have hbox6 : wL.heap[w1.heap.size + 1 + 1]? = some (.cells #[.map (some (w1.heap.size + 1))] 90 (0, 0)) := by
    rw [← hwL, Below.heap_alloc _ _ _ (by simp)]
    have := heap_alloc_new ((w1.alloc (.cells #[.slice al zs.length cl, .slice ah zs.length ch, .slice ac (zs.length - 1 + 1) cc] 73)).alloc (.map #[] 0)) (.cells #[.map (some (w1.heap.size + 1))] 90)
    simpa using this
  have hbox : Trip wL (w1.heap.size + 1 + 1 + 1) 73 (.slice al zs.length cl) (.slice ah zs.length ch) (.slice ac (vtxCl zs).crs.length cc) := by
    rw [← hwL, vtx_length]
    have := Trip.new (((w1.alloc (.cells #[.slice al zs.length cl, .slice ah zs.length ch, .slice ac (zs.length - 1 + 1) cc] 73)).alloc (.map #[] 0)).alloc (.cells #[.map (some (w1.heap.size + 1))] 90)) 73 (.slice al zs.length cl) (.slice ah zs.length ch) (.slice ac (zs.length - 1 + 1) cc)
    simpa using this
  have r1 := ownsRow_kept (ownsRow_weaken H1.out.2.1 (Nat.zero_le _)) hL1
  have r2 := ownsRow_kept (ownsRow_weaken H1.out.2.2.1 (Nat.zero_le _)) hL1
  have r3 := ownsRow_kept (ownsRow_weaken H1.out.2.2.2 (Nat.zero_le _)) hL1
  have q1 : (Value.slice al (vtxCl zs).low.length cl).ownBlock ≠ some (w1.heap.size + 1) := fun e => by have := (H1.out.2.1.lt _ e).2; omega
  have q2 : (Value.slice ah (vtxCl zs).high.length ch).ownBlock ≠ some (w1.heap.size + 1) := fun e => by have := (H1.out.2.2.1.lt _ e).2; omega
  have q3 : (Value.slice ac (vtxCl zs).crs.length cc).ownBlock ≠ some (w1.heap.size + 1) := fun e => by have := (H1.out.2.2.2.lt _ e).2; omega
  rw [vtx_low] at r1 q1
  rw [vtx_high] at r2 q2
  have hbw : Below w.heap.size w wL := hb1.trans (hL1.mono hb1.size)
  have hs1 := hb1.size
  have hKB : ∀ W, KB (w1.heap.size + 1) wL W → W.ownsRow 0 3 1 (.slice al zs.length cl) zs.length ((vtxCl zs).low.map (Value.int .i64)) ∧ W.ownsRow 0 3 1 (.slice ah zs.length ch) zs.length ((vtxCl zs).high.map (Value.int .i64)) ∧
      W.ownsRow 0 101 3 (.slice ac (vtxCl zs).crs.length cc) (vtxCl zs).crs.length (crCells (vtxCl zs).crs) := fun W hk => ⟨ownsRow_kb r1 hk q1, ownsRow_kb r2 hk q2, ownsRow_kb r3 hk q3⟩
  have hLet : Hid (∀ (W W' : World) (N1 g cp : Nat) (x : List Nat), KB (w1.heap.size + 1) wL W → Below W.heap.size W W' → W.ownsRow N1 3 1 (.slice (some ⟨g, 0, none⟩) zs.length cp) zs.length (intsOf x) → (∀ y ∈ x, y < zs.length) →
      Calls Try.prog 51 #[.agg #[.slice al zs.length cl, .slice ah zs.length ch, .slice ac (zs.length - 1 + 1) cc], .slice (some ⟨g, 0, none⟩) zs.length cp] W' fun e w' => e = .returned (.string (crsOfV zs x)) ∧ Below W'.heap.size W' w') := Lib.hid fun W W' N1 g cp x hk hb' hrow hx => by
    have := letters_any al ac (some ⟨g, 0, none⟩) cl cc cp zs.length (.slice ah zs.length ch) (vtxCl zs).crs x W' (by omega) (by omega) (by simp; omega) (ownsRow_kept (hKB W hk).2.2 hb') (by simpa [intsOf] using hrow.1) (Ints.of_nats (ownsRow_kept hrow hb')) hx (vtx_in p1)
    rw [vtx_length] at this
    exact this
  rw [hwL]
  have HKB := Lib.hid hKB
  have HL := Lib.hid (And.intro hbw (And.intro hLs hs1))
  clear hbw hwL hL1 hb1 H1 hKB r1 r2 r3 q1 q2 q3
  refine wpIn_range_orders (vtxCl zs) al ah ac cl ch cc zs.length (w1.heap.size + 1 + 1 + 1) rfl (by omega) (by omega) (by simp; omega) (vtx_in p1) rfl (PatI H zs (w1.heap.size + 1) wL) (fun _ _ _ _ => False) ?hI ?hcl (fun _ _ _ _ _ h _ => h) ⟨hmap0.mono (by omega), KB.refl _ _⟩
    (fun g cp => { tmps := #[.slice a zs.length cap, undef, .slice none 0 0, .int .i64 0, .pointer (some ⟨w1.heap.size, 0, none⟩), .bool true, .pointer (some ⟨w1.heap.size + 1 + 1, 0, none⟩), .slice (some ⟨g, 0, none⟩) zs.length cp, .slice a zs.length cap, .bool true, .bool false,
      .tuple #[.agg #[.slice al zs.length cl, .slice ah zs.length ch, .slice ac (zs.length - 1 + 1) cc], .bool true], .slice a zs.length cap, .tuple #[.agg #[.slice al zs.length cl, .slice ah zs.length ch, .slice ac (zs.length - 1 + 1) cc], .bool true], .agg #[.slice al zs.length cl, .slice ah zs.length ch, .slice ac (zs.length - 1 + 1) cc], .bool true, .bool true, .bool false,
      .map (some (w1.heap.size + 1)), .agg #[.slice al zs.length cl, .slice ah zs.length ch, .slice ac (zs.length - 1 + 1) cc], .func (.func 73) #[] #[.pointer (some ⟨w1.heap.size + 1 + 1 + 1, 0, none⟩)], .slice (some ⟨g, 0, none⟩) zs.length cp, undef, undef, undef, undef, undef, undef, undef], defers := [] }) ?hassign ?hbody ?hdone (fun _ _ _ _ _ _ h => h.elim)
  case hI =>
    rintro ys W W' ⟨⟨es, clock, hb, F, hs, hD⟩, hk⟩ hb'
    exact ⟨⟨es, clock, (hb'.block _ hmap0.lt).trans hb, F, hs, hD⟩, hk.grow hb'⟩
  case hcl =>
    rintro ys W ⟨_, hk⟩
    have := HKB.out W hk
    exact ⟨hbox.kb hk (by omega), this⟩
  case hassign =>
    intro l g cp W K hK
    gi_wp2
    simpa using hK
  case hbody =>
    rintro l N1 g cp ys x W ⟨hown, hk⟩ hN hg hrow hx
    have e4 := hbox4.kb hk (by omega)
    have f0 := e4.c0
    have f1 := e4.c1
    have f2 := e4.c2
    have e6 : W.heap[w1.heap.size + 1 + 1]? = some (.cells #[.map (some (w1.heap.size + 1))] 90 (0, 0)) := (hk.block _ (by omega) (lt_of_block hbox6)).trans hbox6
    have c6 := cell_of_one e6
    have HLx := Lib.hid (fun W' hW' => hLet.out W W' N1 g cp x hk hW' hrow hx)
    have HNx := Lib.hid (fun w2 (hb2 : Below W.heap.size W w2) => pat_next (H := H) x (by omega) p9 hown hk hmap0.lt hb2)
    clear hown hk hrow e4 e6
    gi_wp2
    have hmx : Try.prog.follows .mixedOrders = true := by kernel_rfl
    gi_region_with_o (first
      | (refine ⟨trivial, wide_depth, ?_⟩; refine (CallsIn.inRound l (callsIn_wide.2 (HLx.out _ (Below.drew (Below.refl _ _))))).mono ?_; rintro e w2 ⟨rfl, hb2⟩; have c6' := (hb2.cell (p := ⟨w1.heap.size + 1 + 1, 0, none⟩) (World.block_lt_of_cell? W _ c6)).trans c6; obtain ⟨w5, hrun, H5⟩ := HNx.out w2 ⟨hb2.os, hb2.tape, hb2.output, hb2.size, hb2.block⟩; clear hb2))
    all_goals
      gi_wp2
      exact H5.out
  case hdone =>
    rintro D W ⟨hown, hk⟩ hD hK
    have e6 : W.heap[w1.heap.size + 1 + 1]? = some (.cells #[.map (some (w1.heap.size + 1))] 90 (0, 0)) := (hk.block _ (by omega) (lt_of_block hbox6)).trans hbox6
    have c6 := cell_of_one e6
    have hz := pat_size hown p9 (by omega)
    have HS := Lib.hid (Try.slices_Sorted_keys_67_68 (w1.heap.size + 1) 256 (patSet H zs (ordersOf (vtxCl zs) zs.length)) _ W hown (by unfold maxLen; omega) (by omega))
    have HB := Lib.hid (And.intro hown (And.intro hk (And.intro hK (lt_of_block hK))))
    clear hown hk hK e6 hz
    gi_wp2_with (first
      | ((try refine ⟨trivial, wide_depth, ?_⟩); gi_at_call 68; refine (callsIn_wide.2 (callsIn_wide.1 (Try.maps_Keys_68 _ _))).mono ?_; rintro e w' ⟨rfl, rfl⟩)
      | ((try refine ⟨trivial, wide_depth, ?_⟩); gi_at_call 67; refine (callsIn_wide.2 (callsIn_wide.1 HS.out)).mono ?_; rintro e w3 ⟨v, ss, rfl, hS, hrow, hnil, hb⟩; have H3 := Lib.hid (And.intro hS (And.intro hrow hb)); clear hS hrow hnil hb))
    have hb3 : Below W.heap.size W w3 := ((Below.refl _ _).alloc (Nat.le_refl _) _).trans (H3.out.2.2.mono (by simp))
    have xD : w3.heap[D]? = some (.deferred (some [])) := (hb3.block _ HB.out.2.2.2).trans HB.out.2.2.1
    refine ⟨by simp, .inl ⟨_, _, rfl, run_takeDeferred xD, ?_⟩⟩
    refine ⟨_, results_tmp2 rfl _ _ _, ?_⟩
    have hp := H3.out.1.trans (pat_perm HB.out.1).symm
    have he : ss.mergeSort (fun x y => decide (x ≤ y)) = patsOf zs := mergeSort_of_perm hp
    have hl : ss.length = (patsOf zs).length := by rw [patsOf, List.length_mergeSort]; exact hp.length_eq
    have hrow := H3.out.2.1
    rw [he, hl] at hrow
    have hbw : Below w.heap.size w w3 := HL.out.1.trans ((HB.out.2.1.below (Nat.le_refl _) (by omega)).trans (hb3.mono (by have := HB.out.2.1.size; omega)) |>.mono (by omega))
    refine ⟨v, rfl, ?_, hbw.trans (below_putObj w3 _ (by omega))⟩
    refine ownsRow_weaken (ownsRow_of_block hrow fun g hg => World.putObj_heap_other (fun e => ?_)) (by have := HB.out.2.1.size; simp; omega)
    have := (hrow.lt g hg).1
    have := HB.out.2.2.2
    simp at *
    omega

end Go.Proofs.Yteankhgikpejhaa
