/-
  Letters, patterns, layers.
-/
import Derived.Test.YteckeobhlfddlaaFj
import Derived.Laws.BytesString
namespace Go.Proofs.Yteckeobhlfddlaa

section
open Go.RowKit Go.Sort

theorem Try.infoU8 : (Try.prog.info? 5).map (fun i => (i.zero, i.size, i.bytes)) = some (some (.int .u8 0), 1, 1) := by kernel_rfl

/-- 'out = append(out, x)' of one byte. -/
theorem wpList_app_u8 {W : World} {ops : Array Oper} {rest : List Oper} {o : Oper} {a : Act} {Q : Exit → Act → World → Prop} (hgd : o.guard = none) (s x : Operand)
    (ho : o.op = .call { callee := .builtin .append, args := #[s, x], argTypes := #[85, 85] }) (base : Nat) (v : Value) (n : Nat) (xs : List Value) (hs : a.eval s = v) (z : Int) (b : Nat)
    (hx : a.eval x = .slice (some ⟨b, 0, none⟩) 1 1) (hb : b = W.heap.size) (hown : W.ownsRow base 5 1 v n xs) (hn : n ≤ 1000000) (hbase : base ≤ W.heap.size)
    (h : ∀ (g cap : Nat) (w' : World), w'.ownsRow base 5 1 (.slice (some ⟨g, 0, none⟩) (n + 1) cap) (n + 1) (xs ++ [.int .u8 z]) → W.grownBy w' v.ownBlock → (some g = v.ownBlock ∨ W.heap.size ≤ g) → W.heap.size < w'.heap.size → wpList Try.prog ops Q rest (a.put o.dst (.slice (some ⟨g, 0, none⟩) (n + 1) cap)) w') :
    wpList Try.prog ops Q (o :: rest) a (W.alloc (.cells #[.int .u8 z] 5)) := by
  obtain ⟨i0, hi, hz0, hz1, hz2⟩ := info_parts Try.infoU8
  refine wpList_append_own_at _ hgd s x 85 ho base 5 i0 (.int .u8 0) 1 1 Try.underlying85 hi hz0 hz1 hz2 rfl (by decide) v n xs hs (hown.alloc _) ⟨b, 0, none⟩ 1 1 [.int .u8 z] hx rfl (cells_new W [.int .u8 z] _ b hb) (by simp [Value.oneCell']) (by unfold maxLen; omega) (by omega) (by simp; omega) ?_
  intro v' w' hown' hg _ hat
  obtain ⟨g, cap, rfl⟩ := ownsRow_succ' hown'
  have hsz := hg.size
  simp at hsz
  refine h g cap w' hown' (grown_alloc hg) ?_ (by omega)
  rcases hat with e | e
  · exact .inl (by simpa [Value.ownBlock] using e)
  · refine .inr ?_
    simp [Value.ownBlock] at e
    omega

theorem conv_str (a : Addr) (ha : a.spot = none) (cap n base : Nat) (ns : List Int) (W : World) (h : W.ownsRow base 5 1 (.slice (some a) n cap) n (ns.map (Value.int .u8))) :
    (convert 85 9 (.slice (some a) n cap)).run Try.prog W = .ok (.string (strOf ns)) W := by
  rw [run_convert_bytes_string W _ _ 5 _ _ _ Try.underlying85 Try.underlying5 Try.underlying9]
  have hl : (ns.map (Value.int .u8)).length = n := by simpa using h.1
  rw [run_bytesToString W a n cap ns ?_]
  · rfl
  · rw [← hl]
    obtain ⟨g, hg⟩ : ∃ g, a = ⟨g, 0, none⟩ := by
      rcases h.2 with ⟨e, _⟩ | ⟨g, c, cur, e, _⟩
      · cases e
      · cases e; exact ⟨g, rfl⟩
    subst hg
    exact run_loadCells_list _ _ _ (h.cells rfl)

theorem row_below {w w' : World} {g B : Nat} {o : Obj} (h : w.heap[g]? = some o) (hb : Below B w w') (hg : g < B) : w'.heap[g]? = some o := (hb.block g hg).trans h

theorem row_at {w : World} {g j : Nat} {L : List Int} (h : w.heap[g]? = some (.cells (L.map (Value.int .i64)).toArray 3 (0, 0))) (hj : j < L.length) : w.cell? ⟨g, j, none⟩ = some (.int .i64 (L[j]?.getD 0)) := by
  simp [World.cell?, h, hj]
theorem row_free {w : World} {g : Nat} {cs : Array Value} {t : TypeId} (h : w.heap[g]? = some (.cells cs t (0, 0))) (j : Nat) : w.frozen? ⟨g, j, none⟩ = false := by simp [World.frozen?, h]

theorem row_ne {w : World} {g base : Nat} {cs : Array Value} {t e : TypeId} {size n : Nat} {v : Value} {xs : List Value} (h : w.heap[g]? = some (.cells cs t (0, 0))) (hr : w.ownsRow base e size v n xs) (hte : t ≠ e) : some g ≠ v.ownBlock := fun e' => by
  rcases hr.2 with ⟨rfl, _⟩ | ⟨g', cap, cur, rfl, _, hgb, _⟩
  · cases e'
  · have e2 : g = g' := by simpa [Value.ownBlock] using e'
    subst e2
    rw [hgb] at h
    simp at h
    exact hte h.2.symm
theorem par_eq (k : Nat) : ((k : Int) % 2 == 0) = (k % 2 == 0) := by
  rw [Bool.eq_iff_iff]; simp; omega

theorem nat_cells {w : World} {base : Nat} {a : Option Addr} {cap n : Nat} {O : List Nat} (h : w.ownsRow base 3 1 (.slice a n cap) n (intsOf O)) :
    O = [] ∨ ∃ b, a = some ⟨b, 0, none⟩ ∧ b < w.heap.size ∧ ∀ j, j < O.length → w.cell? ⟨b, j, none⟩ = some (.int .i64 ((O[j]?.getD 0 : Nat) : Int)) := by
  have e : intsOf O = (O.map fun (x : Nat) => (x : Int)).map (Value.int .i64) := by simp [intsOf]
  rw [e] at h
  rcases ints_cells h with h0 | ⟨b, ha, hb, hc⟩
  · exact .inl (by simpa using h0)
  · refine .inr ⟨b, ha, hb, fun j hj => ?_⟩
    rw [hc j (by simpa using hj)]
    simp [hj]

theorem Ints.of_nats {w : World} {base n cap : Nat} {a : Option Addr} {O : List Nat} (h : w.ownsRow base 3 1 (.slice a n cap) n (intsOf O)) : Ints w a (O.map fun (x : Nat) => (x : Int)) := by
  have e : intsOf O = (O.map fun (x : Nat) => (x : Int)).map (Value.int .i64) := by simp [intsOf]
  rw [e] at h
  rcases ints_cells h with h0 | ⟨b, rfl, _, hc⟩
  · intro i hi; rw [h0] at hi; simp at hi
  · intro i hi
    exact ⟨b, 0, rfl, by rw [Nat.zero_add]; exact hc i hi⟩
theorem Ints.nat {w : World} {a : Option Addr} {O : List Nat} (h : Ints w a (O.map fun (x : Nat) => (x : Int))) (h1 : 1 ≤ O.length) :
    ∃ b off, a = some ⟨b, off, none⟩ ∧ b < w.heap.size ∧ ∀ j, j < O.length → w.cell? ⟨b, off + j, none⟩ = some (.int .i64 ((O[j]?.getD 0 : Nat) : Int)) := by
  rcases h.at with h | ⟨b, off, rfl, hc⟩
  · rw [List.map_eq_nil_iff] at h; subst h; simp at h1
  · have hc' : ∀ j, j < O.length → w.cell? ⟨b, off + j, none⟩ = some (.int .i64 ((O[j]?.getD 0 : Nat) : Int)) := fun j hj => by
      rw [hc j (by simpa using hj)]; simp [hj]
    exact ⟨b, off, rfl, by have := World.block_lt_of_cell? w _ (hc' 0 (by omega)); exact this, hc'⟩

set_option maxRecDepth 100000 in
set_option maxHeartbeats 2000000 in
theorem letters_any (al ac aO : Option Addr) (cl cc cO n : Nat) (vh : Value) (crs : List Cr) (O : List Nat) (w : World) (h1 : 1 ≤ n) (h9 : n ≤ 9) (hc9 : crs.length ≤ 9)
    (hc : w.ownsRow 0 87 3 (.slice ac crs.length cc) crs.length (crCells crs)) (hlO : O.length = n) (hO : Ints w aO (O.map fun (x : Nat) => (x : Int))) (hOn : ∀ x ∈ O, x < n) (hcn : ∀ f ∈ crs, f.first < n ∧ f.second < n) :
    Calls Try.prog 24 #[.agg #[.slice al n cl, vh, .slice ac crs.length cc], .slice aO n cO] w
      fun e w' => e = .returned (.string (strOf (lettersZ crs (layersOf O n)))) ∧ Below w.heap.size w w' := by
  obtain ⟨bO, off, rfl, hbO, hOc⟩ := hO.nat (by omega)
  have HC := Lib.hid (creases_cells hc)
  have HOc := Lib.hid hOc
  have HlO := Lib.hid hlO
  have HN : Hid (∀ w0 : World, Calls Try.prog 40 #[.agg #[.slice al n cl, vh, .slice ac crs.length cc]] w0
      (Gives (fun v w' => ∃ g, v = .slice (some ⟨g, 0, none⟩) n n ∧ w0.heap.size ≤ g ∧ w'.heap[g]? = some (.cells (List.replicate n (Value.int .i64 (-1))).toArray 3 (0, 0))) w0)) :=
    Lib.hid fun w0 => noLayers_any al cl n _ _ w0 h1 (by omega)
  clear hc hO hOc hlO
  go_enter Try.func24, Try.ntmps24
  go_wp2_with (go_at_call 40; refine (HN.out _).mono ?_; rintro e w1 ⟨u, rfl, ⟨g, rfl, hg1, hg2⟩, hb1⟩; have H1 := Lib.hid (And.intro hg1 (And.intro hg2 hb1)); clear hg1 hg2 hb1)
  have hgw := H1.out.1
  have hb1 := H1.out.2.2
  simp at hgw hb1
  have HW1 := Lib.hid (((Below.refl _ w).alloc (Nat.le_refl _) _).trans (hb1.mono (show w.heap.size ≤ w.heap.size + 1 by omega)))
  have Hbx := Lib.hid (show Trip w1 w.heap.size 63 (.slice al n cl) vh (.slice ac crs.length cc) from (Trip.new w _ _ _ _).below hb1 (by omega))
  clear hb1
  go_loopw [17] (fun i wr => ∃ k : Nat, k ≤ n ∧ i = .int .i64 k ∧ Hid (wr.heap[g]? = some (.cells ((layersTo O n k).map (Value.int .i64)).toArray 3 (0, 0))) ∧ Below g w1 wr) (fun i _ => n - (intOf i).toNat)
  case atStart => exact ⟨0, Nat.zero_le _, rfl, (by refine Lib.hid ?_; rw [H1.out.2.1]; simp [layersTo]), Below.refl _ _⟩
  case round =>
    obtain ⟨k, hk, rfl, hL, hb⟩ := hrel
    have Hb := Lib.hid hb
    clear hb
    by_cases hlt : k < n
    · have hOk := HOc.out k (by rw [HlO.out]; exact hlt)
      replace hOk := (Hb.out.cell (p := ⟨bO, off + k, none⟩) (by simp; omega)).trans ((HW1.out.cell (p := ⟨bO, off + k, none⟩) hbO).trans hOk)
      have hx : O[k]?.getD 0 < n := hOn _ (by
        have hk' : k < O.length := by rw [HlO.out]; exact hlt
        simp [hk'])
      have hcell := row_at hL.out (j := O[k]?.getD 0) (by simpa using hx)
      have hfree : wr.frozen? ⟨g, O[k]?.getD 0, none⟩ = false := by simp [World.frozen?, hL.out]
      have Hset := Lib.hid (heap_setCell_self hL.out (i := O[k]?.getD 0) (.int .i64 (k : Int)))
      generalize hq : O[k]?.getD 0 = q at *
      have Hq := Lib.hid hq
      clear hq
      go_wp2
      go_roundw
      case rel =>
        refine ⟨k + 1, by omega, by go_num, ?_, Hb.out.setCell (by simp) _⟩
        have := Hset.out
        rw [show ((layersTo O n k).map (Value.int .i64)).toArray.setIfInBounds q (.int .i64 (k : Int)) = ((layersTo O n (k + 1)).map (Value.int .i64)).toArray by
          rw [layersTo, Hq.out, ← Array.toList_inj]; simp [List.map_set]] at this
        exact this
      case measure => simp [intOf]; omega
    · obtain rfl : k = n := by omega
      obtain ⟨wo, rfl⟩ : ∃ wo : World, wo = wr := ⟨_, rfl⟩
      have Hbox := Lib.hid (Hbx.out.below Hb.out (by omega))
      have x0 := Hbox.out.c0
      have x1 := Hbox.out.c1
      have x2 := Hbox.out.c2
      have HLL := Lib.hid (show wo.heap[g]? = some (.cells ((layersOf O k).map (Value.int .i64)).toArray 3 (0, 0)) by rw [layersOf, HlO.out]; exact hL.out)
      have HWr := Lib.hid (HW1.out.trans (Hb.out.mono (show w.heap.size ≤ g by omega)))
      have hgs := lt_of_block HLL.out
      obtain ⟨i8, hi8, hz8, hy8, hx8⟩ := info_parts Try.infoU8
      have HI := Lib.hid (And.intro hi8 (And.intro hz8 (And.intro hy8 hx8)))
      have HZ := Lib.hid (show i8.bytes * crs.length ≤ 281474976710656 by rw [hx8]; omega)
      have hws := HWr.out.size
      have hlL : (layersOf O k).length = k := layersTo_length _ _ _
      have HlL := Lib.hid hlL
      clear hi8 hz8 hy8 hx8 hL Hb hlL
      generalize hLe : layersOf O k = L at *
      have HLe := Lib.hid hLe
      clear hLe
      go_wp2_with (refine wpList_make_own _ rfl _ _ 85 rfl w.heap.size 5 i8 (.int .u8 0) 1 Try.underlying85 HI.out.1 HI.out.2.1 HI.out.2.2.1 .i64 .i64 _ crs.length rfl rfl rfl HZ.out (by unfold maxLen; omega) hws ?_; intro w3 hown3 hgr3; have y2 := (Hbox.out.grown hgr3 (by simp)).c2; have H3 := Lib.hid (And.intro hown3 (And.intro hgr3 (show Below wo.heap.size wo w3 from ⟨hgr3.os, hgr3.tape, hgr3.output, hgr3.size, fun b hb => hgr3.block b hb (by simp)⟩))); clear hown3 hgr3)
      have HL3 := Lib.hid (row_below HLL.out H3.out.2.2 hgs)
      have HW3 := Lib.hid (HWr.out.trans (H3.out.2.2.mono hws))
      have hgs3 := lt_of_block HL3.out
      have hn4 : wo.heap.size ≠ g := by omega
      have hws3 := HW3.out.size
      go_loopw [8, 34] (fun v i wr => ∃ (j gs cap : Nat), j ≤ crs.length ∧ i = .int .i64 j ∧ v = .slice (some ⟨gs, 0, none⟩) j cap ∧ wr.ownsRow w.heap.size 5 1 (.slice (some ⟨gs, 0, none⟩) j cap) j ((lettersZ (crs.take j) L).map (Value.int .u8)) ∧ Hid (wr.heap[g]? = some (.cells (L.map (Value.int .i64)).toArray 3 (0, 0))) ∧ Below w.heap.size w wr ∧ w3.heap.size ≤ wr.heap.size) (fun _ i _ => crs.length - (intOf i).toNat)
      case atStart => exact ⟨0, wo.heap.size, crs.length, Nat.zero_le _, rfl, rfl, by simpa [lettersZ] using H3.out.1, HL3, HW3.out, Nat.le_refl _⟩
      case round =>
        obtain ⟨j, gs, cap, hj, rfl, rfl, hown, hLq, hbq, hsq⟩ := hrel
        by_cases hlt : j < crs.length
        · rcases HC.out with h | ⟨bc, rfl, hbc, hcc⟩
          · subst h; simp at hlt
          obtain ⟨c0, c1, c2⟩ := hcc j hlt
          obtain ⟨n1, n2⟩ := hcn _ (List.getElem_mem hlt)
          replace c0 := (hbq.cell (p := ⟨bc, j * 3, none⟩) hbc).trans c0
          replace c1 := (hbq.cell (p := ⟨bc, j * 3 + 1, none⟩) hbc).trans c1
          replace c2 := (hbq.cell (p := ⟨bc, j * 3 + 2, none⟩) hbc).trans c2
          generalize hg : crs[j] = f at *
          have HG := Lib.hid hg
          have l1 := row_at hLq.out (j := f.first) (by rw [HlL.out]; exact n1)
          have l2 := row_at hLq.out (j := f.second) (by rw [HlL.out]; exact n2)
          have xg : g < wr.heap.size := lt_of_block hLq.out
          have xs := hown.lt gs rfl
          have hnxt : Hid (∀ b : Int, b = letterZ L f → (lettersZ (crs.take j) L).map (Value.int .u8) ++ [.int .u8 b] = (lettersZ (crs.take (j + 1)) L).map (Value.int .u8)) := Lib.hid fun b hb => by
            rw [List.take_succ_eq_append_getElem hlt, hg, hb]; simp [lettersZ]
          have hlet : Hid (letterZ L f = if ((f.first % 2 == 0) == decide (L[f.first]?.getD 0 < L[f.second]?.getD 0)) = true then 86 else 77) := Lib.hid rfl
          generalize hA : L[f.first]?.getD 0 = A at *
          generalize hA2 : L[f.second]?.getD 0 = A2 at *
          have HQ := Lib.hid (And.intro hown (And.intro hLq hbq))
          clear hg hA hA2 hown hbq hcc
          go_wp2
          go_quiet (fail)
          obtain ⟨wd, hwd⟩ : ∃ wd, (wr.alloc (.cells #[.int .i64 f.first, .int .i64 f.second, .int .i64 f.pos] 87)).drewN nq = wd := ⟨_, rfl⟩
          rw [hwd]
          have Hd := Lib.hid (show wd.ownsRow w.heap.size 5 1 (.slice (some ⟨gs, 0, none⟩) j cap) j ((lettersZ (crs.take j) L).map (Value.int .u8)) ∧ wd.heap[g]? = some (.cells (L.map (Value.int .i64)).toArray 3 (0, 0)) ∧ Below w.heap.size w wd ∧ wd.heap.size = wr.heap.size + 1 by
            rw [← hwd]
            exact ⟨ownsRow_of_block (HQ.out.1.alloc _) fun _ _ => rfl, (Below.heap_alloc wr _ g xg).trans HQ.out.2.1.out, below_drewN (HQ.out.2.2.alloc (by omega) _) _, by show (wr.alloc _).heap.size = _; simp⟩)
          clear hwd
          have Hne := Lib.hid (row_ne Hd.out.2.1 Hd.out.1 (by decide))
          go_wp2_with (first
            | (at_builtin; refine wpList_app_u8 rfl (.tmp 56) (.tmp 57) rfl w.heap.size _ _ _ rfl 86 _ rfl (by simp) Hd.out.1 (by omega) (by have := Hd.out.2.2.2; omega) ?_; intro g6 cap6 w6 hr6 hg6 hat6 _; have H6 := Lib.hid (And.intro hr6 hg6); clear hr6 hg6 hat6)
            | (at_builtin; refine wpList_app_u8 rfl (.tmp 59) (.tmp 60) rfl w.heap.size _ _ _ rfl 77 _ rfl (by simp) Hd.out.1 (by omega) (by have := Hd.out.2.2.2; omega) ?_; intro g6 cap6 w6 hr6 hg6 hat6 _; have H6 := Lib.hid (And.intro hr6 hg6); clear hr6 hg6 hat6))
          all_goals
            go_roundw
            case rel =>
              refine ⟨j + 1, g6, cap6, by omega, by go_num, rfl, ?_, Lib.hid ((H6.out.2.block g (by have := Hd.out.2.2.2; omega) Hne.out).trans Hd.out.2.1), Hd.out.2.2.1.grown H6.out.2 (by have := Hd.out.2.2.2; omega) (fun b hb => (Hd.out.1.lt b hb).1), by have := H6.out.2.size; have := Hd.out.2.2.2; omega⟩
              first
                | (rw [← hnxt.out 86 (by rw [hlet.out, ← par_eq, if_pos (by assumption)])]; exact H6.out.1)
                | (rw [← hnxt.out 77 (by rw [hlet.out, ← par_eq, if_neg (by rw [Bool.not_eq_true]; assumption)])]; exact H6.out.1)
            case measure => simp [intOf]; omega
        · have hk' : j = crs.length := by omega
          subst hk'
          rw [List.take_length] at hown
          have hcv := conv_str ⟨gs, 0, none⟩ rfl cap crs.length w.heap.size (lettersZ crs L) wr hown
          have HB := Lib.hid hbq
          clear hown hbq hLq
          go_wp2
          go_ret
          exact ⟨by rw [HLe.out]; rfl, HB.out⟩
end

section
open Go.RowKit Go.Sort Go.Shelf

theorem let_no {c : UInt8} (h1 : ¬ ((c.toNat : Int) = 77)) (h2 : ((c.toNat : Int) != 86) = true) : letB c = false := by
  have h2 : ¬ c.toNat = 86 := by simp at h2; omega
  have h1 : ¬ c.toNat = 77 := by omega
  simp [letB, ← UInt8.toNat_inj]
  omega
theorem let_yes {c : UInt8} (h2 : ((c.toNat : Int) != 86) = false) : letB c = true := by
  have h2 : c.toNat = 86 := by simp at h2; omega
  simp [letB, ← UInt8.toNat_inj]
  omega
theorem let_yes2 {c : UInt8} (h2 : (c.toNat : Int) = 77) : letB c = true := by
  simp [letB, ← UInt8.toNat_inj]
  omega

attribute [local go_sem] Oper.semAt_some

/-- The letters of an order of a strip. -/
def crsOf (zs : List Int) (o : List Nat) : ByteArray := strOf (lettersZ (layCl zs).crs (layersOf o zs.length))

/-- What 'Layers' hands back. -/
def LayersPost (zs : List Int) (pat : ByteArray) (w : World) (e : Ending) (w' : World) : Prop :=
  ∃ v err, e = .returned (.tuple #[v, .int .i64 err]) ∧ Below w.heap.size w w' ∧
    (match (ordersOf (layCl zs) zs.length).find? (fun o => (crsOf zs o).toList == pat.toList) with
     | some o => err = 0 ∧ ∃ g cap, v = .slice (some ⟨g, 0, none⟩) zs.length cap ∧ w.heap.size ≤ g ∧ w'.ownsRow 0 3 1 v zs.length (intsOf o)
     | none => err = 5 ∧ v = .slice none 0 0)

theorem placeAll_ok (c : Cl) (n : Nat) : ∀ (k : Nat) (L : List Int) (O : List Nat), (∀ x ∈ O, x < n) → ∀ o ∈ placeAll c n k L O, o.length = O.length + k ∧ ∀ x ∈ o, x < n
  | 0, L, O, hO, o, ho => by
    simp [placeAll] at ho
    subst ho
    exact ⟨rfl, hO⟩
  | k + 1, L, O, hO, o, ho => by
    rw [placeAll, List.mem_flatMap] at ho
    obtain ⟨s, hs, ho⟩ := ho
    rw [List.mem_range] at hs
    split at ho
    · obtain ⟨h1, h2⟩ := placeAll_ok c n k _ _ (by
        intro x hx
        rcases List.mem_append.1 hx with h | h
        · exact hO x h
        · simp at h; omega) o ho
      refine ⟨by rw [h1]; simp; omega, h2⟩
    · cases ho
theorem ordersOf_ok (c : Cl) (n : Nat) : ∀ o ∈ ordersOf c n, o.length = n ∧ ∀ x ∈ o, x < n := fun o ho => by
  have := placeAll_ok c n n _ [] (by simp) o ho
  simpa using this
end

section
open Go.RowKit Go.Sort Go.Shelf
attribute [local go_sem] Oper.semAt_some

theorem round_depth {l : Nat} {p : Prop} : (Fence.wide.inRound l).depth.isSome = true → p := fun h => by simp [Fence.inRound, Fence.wide] at h

def LayersI (zs : List Int) (pat : ByteArray) (wL : World) (ys : List (List Nat)) (W : World) : Prop := Below wL.heap.size wL W ∧ ∀ o ∈ ys, ((crsOf zs o).toList == pat.toList) = false
def LayersIx (zs : List Int) (pat : ByteArray) (w : World) (N1 : Nat) (j : Code) (ys : List (List Nat)) (W : World) : Prop :=
  j = .ret ∧ ∃ ys' x g cap, ys = ys' ++ [x] ∧ (∀ o ∈ ys', ((crsOf zs o).toList == pat.toList) = false) ∧ ((crsOf zs x).toList == pat.toList) = true ∧ N1 ≤ g ∧ W.ownsRow N1 3 1 (.slice (some ⟨g, 0, none⟩) zs.length cap) zs.length (intsOf x) ∧
    W.heap[w.heap.size + 1]? = some (.cells #[.slice (some ⟨g, 0, none⟩) zs.length cap] 22 (0, 0)) ∧ W.heap[w.heap.size + 2]? = some (.cells #[.int .i64 0] 32 (0, 0)) ∧ Below w.heap.size w W

/-- The world in which 'Layers' has laid its own. -/
def lw (w : World) (pat : ByteArray) : World := ((w.alloc (.cells #[.string pat] 9)).alloc (.cells #[.slice none 0 0] 22)).alloc (.cells #[.int .i64 0] 32)
theorem lw_below (w : World) (pat : ByteArray) : Below w.heap.size w (lw w pat) := (((Below.refl _ _).alloc (Nat.le_refl _) _).alloc (by simp) _).alloc (by simp; omega) _
theorem lw_size (w : World) (pat : ByteArray) : (lw w pat).heap.size = w.heap.size + 3 := by simp [lw]
theorem Ints.below {w w' : World} {a : Option Addr} {zs : List Int} (h : Ints w a zs) (hb : Below w.heap.size w w') : Ints w' a zs := fun i hi => by
  obtain ⟨b, off, e, hc⟩ := h i hi
  exact ⟨b, off, e, (hb.cell (p := ⟨b, off + i, none⟩) (World.block_lt_of_cell? w _ hc)).trans hc⟩

theorem layers_on {zs : List Int} {pat : ByteArray} {wL W w2 : World} {ys : List (List Nat)} {x : List Nat} (hb : Below wL.heap.size wL W) (hk : ∀ o ∈ ys, ((crsOf zs o).toList == pat.toList) = false) (h : ((crsOf zs x).toList == pat.toList) = false) (hb2 : Below W.heap.size W w2) :
    Above wL.heap.size W w2 ∧ LayersI zs pat wL (ys ++ [x]) w2 :=
  ⟨Above.of_below hb2, hb.trans (hb2.mono hb.size), fun o ho => by
    rcases List.mem_append.1 ho with ho | ho
    · exact hk o ho
    · obtain rfl : o = x := by simpa using ho
      exact h⟩
theorem layers_ret {zs : List Int} {pat : ByteArray} {w wL W w2 : World} {ys : List (List Nat)} {x : List Nat} {N1 g cp : Nat} {v4 v5 : Value} (hb : Below wL.heap.size wL W) (hk : ∀ o ∈ ys, ((crsOf zs o).toList == pat.toList) = false) (h : ((crsOf zs x).toList == pat.toList) = true) (hg : N1 ≤ g)
    (hrow : W.ownsRow N1 3 1 (.slice (some ⟨g, 0, none⟩) zs.length cp) zs.length (intsOf x)) (hb2 : Below W.heap.size W w2) (e4 : w2.heap[w.heap.size + 1]? = some (.cells #[v4] 22 (0, 0))) (e5 : w2.heap[w.heap.size + 1 + 1]? = some (.cells #[v5] 32 (0, 0)))
    (hs : w.heap.size + 1 + 1 < wL.heap.size) (hbw : Below w.heap.size w wL) (hN : wL.heap.size + 2 < N1) :
    Above wL.heap.size W ((w2.setCell ⟨w.heap.size + 1, 0, none⟩ (.slice (some ⟨g, 0, none⟩) zs.length cp)).setCell ⟨w.heap.size + 1 + 1, 0, none⟩ (.int .i64 0)) ∧
      LayersIx zs pat w N1 .ret (ys ++ [x]) ((w2.setCell ⟨w.heap.size + 1, 0, none⟩ (.slice (some ⟨g, 0, none⟩) zs.length cp)).setCell ⟨w.heap.size + 1 + 1, 0, none⟩ (.int .i64 0)) := by
  refine ⟨((Above.of_below hb2).setCell (by simp; omega) _).setCell (by simp; omega) _, rfl, ys, x, g, cp, rfl, hk, h, hg, ?_, ?_, ?_, ?_⟩
  · exact ownsRow_setCell_below (ownsRow_setCell_below (ownsRow_kept hrow hb2) (by simp; omega) _) (by simp; omega) _
  · rw [Below.heap_setCell _ _ _ _ (by simp)]
    exact one_setCell e4
  · exact one_setCell ((Below.heap_setCell _ _ _ _ (by simp)).trans e5)
  · exact ((hbw.trans ((hb.mono (by omega)).trans (hb2.mono (by have := hb.size; omega)))).setCell (by simp) _).setCell (by simp; omega) _
end

end Go.Proofs.Yteckeobhlfddlaa
