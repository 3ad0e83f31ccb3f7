/-
  The walks of 'foldedBy', 'Folds', 'Creases'.
-/
import Derived.Test.YteankhgikpejhaaGb
namespace Go.Proofs.Yteankhgikpejhaa
open Go.RowKit Go.Sort

theorem okAll_step (c : Cl) (n : Nat) (O : List Nat) : okFrom c n O 0 = (List.range n).all (stepB c n O) := by
  simp [okFrom]

set_option maxRecDepth 100000 in
set_option maxHeartbeats 2000000 in
theorem foldedBy_any (al ah ac aO : Option Addr) (cl ch cc cO n : Nat) (c : Cl) (O : List Nat) (w : World) (h1 : 1 ≤ n) (h9 : n ≤ 9) (hc9 : c.crs.length ≤ 9) (hlO : O.length = n)
    (hl : w.ownsRow 0 3 1 (.slice al n cl) n (c.low.map (Value.int .i64))) (hh : w.ownsRow 0 3 1 (.slice ah n ch) n (c.high.map (Value.int .i64)))
    (hc : w.ownsRow 0 101 3 (.slice ac c.crs.length cc) c.crs.length (crCells c.crs)) (hO : Ints w aO (O.map fun (x : Nat) => (x : Int))) (hOn : ∀ x ∈ O, x < n)
    (hcn : ∀ f ∈ c.crs, f.first < n ∧ f.second < n) :
    Calls Try.prog 50 #[.agg #[.slice al n cl, .slice ah n ch, .slice ac c.crs.length cc], .slice aO n cO] w
      fun e w' => e = .returned (.bool (okFrom c n O 0)) ∧ Below w.heap.size w w' := by
  have HO := Lib.hid hO.at
  have HlO := Lib.hid hlO
  have HX := Lib.hid (And.intro hl (And.intro hh hc))
  have HN : Hid (∀ w0 : World, Calls Try.prog 71 #[.agg #[.slice al n cl, .slice ah n ch, .slice ac c.crs.length cc]] w0
      (Gives (fun v w' => ∃ g, v = .slice (some ⟨g, 0, none⟩) n n ∧ w0.heap.size ≤ g ∧ w'.heap[g]? = some (.cells (List.replicate n (Value.int .i64 (-1))).toArray 3 (0, 0))) w0)) :=
    Lib.hid fun w0 => noLayers_any al cl n _ _ w0 h1 (by omega)
  clear hl hh hc hO hlO
  go_enter Try.func50, Try.ntmps50
  go_wp2_with (go_at_call 71; refine (HN.out _).mono ?_; rintro e w1 ⟨u, rfl, ⟨g, rfl, hg1, hg2⟩, hb1⟩; have H1 := Lib.hid (And.intro hg1 (And.intro hg2 hb1)); clear hg1 hg2 hb1)
  have hgw := H1.out.1
  have hb1 := H1.out.2.2
  simp at hgw hb1
  have HW1 := Lib.hid (((Below.refl _ w).alloc (Nat.le_refl _) _).trans (hb1.mono (show w.heap.size ≤ w.heap.size + 1 by omega)))
  have Hbx := Lib.hid (show Trip w1 w.heap.size 73 (.slice al n cl) (.slice ah n ch) (.slice ac c.crs.length cc) from (Trip.new w _ _ _ _).below hb1 (by omega))
  clear hb1
  go_loopw [12] (fun i wr => ∃ k : Nat, k ≤ n ∧ i = .int .i64 k ∧ (List.range k).all (stepB c n O) = true ∧ Hid (wr.heap[g]? = some (.cells ((layersTo O n k).map (Value.int .i64)).toArray 3 (0, 0))) ∧ Below g w1 wr) (fun i _ => n - (intOf i).toNat)
  case atStart => exact ⟨0, Nat.zero_le _, rfl, rfl, (by refine Lib.hid ?_; rw [H1.out.2.1]; simp [layersTo]), Below.refl _ _⟩
  case round =>
    obtain ⟨k, hk, rfl, hall, hL, hb⟩ := hrel
    have HA := Lib.hid hall
    have Hb := Lib.hid hb
    clear hall hb
    by_cases hlt : k < n
    · rcases HO.out with h | ⟨b, off, rfl, hcO⟩
      · have := HlO.out; simp at h; subst h; simp at this; omega
      have hkO : k < O.length := by have := HlO.out; omega
      have hx : O[k]?.getD 0 < n := hOn _ (by simp [hkO])
      have e0 : (O.map fun (x : Nat) => (x : Int))[k]?.getD 0 = ((O[k]?.getD 0 : Nat) : Int) := by simp [hkO]
      have cO' := hcO k (by simpa using hkO)
      rw [e0] at cO'
      have hbw := World.block_lt_of_cell? w _ cO'
      have c0 := (Hb.out.cell (p := ⟨b, off + k, none⟩) (by simp at hbw ⊢; omega)).trans ((HW1.out.cell (p := ⟨b, off + k, none⟩) hbw).trans cO')
      clear hcO cO' e0
      have HS : Hid (stepB c n O k = fitsB c (layersTo O n k) (O[k]?.getD 0)) := Lib.hid rfl
      have HT : Hid (layersTo O n (k + 1) = (layersTo O n k).set (O[k]?.getD 0) k) := Lib.hid rfl
      generalize O[k]?.getD 0 = q at *
      have hbox := Hbx.out.below Hb.out (by omega)
      have x0 := hbox.c0
      have x1 := hbox.c1
      have x2 := hbox.c2
      have hcell := row_at hL.out (j := q) (by simpa using hx)
      have hfree : wr.frozen? ⟨g, q, none⟩ = false := by simp [World.frozen?, hL.out]
      have Hww : Hid (Below w.heap.size w wr) := Lib.hid (HW1.out.trans (Hb.out.mono (by omega)))
      have HF : Hid (Calls Try.prog 72 #[.agg #[.slice al n cl, .slice ah n ch, .slice ac c.crs.length cc], .slice (some ⟨g, 0, none⟩) n n, .int .i64 q] wr
        (Gives (fun v _ => v = .bool (stepB c n O k)) wr)) := Lib.hid (by
          rw [HS.out]
          exact fits_any al ah ac (some ⟨g, 0, none⟩) cl ch cc n n q c (layersTo O n k) wr (by simp) h9 hc9 (ownsRow_kept HX.out.1 Hww.out) (ownsRow_kept HX.out.2.1 Hww.out) (ownsRow_kept HX.out.2.2 Hww.out)
            ⟨by simp, .inr ⟨g, n, _, rfl, Nat.zero_le _, hL.out, Nat.le_refl _, by unfold maxLen; omega, by simp, by simp [List.take_of_length_le]⟩⟩ hx hcn)
      have Hgl := Lib.hid (lt_of_block hL.out)
      clear hbox
      rcases Bool.eq_false_or_eq_true (stepB c n O k) with hs | hs
      all_goals
        rw [hs] at HF
        have HSS := Lib.hid hs
        clear hs
        go_wp2_with (go_at_call 72; refine HF.out.mono ?_; rintro e w2 ⟨v, rfl, rfl, hb2⟩; have HL2 := Lib.hid (row_below hL.out hb2 Hgl.out); have hfree2 : w2.frozen? ⟨g, q, none⟩ = false := row_free HL2.out q; have hcell2 := row_at HL2.out (j := q) (by simpa using hx); have H2 := Lib.hid hb2; clear hb2)
      · have Hset := Lib.hid (heap_setCell_self HL2.out (i := q) (.int .i64 (k : Int)))
        go_roundw
        case rel =>
          refine ⟨k + 1, by omega, by go_num, range_all_next _ _ HA.out HSS.out, ?_, (Hb.out.trans (H2.out.mono (by have := Hgl.out; omega))).setCell (by simp) _⟩
          refine Lib.hid ?_
          rw [Hset.out, HT.out]
          congr 2
          rw [← Array.toList_inj]
          simp [List.map_set]
        case measure => simp [intOf]; omega
      · go_ret
        refine ⟨ret_bool (Eq.symm ?_), Hww.out.trans (H2.out.mono Hww.out.size)⟩
        rw [okAll_step, range_all_false _ _ _ hlt HSS.out]
    · obtain rfl : k = n := by omega
      go_wp2
      go_ret
      exact ⟨ret_bool (by rw [okAll_step, HA.out]), HW1.out.trans (Hb.out.mono (by omega))⟩

/-- What 'Folds' answers. -/
def foldsZ (zs os : List Int) : Bool × Int := if stripB zs = true then (if orderB os zs.length = true then (okFrom (layCl zs) zs.length (os.map Int.toNat) 0, 0) else (false, 2)) else (false, 1)
/-- What 'Creases' answers. -/
def creasesZ (zs os : List Int) : ByteArray × Int := if (foldsZ zs os).2 = 0 then (if (foldsZ zs os).1 = true then (crsOf zs (os.map Int.toNat), 0) else (⟨#[]⟩, 5)) else (⟨#[]⟩, (foldsZ zs os).2)

theorem toNat_back (O : List Nat) : (O.map fun (x : Nat) => (x : Int)).map Int.toNat = O := by
  rw [List.map_map]
  conv => rhs; rw [← List.map_id O]
  exact List.map_congr_left fun x _ => Int.toNat_natCast x

set_option maxRecDepth 100000 in
set_option maxHeartbeats 1000000 in
theorem Folds_any (a aO : Option Addr) (n cap m cO : Nat) (zs os : List Int) (w : World) (b : Bool) (err : Int) (hn : zs.length = n) (hm : n ≤ 9223372036854775807) (hz : Ints w a zs)
    (hnO : os.length = m) (hmO : m ≤ 9223372036854775807) (hO : Ints w aO os) (h : foldsZ zs os = (b, err)) :
    Calls Try.prog 16 #[.slice a n cap, .slice aO m cO] w (Gives2 (.bool b) (.int .i64 err) w) := by
  have his := isStrip_any a n cap zs w hn hm hz
  rcases Bool.eq_false_or_eq_true (stripB zs) with hs | hs
  · rw [hs] at his
    obtain ⟨p1, p9, ps⟩ := strip_parts hs
    have hio := isOrder_any aO m cO n os w hnO hmO (by omega) (by omega) hO
    have Hcl := Lib.hid (clothOfStrip_any a n cap zs · hn (by omega) ps)
    rcases Bool.eq_false_or_eq_true (orderB os zs.length) with ho | ho
    · rw [← hn, ho, hn] at hio
      have h' : okFrom (layCl zs) zs.length (os.map Int.toNat) 0 = b ∧ 0 = err := by
        rw [foldsZ, if_pos hs, if_pos ho] at h
        exact ⟨congrArg Prod.fst h, congrArg Prod.snd h⟩
      obtain ⟨O, rfl, _, hv, hl⟩ := orderB_nat ho
      rw [toNat_back] at h'
      obtain ⟨rfl, rfl⟩ := h'
      have His := Lib.hid his
      have Hio := Lib.hid hio
      have HZ := Lib.hid (And.intro hz (And.intro hO (And.intro hv (And.intro hl hn))))
      have Hm : Hid (m = n) := Lib.hid (by rw [← hnO, List.length_map, hl, hn])
      clear his hio hz hO hl hs ho h hnO hn
      go_enter Try.func16, Try.ntmps16
      go_wp2_with (first
        | (go_at_call 47; refine His.out.mono ?_; rintro e w1 ⟨rfl, rfl⟩)
        | (go_at_call 48; refine Hio.out.mono ?_; rintro e w1 ⟨rfl, hb1⟩; have H1 := Lib.hid hb1; clear hb1)
        | (go_at_call 49; refine (Hcl.out w1 (HZ.out.1.below H1.out)).mono ?_; rintro e w2 ⟨v, rfl, hv2, hb2⟩; obtain ⟨al, cl, ah, ch, ac, cc, rfl, hl, hh, hc⟩ := hv2.slices; have H2 := Lib.hid (And.intro hb2 (And.intro hl (And.intro hh hc))); clear hb2 hl hh hc hv2))
      have hbw : Below w.heap.size w w2 := H1.out.trans (H2.out.1.mono H1.out.size)
      have hf := foldedBy_any al ah ac aO cl ch cc cO zs.length (layCl zs) O w2 p1 p9 (by simp; omega) HZ.out.2.2.2.1 (ownsRow_weaken (by have := H2.out.2.1; rwa [layCl_low] at this) (Nat.zero_le _)) (ownsRow_weaken (by have := H2.out.2.2.1; rwa [layCl_high] at this) (Nat.zero_le _)) (ownsRow_weaken H2.out.2.2.2 (Nat.zero_le _)) (HZ.out.2.1.below hbw) HZ.out.2.2.1 (layCl_in zs)
      rw [layCl_crs] at hf
      obtain rfl : m = zs.length := by rw [Hm.out, HZ.out.2.2.2.2]
      refine hf.mono ?_
      rintro e w3 ⟨rfl, hb3⟩
      have H3 := Lib.hid (hbw.trans (hb3.mono hbw.size))
      clear hf hb3 hbw
      go_wp2
      go_ret2
      exact ⟨rfl, H3.out⟩
    · rw [← hn, ho, hn] at hio
      have h' : false = b ∧ 2 = err := by
        rw [foldsZ, if_pos hs, if_neg (by rw [ho]; exact Bool.false_ne_true)] at h
        exact ⟨congrArg Prod.fst h, congrArg Prod.snd h⟩
      obtain ⟨rfl, rfl⟩ := h'
      have His := Lib.hid his
      have Hio := Lib.hid hio
      clear his hio hz hO hs ho h hnO hn
      go_enter Try.func16, Try.ntmps16
      go_wp2_with (first
        | (go_at_call 47; refine His.out.mono ?_; rintro e w1 ⟨rfl, rfl⟩)
        | (go_at_call 48; refine Hio.out.mono ?_; rintro e w1 ⟨rfl, hb1⟩; have H1 := Lib.hid hb1; clear hb1))
      go_ret2
      exact ⟨rfl, H1.out⟩
  · rw [hs] at his
    have h' : false = b ∧ 1 = err := by
      rw [foldsZ, if_neg (by rw [hs]; exact Bool.false_ne_true)] at h
      exact ⟨congrArg Prod.fst h, congrArg Prod.snd h⟩
    obtain ⟨rfl, rfl⟩ := h'
    have His := Lib.hid his
    clear his hz hO hn h hnO hs
    go_enter Try.func16, Try.ntmps16
    go_wp2_with (go_at_call 47; refine His.out.mono ?_; rintro e w1 ⟨rfl, rfl⟩)
    go_ret2
    exact ⟨rfl, Below.refl _ _⟩

theorem foldsZ_parts {zs os : List Int} {b : Bool} (h : foldsZ zs os = (b, 0)) : stripB zs = true ∧ ∃ O : List Nat, os = O.map (fun (x : Nat) => (x : Int)) ∧ O.Nodup ∧ (∀ x ∈ O, x < zs.length) ∧ O.length = zs.length ∧ okFrom (layCl zs) zs.length O 0 = b := by
  unfold foldsZ at h
  split at h
  · rename_i hs
    split at h
    · rename_i ho
      obtain ⟨O, rfl, h1, h2, h3⟩ := orderB_nat ho
      rw [toNat_back] at h
      exact ⟨hs, O, rfl, h1, h2, h3, congrArg Prod.fst h⟩
    · cases congrArg Prod.snd h
  · cases congrArg Prod.snd h

set_option maxRecDepth 100000 in
set_option maxHeartbeats 1000000 in
theorem Creases_any (a aO : Option Addr) (n cap m cO : Nat) (zs os : List Int) (w : World) (t : ByteArray) (err : Int) (hn : zs.length = n) (hm : n ≤ 9223372036854775807) (hz : Ints w a zs)
    (hnO : os.length = m) (hmO : m ≤ 9223372036854775807) (hO : Ints w aO os) (h : creasesZ zs os = (t, err)) :
    Calls Try.prog 17 #[.slice a n cap, .slice aO m cO] w (Gives2 (.string t) (.int .i64 err) w) := by
  obtain ⟨b, e1, hf⟩ : ∃ b e1, foldsZ zs os = (b, e1) := ⟨_, _, rfl⟩
  have hc := Lib.hid (Folds_any a aO n cap m cO zs os w b e1 hn hm hz hnO hmO hO hf)
  unfold creasesZ at h
  rw [hf] at h
  by_cases h0 : e1 = 0
  · subst h0
    rw [if_pos rfl] at h
    cases b with
    | true =>
      rw [if_pos rfl] at h
      obtain ⟨hs, O, rfl, _, hv, hl, _⟩ := foldsZ_parts hf
      rw [toNat_back] at h
      obtain ⟨rfl, rfl⟩ : crsOf zs O = t ∧ 0 = err := ⟨congrArg Prod.fst h, congrArg Prod.snd h⟩
      obtain ⟨p1, p9, ps⟩ := strip_parts hs
      have Hcl := Lib.hid (clothOfStrip_any a n cap zs · hn (by omega) ps)
      have HZ := Lib.hid (And.intro hz (And.intro hO (And.intro hv (And.intro hl hn))))
      have Hm : Hid (m = zs.length) := Lib.hid (by rw [← hnO, List.length_map, hl])
      clear hz hO hl hs h hnO hn hf
      go_enter Try.func17, Try.ntmps17
      go_wp2_with (first
        | (go_at_call 16; refine hc.out.mono ?_; rintro e w1 ⟨rfl, hb1⟩; have H1 := Lib.hid hb1; clear hb1)
        | (go_at_call 49; refine (Hcl.out w1 (HZ.out.1.below H1.out)).mono ?_; rintro e w2 ⟨v, rfl, hv2, hb2⟩; obtain ⟨al, cl, ah, ch, ac, cc, rfl, hl, hh, hc⟩ := hv2.slices; have H2 := Lib.hid (And.intro hb2 (And.intro hl (And.intro hh hc))); clear hb2 hl hh hc hv2))
      have hbw : Below w.heap.size w w2 := H1.out.trans (H2.out.1.mono H1.out.size)
      have hf := letters_any al ac aO cl cc cO zs.length (.slice ah zs.length ch) (layCl zs).crs O w2 p1 p9 (by simp; omega) (ownsRow_weaken H2.out.2.2.2 (Nat.zero_le _)) HZ.out.2.2.2.1 (HZ.out.2.1.below hbw) HZ.out.2.2.1 (layCl_in zs)
      rw [layCl_crs] at hf
      obtain rfl : m = zs.length := Hm.out
      refine hf.mono ?_
      rintro e w3 ⟨rfl, hb3⟩
      have H3 := Lib.hid (hbw.trans (hb3.mono hbw.size))
      clear hf hb3 hbw
      go_wp2
      go_ret2
      exact ⟨rfl, H3.out⟩
    | false =>
      rw [if_neg Bool.false_ne_true] at h
      obtain ⟨rfl, rfl⟩ : (⟨#[]⟩ : ByteArray) = t ∧ 5 = err := ⟨congrArg Prod.fst h, congrArg Prod.snd h⟩
      clear hz hO h hnO hn hf
      go_enter Try.func17, Try.ntmps17
      go_wp2_with (go_at_call 16; refine hc.out.mono ?_; rintro e w1 ⟨rfl, hb1⟩; have H1 := Lib.hid hb1; clear hb1)
      go_ret2
      exact ⟨rfl, H1.out⟩
  · rw [if_neg h0] at h
    obtain ⟨rfl, rfl⟩ : (⟨#[]⟩ : ByteArray) = t ∧ e1 = err := ⟨congrArg Prod.fst h, congrArg Prod.snd h⟩
    have h1 : (e1 != 0) = true := by rw [bne_iff_ne]; exact h0
    clear hz hO h hnO hn hf h0
    go_enter Try.func17, Try.ntmps17
    go_wp2_with (go_at_call 16; refine hc.out.mono ?_; rintro e w1 ⟨rfl, hb1⟩; have H1 := Lib.hid hb1; clear hb1)
    go_ret2
    exact ⟨rfl, H1.out⟩

end Go.Proofs.Yteankhgikpejhaa
