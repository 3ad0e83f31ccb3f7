/-
  What the reference says of an order of a vertex, crease by crease; the walks of Closes and creases.
-/
import Derived.Test.YteankhgikpejhaaKa
import Derived.Test.YteankhgikpejhaaNa
namespace Go.Proofs.Yteankhgikpejhaa
open Go.RowKit Go.Sort

def crIx (crs : List Cr) (k : Nat) : Cr := crs[k]?.getD ⟨0, 0, 0⟩
def segOKv (crs : List Cr) (zs L : List Int) (k i : Nat) : Bool := !(btwB (crIx crs k).pos (posAt zs i) (posAt zs (i + 1)) && btwB (atL L i) (atL L (crIx crs k).first) (atL L (crIx crs k).second))
def crOKv (crs : List Cr) (L : List Int) (k j : Nat) : Bool :=
  !(decide (j ≠ k) && ((crIx crs j).pos == (crIx crs k).pos) && (rightS (crIx crs j) == rightS (crIx crs k)) && (btwB (atL L (crIx crs j).first) (atL L (crIx crs k).first) (atL L (crIx crs k).second) != btwB (atL L (crIx crs j).second) (atL L (crIx crs k).first) (atL L (crIx crs k).second)))
def rowOKv (crs : List Cr) (zs L : List Int) (n m k : Nat) : Bool := (List.range n).all (segOKv crs zs L k) && (List.range m).all (crOKv crs L k)
def refBv (crs : List Cr) (zs : List Int) (O : List Nat) : Bool := (List.range crs.length).all (rowOKv crs zs (layTo0 O zs.length zs.length) zs.length crs.length)

theorem crIx_get {crs : List Cr} {k : Nat} (h : k < crs.length) : crIx crs k = crs[k] := by simp [crIx, h]
theorem crIx_mem {crs : List Cr} {k : Nat} (h : k < crs.length) : crIx crs k ∈ crs := by rw [crIx_get h]; exact List.getElem_mem h

/-- The reference's answer is that of the layers one by one. -/
theorem refBv_ok {zs : List Int} {c : Cl} {O : List Nat} (hF : Fair zs.length (posAt zs) c rightS) (hn : O.Nodup) (hv : ∀ x ∈ O, x < zs.length) (hl : O.length = zs.length) : refBv c.crs zs O = okFrom c zs.length O 0 := by
  have hL : ∀ s, s < zs.length → atL (layTo0 O zs.length zs.length) s = (layerN O s : Int) := fun s hs => by
    rw [atL, layTo0_layer hn hv hl]; simp [hs]
  rw [Bool.eq_iff_iff, okFrom_iff hF hn hv hl]
  simp only [refBv, rowOKv, List.all_eq_true, List.mem_range, Bool.and_eq_true]
  constructor
  · intro h
    refine ⟨fun f hf i hi hb => ?_, fun f hf g hg e1 e2 => ?_⟩
    · obtain ⟨k, hk, rfl⟩ := List.getElem_of_mem hf
      obtain ⟨a1, a2, _⟩ := hF.ends _ hf
      have := (h k hk).1 i hi
      rw [segOKv, crIx_get hk, hL i hi, hL _ a1, hL _ a2, hb.1, hb.2] at this
      cases this
    · obtain ⟨k, hk, rfl⟩ := List.getElem_of_mem hf
      obtain ⟨j, hj, rfl⟩ := List.getElem_of_mem hg
      obtain ⟨a1, a2, _⟩ := hF.ends _ hf
      obtain ⟨b1, b2, _⟩ := hF.ends _ hg
      by_cases hjk : j = k
      · subst hjk
        have c1 : btwB (layerN O c.crs[j].first : Int) (layerN O c.crs[j].first : Int) (layerN O c.crs[j].second : Int) = false := by
          rw [Bool.eq_false_iff, Ne, btwB_iff]; omega
        have c2 : btwB (layerN O c.crs[j].second : Int) (layerN O c.crs[j].first : Int) (layerN O c.crs[j].second : Int) = false := by
          rw [Bool.eq_false_iff, Ne, btwB_iff]; omega
        exact c1.trans c2.symm
      · have := (h k hk).2 j hj
        rw [crOKv, crIx_get hj, crIx_get hk, hL _ a1, hL _ a2, hL _ b1, hL _ b2, e1, e2, decide_eq_true hjk] at this
        simpa using this
  · rintro ⟨h1, h2⟩ k hk
    obtain ⟨a1, a2, _⟩ := hF.ends _ (crIx_mem hk)
    refine ⟨fun i hi => ?_, fun j hj => ?_⟩
    · rw [segOKv, hL i hi, hL _ a1, hL _ a2, Bool.not_eq_true', Bool.eq_false_iff, Ne, Bool.and_eq_true]
      exact h1 _ (crIx_mem hk) i hi
    · obtain ⟨b1, b2, _⟩ := hF.ends _ (crIx_mem hj)
      rw [crOKv, hL _ a1, hL _ a2, hL _ b1, hL _ b2, Bool.not_eq_true', Bool.eq_false_iff, Ne, Bool.and_eq_true, Bool.and_eq_true, Bool.and_eq_true]
      rintro ⟨⟨⟨_, e1⟩, e2⟩, e3⟩
      have := h2 _ (crIx_mem hk) _ (crIx_mem hj) (beq_iff_eq.1 e1) (beq_iff_eq.1 e2)
      rw [bne_iff_ne] at e3
      exact e3 this

/-- A crease as the reference writes it. -/
def toRc (f : Cr) : Rc := ⟨f.pos, f.first, f.second, rightS f⟩
theorem rc_cells_at {wm w : World} {crs : List Cr} {m g cap : Nat} (h : CollR wm (crs.map toRc) m (.slice (some ⟨g, 0, none⟩) m cap) w) (k : Nat) (hk : k < m) :
    w.cell? ⟨g, k * 4, none⟩ = some (.int .i64 (crIx crs k).pos) ∧ w.cell? ⟨g, k * 4 + 1, none⟩ = some (.int .i64 ((crIx crs k).first : Nat)) ∧ w.cell? ⟨g, k * 4 + 2, none⟩ = some (.int .i64 ((crIx crs k).second : Nat)) ∧ w.cell? ⟨g, k * 4 + 3, none⟩ = some (.bool (rightS (crIx crs k))) := by
  have hr := h.owns
  have hm : (crs.map toRc).length = m := h.2.1
  have hl : k < (crs.map toRc).length := by omega
  obtain ⟨a, b, c, d⟩ := rcCells_at (crs.map toRc) k hl
  have hk' : k < crs.length := by rw [List.length_map] at hm; omega
  have e : (crs.map toRc)[k] = toRc (crIx crs k) := by simp [crIx, hk']
  rw [e] at a b c d
  exact ⟨(hr.cellAt _ (by omega)).trans a, (hr.cellAt _ (by omega)).trans b, (hr.cellAt _ (by omega)).trans c, (hr.cellAt _ (by omega)).trans d⟩

/-- The creases that the reference collects, the first k segments being joined. -/
def vrcs (zs : List Int) (k : Nat) : List Rc := ⟨posAt zs 0, (zs.length : Int) - 1, 0, decide (posAt zs 0 < posAt zs 1)⟩ :: rcsOf zs k
theorem vrcs_succ (zs : List Int) (k : Nat) : vrcs zs (k + 1) = vrcs zs k ++ [rcAt zs k] := by simp [vrcs, rcsOf, List.range_succ]
theorem vrcs_all {zs : List Int} (hs : sizesB zs = true) (h2 : 2 ≤ zs.length) : vrcs zs (zs.length - 1) = (vtxCl zs).crs.map toRc := by
  have hz := size_in hs 0 (by omega)
  have e0 : posAt zs 1 = 0 + zs[0]?.getD 0 := by simp [posAt]
  rw [vrcs, vtxCl, List.map_cons]
  congr 1
  · simp only [toRc, rightS]
    have : decide (posAt zs 0 < posAt zs 1) = true := by
      rw [decide_eq_true_eq, e0]
      have : zs[0]?.getD 0 = zs[0] := by simp [show 0 < zs.length by omega]
      simp only [posAt]; omega
    rw [this]
    have e : ((zs.length - 1 : Nat) : Int) = (zs.length : Int) - 1 := by omega
    simp [posAt, e]
  · simp only [rcsOf, layCl, crsTo, List.map_map]
    refine List.map_congr_left fun i hi => ?_
    rw [List.mem_range] at hi
    have := rightZ_eq hs (k := i) (by omega)
    simp only [Function.comp, toRc, rcAt, rightS]
    rw [rightZ] at this
    rw [this]
    simp

/-- The creases of an order of a vertex. -/
def crsOfV (zs : List Int) (O : List Nat) : ByteArray := strOf (lettersZ (vtxCl zs).crs (layersOf O zs.length))
/-- The letter of a crease as the reference says it. -/
def letRv (L : List Int) (f : Cr) : UInt8 := if ((f.first % 2 == 0) == decide (atL L f.first < atL L f.second)) = true then 86 else 77
theorem letRv_crs {zs : List Int} {c : Cl} {O : List Nat} (hF : Fair zs.length (posAt zs) c rightS) (hn : O.Nodup) (hv : ∀ x ∈ O, x < zs.length) (hl : O.length = zs.length) :
    (List.range c.crs.length).map (fun k => letRv (layTo0 O zs.length zs.length) (crIx c.crs k)) = (strOf (lettersZ c.crs (layersOf O zs.length))).data.toList := by
  have hL : ∀ s, s < zs.length → atL (layTo0 O zs.length zs.length) s = (layerN O s : Int) := fun s hs => by
    rw [atL, layTo0_layer hn hv hl]; simp [hs]
  rw [strOf_list, lettersZ, List.map_map]
  refine List.ext_getElem (by simp) fun k h1 h2 => ?_
  have hk : k < c.crs.length := by simpa using h1
  obtain ⟨a1, a2, _⟩ := hF.ends _ (List.getElem_mem hk)
  simp only [List.getElem_map, List.getElem_range, Function.comp]
  rw [crIx_get hk]
  simp only [letRv, letterZ]
  rw [hL _ a1, hL _ a2, layersOf_at hn hv hl a1, layersOf_at hn hv hl a2]
  split <;> rfl

theorem vtx_in {zs : List Int} (h2 : 2 ≤ zs.length) : ∀ f ∈ (vtxCl zs).crs, f.first < zs.length ∧ f.second < zs.length := by
  intro f hf
  rcases mem_vtx hf with rfl | ⟨i, hi, rfl⟩
  · exact ⟨by show zs.length - 1 < _; omega, by show 0 < _; omega⟩
  · exact ⟨by show i < _; omega, hi⟩
@[simp] theorem vtx_length (zs : List Int) : (vtxCl zs).crs.length = zs.length - 1 + 1 := by simp [vtxCl]


set_option maxRecDepth 100000 in
set_option maxHeartbeats 4000000 in
theorem Closes_any (a : Option Addr) (n cap : Nat) (zs : List Int) (r : Bool) (w : World) (hn : zs.length = n) (h2 : 2 ≤ n) (h9 : n ≤ 9) (hs : sizesB zs = true) (hz : Ints w a zs) (hr : closesB zs = r) :
    Calls Try.prog 56 #[.slice a n cap] w fun e w' => e = .returned (.bool r) ∧ Below w.heap.size w w' := by
  have hpl := Lib.hid (places_any a n cap zs w hn h9 hs hz)
  have hpn : Hid ((posL zs (n + 1)).length = n + 1) := Lib.hid (by simp [posL])
  have HP := Lib.hid (posL_at zs (n + 1) n (by omega))
  have HR : Hid (closesB zs = (decide (n % 2 = 0) && decide (posAt zs n = 0))) := Lib.hid (by rw [closesB, hn])
  have HN := Lib.hid hr
  clear hz hs hn hr
  rcases Bool.eq_false_or_eq_true ((n : Int) % 2 == 0) with hp | hp
  · have HE : Hid (closesB zs = decide (posAt zs n = 0)) := Lib.hid (by
      rw [HR.out, decide_eq_true (by rw [beq_iff_eq] at hp; omega), Bool.true_and])
    go_enter Try.func56, Try.ntmps56
    go_wp2_with fail
    refine hpl.out.mono ?_
    rintro e w1 ⟨v, rfl, hv, hb1⟩
    obtain ⟨gp, cp, rfl, hI1⟩ := hv.ints
    have H1 := Lib.hid hb1
    have cn : w1.cell? ⟨gp, n, none⟩ = some (.int .i64 (posAt zs n)) := by
      obtain ⟨b, off, e, hc⟩ := hI1 n (by rw [hpn.out]; omega)
      cases e
      rw [Nat.zero_add, HP.out] at hc
      exact hc
    clear hv hI1 hb1
    rw [hpn.out]
    obtain ⟨P, hP⟩ : ∃ P, posAt zs n = P := ⟨_, rfl⟩
    rw [hP] at cn HE
    clear hP HP
    go_wp2
    go_ret
    exact ⟨ret_bool (by rw [← HN.out, HE.out]; rfl), H1.out⟩
  · have HE : Hid (closesB zs = false) := Lib.hid (by
      rw [HR.out, decide_eq_false (by rw [beq_eq_false_iff_ne] at hp; omega), Bool.false_and])
    go_enter Try.func56, Try.ntmps56
    go_wp2
    go_ret
    exact ⟨ret_bool (by rw [← HN.out, HE.out]), Below.refl _ _⟩

set_option maxRecDepth 100000 in
set_option maxHeartbeats 4000000 in
theorem creases_vertex (a : Option Addr) (n M cap : Nat) (crs : List Cr) (zs : List Int) (w : World) (hn : zs.length = n) (h2 : 2 ≤ n) (h9 : n ≤ 9) (hs : sizesB zs = true) (hcrs : (vtxCl zs).crs = crs) (hM : crs.length = M) (hz : Ints w a zs) :
    Calls Try.prog 59 #[.slice a n cap, .bool true] w (Gives (fun v w' => ∃ wm, Below w.heap.size w wm ∧ CollR wm (crs.map toRc) M v w') w) := by
  have hpl := Lib.hid (places_any a n cap zs w hn h9 hs hz)
  have HE : Hid (vrcs zs (n - 1) = crs.map toRc ∧ M = n) := Lib.hid (by
    have e := vrcs_all hs (by omega)
    rw [hcrs, hn] at e
    refine ⟨e, ?_⟩
    rw [← hM, ← hcrs, vtx_length, hn]; omega)
  have HN := Lib.hid hn
  clear hz hn hs hcrs hM
  go_enter Try.func59, Try.ntmps59
  go_wp2_with (go_at_call 57; refine hpl.out.mono ?_; rintro e w1 ⟨v, rfl, hv, hb1⟩; obtain ⟨gp, cp, rfl, hI1⟩ := hv.ints; have H1 := Lib.hid (And.intro hI1 hb1); clear hv hI1 hb1)
  have hpn : Hid ((posL zs (n + 1)).length = n + 1) := Lib.hid (by simp [posL])
  rw [hpn.out]
  have hC0 : CollR w1 [] 0 (.slice (some ⟨w1.heap.size, 0, none⟩) 0 0) (w1.alloc (.cells #[] 84)) :=
    ⟨(Below.refl _ _).alloc (Nat.le_refl _) _, rfl, w1.heap.size, 0, rfl, rfl, .inr ⟨w1.heap.size, 0, #[], rfl, Nat.le_refl _, heap_alloc_new w1 _, Nat.le_refl _, by unfold maxLen; omega, rfl, rfl⟩⟩
  have hJ := joined_int gp 0 cp (n + 1) ((n : Int) - 1) 0 (posL zs (n + 1)) _ hpn.out (by omega) (by omega) (by omega) (H1.out.1.below hC0.1)
  rw [show (0 : Int).toNat = 0 from rfl, posL_at zs (n + 1) 0 (by omega), posL_at zs (n + 1) (0 + 1) (by omega)] at hJ
  have HC0 := Lib.hid hC0
  have HJ := Lib.hid hJ
  clear hC0 hJ
  refine HJ.out.mono ?_
  rintro e w3 ⟨rfl, hb3⟩
  have HC3 := Lib.hid (HC0.out.grow hb3)
  have hsz3 := Nat.le_trans HC0.out.1.size hb3.size
  clear HC0 HJ hb3
  go_wp2_with (at_builtin; refine wpList_app_rc rfl (.tmp 12) (.tmp 18) rfl w1.heap.size _ _ _ rfl ⟨posAt zs 0, (n : Int) - 1, 0, decide (posAt zs 0 < posAt zs (0 + 1))⟩ _ rfl rfl HC3.out.owns (by omega) hsz3 ?_; intro g cpx w4 hr4 hg4; have H4 := Lib.hid (HC3.out.next hr4 hg4); clear hr4 hg4)
  go_loopw [6, 7] (fun v i wr => ∃ k : Nat, k + 1 ≤ n ∧ i = .int .i64 ((k : Int) + 1) ∧ CollR w1 (vrcs zs k) (k + 1) v wr) (fun _ i _ => n - (intOf i).toNat)
  case atStart => exact ⟨0, by omega, rfl, by rw [vrcs, HN.out]; exact H4.out⟩
  case round =>
    obtain ⟨k, hk, rfl, hC⟩ := hrel
    by_cases hlt : k + 1 < n
    · have hJ := joined_int gp 0 cp (n + 1) k ((k : Int) + 1) (posL zs (n + 1)) wr hpn.out (by omega) (by omega) (by omega) (H1.out.1.below hC.1)
      rw [show ((k : Int) + 1).toNat = k + 1 by omega, posL_at zs (n + 1) (k + 1) (by omega), posL_at zs (n + 1) (k + 1 + 1) (by omega)] at hJ
      have HJ := Lib.hid hJ
      have HD := Lib.hid (vrcs_succ zs k)
      have HC := Lib.hid hC
      have hsz := hC.1.size
      clear hC hJ
      obtain ⟨_, _, g0, cp0, rfl, _⟩ := HC.out
      go_wp2_with (fail)
      refine HJ.out.mono ?_
      rintro e w3 ⟨rfl, hb3⟩
      have HC3 := Lib.hid (HC.out.grow hb3)
      have hsz3 := Nat.le_trans hsz hb3.size
      clear HC HJ hb3
      go_wp2_with (at_builtin; refine wpList_app_rc rfl (.tmp 26) (.tmp 32) rfl w1.heap.size _ _ _ rfl (rcAt zs k) _ rfl rfl HC3.out.owns (by omega) hsz3 ?_; intro g cpx w4 hr4 hg4; have H4 := Lib.hid (HC3.out.next hr4 hg4); clear hr4 hg4)
      go_roundw
      case rel => exact ⟨k + 1, by omega, by go_num, by rw [HD.out]; exact H4.out⟩
      case measure => simp [intOf]; omega
    · have hk' : n - 1 = k := by omega
      have HC := Lib.hid hC
      clear hC
      obtain ⟨_, _, g0, cp0, rfl, _⟩ := HC.out
      go_wp2
      go_ret
      refine ⟨_, rfl, ⟨w1, H1.out.2, ?_⟩, H1.out.2.trans (HC.out.1.mono H1.out.2.size)⟩
      have := HC.out
      rw [← hk', HE.out.1] at this
      rw [show M = k + 1 by rw [HE.out.2]; omega]
      rw [show n - 1 + 1 = k + 1 by omega] at this
      exact this

end Go.Proofs.Yteankhgikpejhaa
