/-
  What the reference says of an order of a vertex, crease by crease; the walks of Closes, creases, Folds and Letters at a vertex.
-/
import Derived.Test.YteankhgikpejhaaKa
import Derived.Test.YteankhgikpejhaaNa
namespace Go.Proofs.Yteankhgikpejhaa
open Go.RowKit Go.Sort

def crIx (crs : List Cr) (k : Nat) : Cr := crs[k]?.getD ⟨0, 0, 0⟩
def segOKv (crs : List Cr) (zs L : List Int) (k i : Nat) : Bool := !(btwB (crIx crs k).pos (posAt zs i) (posAt zs (i + 1)) && btwB (atL L i) (atL L (crIx crs k).first) (atL L (crIx crs k).second))
def crOKv (crs : List Cr) (L : List Int) (k j : Nat) : Bool :=
  !(decide (j ≠ k) && ((crIx crs j).pos == (crIx crs k).pos) && (rightS (crIx crs j) == rightS (crIx crs k)) && (btwB (atL L (crIx crs j).first) (atL L (crIx crs k).first) (atL L (crIx crs k).second) != btwB (atL L (crIx crs j).second) (atL L (crIx crs k).first) (atL L (crIx crs k).second)))
def rowOKv (crs : List Cr) (zs L : List Int) (n m k : Nat) : Bool := (List.range n).all (segOKv crs zs L k) && (List.range m).all (crOKv crs L k)
def refBv (crs : List Cr) (zs : List Int) (O : List Nat) : Bool := (List.range crs.length).all (rowOKv crs zs (layTo0 O zs.length zs.length) zs.length crs.length)

theorem crIx_get {crs : List Cr} {k : Nat} (h : k < crs.length) : crIx crs k = crs[k] := by simp [crIx, h]
theorem crIx_mem {crs : List Cr} {k : Nat} (h : k < crs.length) : crIx crs k ∈ crs := by rw [crIx_get h]; exact List.getElem_mem h

/-- The reference's answer is that of the layers one by one. -/
theorem refBv_ok {zs : List Int} {c : Cl} {O : List Nat} (hF : Fair zs.length (posAt zs) c rightS) (hn : O.Nodup) (hv : ∀ x ∈ O, x < zs.length) (hl : O.length = zs.length) : refBv c.crs zs O = okFrom c zs.length O 0 := by
  have hL : ∀ s, s < zs.length → atL (layTo0 O zs.length zs.length) s = (layerN O s : Int) := fun s hs => by
    rw [atL, layTo0_layer hn hv hl]; simp [hs]
  rw [Bool.eq_iff_iff, okFrom_iff hF hn hv hl]
  simp only [refBv, rowOKv, List.all_eq_true, List.mem_range, Bool.and_eq_true]
  constructor
  · intro h
    refine ⟨fun f hf i hi hb => ?_, fun f hf g hg e1 e2 => ?_⟩
    · obtain ⟨k, hk, rfl⟩ := List.getElem_of_mem hf
      obtain ⟨a1, a2, _⟩ := hF.ends _ hf
      have := (h k hk).1 i hi
      rw [segOKv, crIx_get hk, hL i hi, hL _ a1, hL _ a2, hb.1, hb.2] at this
      cases this
    · obtain ⟨k, hk, rfl⟩ := List.getElem_of_mem hf
      obtain ⟨j, hj, rfl⟩ := List.getElem_of_mem hg
      obtain ⟨a1, a2, _⟩ := hF.ends _ hf
      obtain ⟨b1, b2, _⟩ := hF.ends _ hg
      by_cases hjk : j = k
      · subst hjk
        have c1 : btwB (layerN O c.crs[j].first : Int) (layerN O c.crs[j].first : Int) (layerN O c.crs[j].second : Int) = false := by
          rw [Bool.eq_false_iff, Ne, btwB_iff]; omega
        have c2 : btwB (layerN O c.crs[j].second : Int) (layerN O c.crs[j].first : Int) (layerN O c.crs[j].second : Int) = false := by
          rw [Bool.eq_false_iff, Ne, btwB_iff]; omega
        exact c1.trans c2.symm
      · have := (h k hk).2 j hj
        rw [crOKv, crIx_get hj, crIx_get hk, hL _ a1, hL _ a2, hL _ b1, hL _ b2, e1, e2, decide_eq_true hjk] at this
        simpa using this
  · rintro ⟨h1, h2⟩ k hk
    obtain ⟨a1, a2, _⟩ := hF.ends _ (crIx_mem hk)
    refine ⟨fun i hi => ?_, fun j hj => ?_⟩
    · rw [segOKv, hL i hi, hL _ a1, hL _ a2, Bool.not_eq_true', Bool.eq_false_iff, Ne, Bool.and_eq_true]
      exact h1 _ (crIx_mem hk) i hi
    · obtain ⟨b1, b2, _⟩ := hF.ends _ (crIx_mem hj)
      rw [crOKv, hL _ a1, hL _ a2, hL _ b1, hL _ b2, Bool.not_eq_true', Bool.eq_false_iff, Ne, Bool.and_eq_true, Bool.and_eq_true, Bool.and_eq_true]
      rintro ⟨⟨⟨_, e1⟩, e2⟩, e3⟩
      have := h2 _ (crIx_mem hk) _ (crIx_mem hj) (beq_iff_eq.1 e1) (beq_iff_eq.1 e2)
      rw [bne_iff_ne] at e3
      exact e3 this

/-- A crease as the reference writes it. -/
def toRc (f : Cr) : Rc := ⟨f.pos, f.first, f.second, rightS f⟩
theorem rc_cells_at {wm w : World} {crs : List Cr} {m g cap : Nat} (h : CollR wm (crs.map toRc) m (.slice (some ⟨g, 0, none⟩) m cap) w) (k : Nat) (hk : k < m) :
    w.cell? ⟨g, k * 4, none⟩ = some (.int .i64 (crIx crs k).pos) ∧ w.cell? ⟨g, k * 4 + 1, none⟩ = some (.int .i64 ((crIx crs k).first : Nat)) ∧ w.cell? ⟨g, k * 4 + 2, none⟩ = some (.int .i64 ((crIx crs k).second : Nat)) ∧ w.cell? ⟨g, k * 4 + 3, none⟩ = some (.bool (rightS (crIx crs k))) := by
  have hr := h.owns
  have hm : (crs.map toRc).length = m := h.2.1
  have hl : k < (crs.map toRc).length := by omega
  obtain ⟨a, b, c, d⟩ := rcCells_at (crs.map toRc) k hl
  have hk' : k < crs.length := by rw [List.length_map] at hm; omega
  have e : (crs.map toRc)[k] = toRc (crIx crs k) := by simp [crIx, hk']
  rw [e] at a b c d
  exact ⟨(hr.cellAt _ (by omega)).trans a, (hr.cellAt _ (by omega)).trans b, (hr.cellAt _ (by omega)).trans c, (hr.cellAt _ (by omega)).trans d⟩

/-- The creases that the reference collects, the first k segments being joined. -/
def vrcs (zs : List Int) (k : Nat) : List Rc := ⟨posAt zs 0, (zs.length : Int) - 1, 0, decide (posAt zs 0 < posAt zs 1)⟩ :: rcsOf zs k
theorem vrcs_succ (zs : List Int) (k : Nat) : vrcs zs (k + 1) = vrcs zs k ++ [rcAt zs k] := by simp [vrcs, rcsOf, List.range_succ]
theorem vrcs_all {zs : List Int} (hs : sizesB zs = true) (h2 : 2 ≤ zs.length) : vrcs zs (zs.length - 1) = (vtxCl zs).crs.map toRc := by
  have hz := size_in hs 0 (by omega)
  have e0 : posAt zs 1 = 0 + zs[0]?.getD 0 := by simp [posAt]
  rw [vrcs, vtxCl, List.map_cons]
  congr 1
  · simp only [toRc, rightS]
    have : decide (posAt zs 0 < posAt zs 1) = true := by
      rw [decide_eq_true_eq, e0]
      have : zs[0]?.getD 0 = zs[0] := by simp [show 0 < zs.length by omega]
      simp only [posAt]; omega
    rw [this]
    have e : ((zs.length - 1 : Nat) : Int) = (zs.length : Int) - 1 := by omega
    simp [posAt, e]
  · simp only [rcsOf, layCl, crsTo, List.map_map]
    refine List.map_congr_left fun i hi => ?_
    rw [List.mem_range] at hi
    have := rightZ_eq hs (k := i) (by omega)
    simp only [Function.comp, toRc, rcAt, rightS]
    rw [rightZ] at this
    rw [this]
    simp

/-- The creases of an order of a vertex. -/
def crsOfV (zs : List Int) (O : List Nat) : ByteArray := strOf (lettersZ (vtxCl zs).crs (layersOf O zs.length))
/-- The letter of a crease as the reference says it. -/
def letRv (L : List Int) (f : Cr) : UInt8 := if ((f.first % 2 == 0) == decide (atL L f.first < atL L f.second)) = true then 86 else 77
theorem letRv_crs {zs : List Int} {c : Cl} {O : List Nat} (hF : Fair zs.length (posAt zs) c rightS) (hn : O.Nodup) (hv : ∀ x ∈ O, x < zs.length) (hl : O.length = zs.length) :
    (List.range c.crs.length).map (fun k => letRv (layTo0 O zs.length zs.length) (crIx c.crs k)) = (strOf (lettersZ c.crs (layersOf O zs.length))).data.toList := by
  have hL : ∀ s, s < zs.length → atL (layTo0 O zs.length zs.length) s = (layerN O s : Int) := fun s hs => by
    rw [atL, layTo0_layer hn hv hl]; simp [hs]
  rw [strOf_list, lettersZ, List.map_map]
  refine List.ext_getElem (by simp) fun k h1 h2 => ?_
  have hk : k < c.crs.length := by simpa using h1
  obtain ⟨a1, a2, _⟩ := hF.ends _ (List.getElem_mem hk)
  simp only [List.getElem_map, List.getElem_range, Function.comp]
  rw [crIx_get hk]
  simp only [letRv, letterZ]
  rw [hL _ a1, hL _ a2, layersOf_at hn hv hl a1, layersOf_at hn hv hl a2]
  split <;> rfl

theorem vtx_in {zs : List Int} (h2 : 2 ≤ zs.length) : ∀ f ∈ (vtxCl zs).crs, f.first < zs.length ∧ f.second < zs.length := by
  intro f hf
  rcases mem_vtx hf with rfl | ⟨i, hi, rfl⟩
  · exact ⟨by show zs.length - 1 < _; omega, by show 0 < _; omega⟩
  · exact ⟨by show i < _; omega, hi⟩
@[simp] theorem vtx_length (zs : List Int) : (vtxCl zs).crs.length = zs.length - 1 + 1 := by simp [vtxCl]


set_option maxRecDepth 100000 in
set_option maxHeartbeats 4000000 in
theorem Closes_any (a : Option Addr) (n cap : Nat) (zs : List Int) (r : Bool) (w : World) (hn : zs.length = n) (h2 : 2 ≤ n) (h9 : n ≤ 9) (hs : sizesB zs = true) (hz : Ints w a zs) (hr : closesB zs = r) :
    Calls Try.prog 56 #[.slice a n cap] w fun e w' => e = .returned (.bool r) ∧ Below w.heap.size w w' := by
  have hpl := Lib.hid (places_any a n cap zs w hn h9 hs hz)
  have hpn : Hid ((posL zs (n + 1)).length = n + 1) := Lib.hid (by simp [posL])
  have HP := Lib.hid (posL_at zs (n + 1) n (by omega))
  have HR : Hid (closesB zs = (decide (n % 2 = 0) && decide (posAt zs n = 0))) := Lib.hid (by rw [closesB, hn])
  have HN := Lib.hid hr
  clear hz hs hn hr
  rcases Bool.eq_false_or_eq_true ((n : Int) % 2 == 0) with hp | hp
  · have HE : Hid (closesB zs = decide (posAt zs n = 0)) := Lib.hid (by
      rw [HR.out, decide_eq_true (by rw [beq_iff_eq] at hp; omega), Bool.true_and])
    go_enter Try.func56, Try.ntmps56
    go_wp2_with fail
    refine hpl.out.mono ?_
    rintro e w1 ⟨v, rfl, hv, hb1⟩
    obtain ⟨gp, cp, rfl, hI1⟩ := hv.ints
    have H1 := Lib.hid hb1
    have cn : w1.cell? ⟨gp, n, none⟩ = some (.int .i64 (posAt zs n)) := by
      obtain ⟨b, off, e, hc⟩ := hI1 n (by rw [hpn.out]; omega)
      cases e
      rw [Nat.zero_add, HP.out] at hc
      exact hc
    clear hv hI1 hb1
    rw [hpn.out]
    obtain ⟨P, hP⟩ : ∃ P, posAt zs n = P := ⟨_, rfl⟩
    rw [hP] at cn HE
    clear hP HP
    go_wp2
    go_ret
    exact ⟨ret_bool (by rw [← HN.out, HE.out]; rfl), H1.out⟩
  · have HE : Hid (closesB zs = false) := Lib.hid (by
      rw [HR.out, decide_eq_false (by rw [beq_eq_false_iff_ne] at hp; omega), Bool.false_and])
    go_enter Try.func56, Try.ntmps56
    go_wp2
    go_ret
    exact ⟨ret_bool (by rw [← HN.out, HE.out]), Below.refl _ _⟩

set_option maxRecDepth 100000 in
set_option maxHeartbeats 4000000 in
theorem creases_vertex (a : Option Addr) (n M cap : Nat) (crs : List Cr) (zs : List Int) (w : World) (hn : zs.length = n) (h2 : 2 ≤ n) (h9 : n ≤ 9) (hs : sizesB zs = true) (hcrs : (vtxCl zs).crs = crs) (hM : crs.length = M) (hz : Ints w a zs) :
    Calls Try.prog 59 #[.slice a n cap, .bool true] w (Gives (fun v w' => ∃ wm, Below w.heap.size w wm ∧ CollR wm (crs.map toRc) M v w') w) := by
  have hpl := Lib.hid (places_any a n cap zs w hn h9 hs hz)
  have HE : Hid (vrcs zs (n - 1) = crs.map toRc ∧ M = n) := Lib.hid (by
    have e := vrcs_all hs (by omega)
    rw [hcrs, hn] at e
    refine ⟨e, ?_⟩
    rw [← hM, ← hcrs, vtx_length, hn]; omega)
  have HN := Lib.hid hn
  clear hz hn hs hcrs hM
  go_enter Try.func59, Try.ntmps59
  go_wp2_with (go_at_call 57; refine hpl.out.mono ?_; rintro e w1 ⟨v, rfl, hv, hb1⟩; obtain ⟨gp, cp, rfl, hI1⟩ := hv.ints; have H1 := Lib.hid (And.intro hI1 hb1); clear hv hI1 hb1)
  have hpn : Hid ((posL zs (n + 1)).length = n + 1) := Lib.hid (by simp [posL])
  rw [hpn.out]
  have hC0 : CollR w1 [] 0 (.slice (some ⟨w1.heap.size, 0, none⟩) 0 0) (w1.alloc (.cells #[] 84)) :=
    ⟨(Below.refl _ _).alloc (Nat.le_refl _) _, rfl, w1.heap.size, 0, rfl, rfl, .inr ⟨w1.heap.size, 0, #[], rfl, Nat.le_refl _, heap_alloc_new w1 _, Nat.le_refl _, by unfold maxLen; omega, rfl, rfl⟩⟩
  have hJ := joined_int gp 0 cp (n + 1) ((n : Int) - 1) 0 (posL zs (n + 1)) _ hpn.out (by omega) (by omega) (by omega) (H1.out.1.below hC0.1)
  rw [show (0 : Int).toNat = 0 from rfl, posL_at zs (n + 1) 0 (by omega), posL_at zs (n + 1) (0 + 1) (by omega)] at hJ
  have HC0 := Lib.hid hC0
  have HJ := Lib.hid hJ
  clear hC0 hJ
  refine HJ.out.mono ?_
  rintro e w3 ⟨rfl, hb3⟩
  have HC3 := Lib.hid (HC0.out.grow hb3)
  have hsz3 := Nat.le_trans HC0.out.1.size hb3.size
  clear HC0 HJ hb3
  go_wp2_with (at_builtin; refine wpList_app_rc rfl (.tmp 12) (.tmp 18) rfl w1.heap.size _ _ _ rfl ⟨posAt zs 0, (n : Int) - 1, 0, decide (posAt zs 0 < posAt zs (0 + 1))⟩ _ rfl rfl HC3.out.owns (by omega) hsz3 ?_; intro g cpx w4 hr4 hg4; have H4 := Lib.hid (HC3.out.next hr4 hg4); clear hr4 hg4)
  go_loopw [6, 7] (fun v i wr => ∃ k : Nat, k + 1 ≤ n ∧ i = .int .i64 ((k : Int) + 1) ∧ CollR w1 (vrcs zs k) (k + 1) v wr) (fun _ i _ => n - (intOf i).toNat)
  case atStart => exact ⟨0, by omega, rfl, by rw [vrcs, HN.out]; exact H4.out⟩
  case round =>
    obtain ⟨k, hk, rfl, hC⟩ := hrel
    by_cases hlt : k + 1 < n
    · have hJ := joined_int gp 0 cp (n + 1) k ((k : Int) + 1) (posL zs (n + 1)) wr hpn.out (by omega) (by omega) (by omega) (H1.out.1.below hC.1)
      rw [show ((k : Int) + 1).toNat = k + 1 by omega, posL_at zs (n + 1) (k + 1) (by omega), posL_at zs (n + 1) (k + 1 + 1) (by omega)] at hJ
      have HJ := Lib.hid hJ
      have HD := Lib.hid (vrcs_succ zs k)
      have HC := Lib.hid hC
      have hsz := hC.1.size
      clear hC hJ
      obtain ⟨_, _, g0, cp0, rfl, _⟩ := HC.out
      go_wp2_with (fail)
      refine HJ.out.mono ?_
      rintro e w3 ⟨rfl, hb3⟩
      have HC3 := Lib.hid (HC.out.grow hb3)
      have hsz3 := Nat.le_trans hsz hb3.size
      clear HC HJ hb3
      go_wp2_with (at_builtin; refine wpList_app_rc rfl (.tmp 26) (.tmp 32) rfl w1.heap.size _ _ _ rfl (rcAt zs k) _ rfl rfl HC3.out.owns (by omega) hsz3 ?_; intro g cpx w4 hr4 hg4; have H4 := Lib.hid (HC3.out.next hr4 hg4); clear hr4 hg4)
      go_roundw
      case rel => exact ⟨k + 1, by omega, by go_num, by rw [HD.out]; exact H4.out⟩
      case measure => simp [intOf]; omega
    · have hk' : n - 1 = k := by omega
      have HC := Lib.hid hC
      clear hC
      obtain ⟨_, _, g0, cp0, rfl, _⟩ := HC.out
      go_wp2
      go_ret
      refine ⟨_, rfl, ⟨w1, H1.out.2, ?_⟩, H1.out.2.trans (HC.out.1.mono H1.out.2.size)⟩
      have := HC.out
      rw [← hk', HE.out.1] at this
      rw [show M = k + 1 by rw [HE.out.2]; omega]
      rw [show n - 1 + 1 = k + 1 by omega] at this
      exact this


set_option maxRecDepth 200000 in
set_option maxHeartbeats 8000000 in
theorem refFoldsV_any (a aO : Option Addr) (n M cap cO : Nat) (crs : List Cr) (zs : List Int) (O : List Nat) (w : World) (hn : zs.length = n) (hg : vertexB zs = true) (hc : closesB zs = true) (hcrs : (vtxCl zs).crs = crs) (hM : crs.length = M) (hM9 : M ≤ 9) (hz : Ints w a zs) (hl : O.length = n) (hv : ∀ x ∈ O, x < n) (hO : Ints w aO (O.map fun (x : Nat) => (x : Int))) :
    Calls Try.prog 22 #[.slice a n cap, .slice aO n cO, .bool true] w fun e w' => e = .returned (.bool (refBv crs zs O)) ∧ Below w.heap.size w w' := by
  obtain ⟨p2, p8, ps⟩ := vertex_parts hg
  have h8 : n ≤ 8 := by omega
  have hcl := Lib.hid (Closes_any a n cap zs true · hn (by omega) (by omega) ps · hc)
  have hpl := Lib.hid (places_any a n cap zs · hn (by omega) ps)
  have hla := Lib.hid (fun wx => layers_any aO n cO O wx hl (by omega) (by omega) hv)
  have hcr := Lib.hid (creases_vertex a n M cap crs zs · hn (by omega) (by omega) ps hcrs hM)
  have hends : Hid (∀ k, k < M → (crIx crs k).first < n ∧ (crIx crs k).second < n) := Lib.hid fun k hk => by
    have := vtx_in (zs := zs) (by omega) _ (by rw [hcrs]; exact crIx_mem (by omega : k < crs.length))
    rwa [hn] at this
  have HZ := Lib.hid (And.intro hz (And.intro hO (And.intro hn hM)))
  clear hz hO hn hl hv ps hg p2 p8 hcrs hM hc
  go_enter Try.func22, Try.ntmps22
  go_wp2_with (first
    | (go_at_call 56; refine (hcl.out w HZ.out.1).mono ?_; rintro e w0 ⟨rfl, hb0⟩; have H0 := Lib.hid hb0; clear hb0)
    | (go_at_call 57; refine (hpl.out w0 (HZ.out.1.below H0.out)).mono ?_; rintro e w1 ⟨v, rfl, hv1, hb1⟩; obtain ⟨gp, cp, rfl, hI1⟩ := hv1.ints; have H1 := Lib.hid (And.intro hI1 (H0.out.trans (hb1.mono H0.out.size))); clear hv1 hI1 hb1)
    | (go_at_call 58; refine (hla.out w1 (HZ.out.2.1.below H1.out.2)).mono ?_; rintro e w2 ⟨v, rfl, hv2, hb2⟩; obtain ⟨gL, cL, rfl, hI2⟩ := hv2.ints; have H2 := Lib.hid (And.intro (H1.out.1.below hb2) (And.intro hI2 (H1.out.2.trans (hb2.mono H1.out.2.size)))); clear hv2 hI2 hb2)
    | (go_at_call 59; refine (hcr.out w2 (HZ.out.1.below H2.out.2.2)).mono ?_; rintro e w3 ⟨v, rfl, ⟨wm, hwm, hC⟩, hb3⟩; have H3 := Lib.hid (And.intro (H2.out.1.below hb3) (And.intro (H2.out.2.1.below hb3) (And.intro hC (H2.out.2.2.trans (hb3.mono H2.out.2.2.size))))); clear hwm hC hb3))
  have hlP : Hid ((posL zs (n + 1)).length = n + 1) := Lib.hid (by simp [posL])
  have hlL : Hid ((layTo0 O n n).length = n) := Lib.hid (by simp)
  obtain ⟨_, _, gc, cc, rfl, _⟩ := H3.out.2.2.1
  have H4 := Lib.hid (show (∀ wr, Below w3.heap.size w3 wr → (∀ i, i < n + 1 → wr.cell? ⟨gp, i, none⟩ = some (.int .i64 (posAt zs i))) ∧ (∀ i, i < n → wr.cell? ⟨gL, i, none⟩ = some (.int .i64 (atL (layTo0 O n n) i))) ∧
      (∀ k, k < M → wr.cell? ⟨gc, k * 4, none⟩ = some (.int .i64 (crIx crs k).pos) ∧ wr.cell? ⟨gc, k * 4 + 1, none⟩ = some (.int .i64 ((crIx crs k).first : Nat)) ∧ wr.cell? ⟨gc, k * 4 + 2, none⟩ = some (.int .i64 ((crIx crs k).second : Nat)) ∧ wr.cell? ⟨gc, k * 4 + 3, none⟩ = some (.bool (rightS (crIx crs k))))) from fun wr hb => by
    refine ⟨fun i hi => ?_, fun i hi => ?_, fun k hk => ?_⟩
    · obtain ⟨b, off, e, hc⟩ := (H3.out.1.below hb) i (by rw [hlP.out]; exact hi)
      cases e
      rw [Nat.zero_add, posL_at zs _ _ hi] at hc
      exact hc
    · obtain ⟨b, off, e, hc⟩ := (H3.out.2.1.below hb) i (by rw [hlL.out]; exact hi)
      cases e
      rw [Nat.zero_add] at hc
      exact hc
    · exact rc_cells_at (H3.out.2.2.1.grow hb) k hk)
  have HB3 := Lib.hid H3.out.2.2.2
  have HR : Hid (refBv crs zs O = (List.range M).all (rowOKv crs zs (layTo0 O n n) n M)) := Lib.hid (by rw [refBv, HZ.out.2.2.1, HZ.out.2.2.2])
  obtain ⟨L, hL⟩ : ∃ L, layTo0 O n n = L := ⟨_, rfl⟩
  rw [hL] at H4 HR hlL
  rw [hlP.out]
  clear H0 H1 H2 H3 hcl hpl hla hcr HZ hL
  go_loopw [10] (fun i wr => ∃ k : Nat, k ≤ M ∧ i = .int .i64 k ∧ (List.range k).all (rowOKv crs zs L n M) = true ∧ Below w3.heap.size w3 wr) (fun i _ => M - (intOf i).toNat)
  case atStart => exact ⟨0, Nat.zero_le _, rfl, rfl, Below.refl _ _⟩
  case round =>
    obtain ⟨k, hk, rfl, hall, hb⟩ := hrel
    have HA := Lib.hid hall
    have HB := Lib.hid hb
    clear hall hb
    by_cases hlt : k < M
    · obtain ⟨hP, hLL, hCC⟩ := H4.out wr HB.out
      obtain ⟨c0, c1, c2, c3⟩ := hCC k hlt
      obtain ⟨hS, hT⟩ := hends.out k hlt
      have l0 := hLL _ hS
      have l1 := hLL _ hT
      clear hP hLL hCC
      obtain ⟨A, hA⟩ : ∃ A, atL L (crIx crs k).first = A := ⟨_, rfl⟩
      obtain ⟨B, hB⟩ : ∃ B, atL L (crIx crs k).second = B := ⟨_, rfl⟩
      rw [hA] at l0
      rw [hB] at l1
      have HAB := Lib.hid (And.intro hA hB)
      clear hA hB
      generalize (crIx crs k).first = S at c1 l0 hS
      generalize (crIx crs k).second = T at c2 l1 hT
      go_wp2
      go_quiet (fail)
      obtain ⟨w5, hw5⟩ : ∃ w5, wr.drewN nq = w5 := ⟨_, rfl⟩
      have HB5 : Hid (Below w3.heap.size w3 w5) := Lib.hid (by rw [← hw5]; exact below_drewN HB.out _)
      rw [hw5]
      clear hw5 c0 c1 c2 c3 l0 l1 HB
      clear wr
      go_wp2
      go_loopw [13] (fun i wr => ∃ i' : Nat, i' ≤ n ∧ i = .int .i64 i' ∧ (List.range i').all (segOKv crs zs L k) = true ∧ Below w3.heap.size w3 wr) (fun i _ => n - (intOf i).toNat)
      case atStart => exact ⟨0, Nat.zero_le _, rfl, rfl, HB5.out⟩
      case round =>
        obtain ⟨i, hi, rfl, hall2, hb2⟩ := hrel
        have HA2 := Lib.hid hall2
        have HB2 := Lib.hid hb2
        clear hall2 hb2
        by_cases hlt2 : i < n
        · obtain ⟨hP, hLL, hCC⟩ := H4.out wr HB2.out
          obtain ⟨c0, _, _, _⟩ := hCC k hlt
          have d0 := hP i (by omega)
          have d1 := hP (i + 1) (by omega)
          have l0 := hLL i (by omega)
          clear hP hLL hCC
          have HSG : Hid (segOKv crs zs L k i = !(btwB (crIx crs k).pos (posAt zs i) (posAt zs (i + 1)) && btwB (atL L i) A B)) := Lib.hid (by rw [← HAB.out.1, ← HAB.out.2]; rfl)
          obtain ⟨X, hX⟩ : ∃ X, (crIx crs k).pos = X := ⟨_, rfl⟩
          obtain ⟨Y, hY⟩ : ∃ Y, posAt zs i = Y := ⟨_, rfl⟩
          obtain ⟨Z, hZ⟩ : ∃ Z, posAt zs (i + 1) = Z := ⟨_, rfl⟩
          obtain ⟨V, hV⟩ : ∃ V, atL L i = V := ⟨_, rfl⟩
          rw [hX] at c0
          rw [hX, hY, hZ, hV] at HSG
          rw [hY] at d0
          rw [hZ] at d1
          rw [hV] at l0
          clear hX hY hZ hV
          obtain ⟨r1, hr1⟩ : ∃ r, btwB X Y Z = r := ⟨_, rfl⟩
          obtain ⟨r2, hr2⟩ : ∃ r, btwB V A B = r := ⟨_, rfl⟩
          rw [hr1, hr2] at HSG
          have K1 := Lib.hid (between_known X Y Z r1 hr1)
          have K2 := Lib.hid (between_known V A B r2 hr2)
          clear hr1 hr2
          cases r1
          · go_wp2
            go_quiet ((first | (with_reducible exact Calls.quiet_of_same (K1.out _)) | (with_reducible exact Calls.quiet_of_same (K2.out _))))
            go_wp2
            go_roundw
            case rel => exact ⟨i + 1, by omega, by go_num, range_all_next _ _ HA2.out (by rw [HSG.out]; rfl), below_drewN HB2.out _⟩
            case measure => simp [intOf]; omega
          · cases r2
            · go_wp2
              go_quiet ((first | (with_reducible exact Calls.quiet_of_same (K1.out _)) | (with_reducible exact Calls.quiet_of_same (K2.out _))))
              go_wp2
              go_roundw
              case rel => exact ⟨i + 1, by omega, by go_num, range_all_next _ _ HA2.out (by rw [HSG.out]; rfl), below_drewN HB2.out _⟩
              case measure => simp [intOf]; omega
            · go_wp2
              go_quiet ((first | (with_reducible exact Calls.quiet_of_same (K1.out _)) | (with_reducible exact Calls.quiet_of_same (K2.out _))))
              go_wp2
              go_ret
              refine ⟨ret_bool (Eq.symm ?_), below_drewN (HB3.out.trans (HB2.out.mono HB3.out.size)) _⟩
              rw [HR.out, range_all_false _ _ _ hlt (by rw [rowOKv, range_all_false _ _ _ hlt2 (by rw [HSG.out]; rfl), Bool.false_and])]
        · obtain rfl : i = n := by omega
          rename World => w6
          have HB6 := Lib.hid HB2.out
          have HSeg := Lib.hid HA2.out
          clear HB2 HA2
          go_wp2
          go_loopw [14] (fun i wr => ∃ j : Nat, j ≤ M ∧ i = .int .i64 j ∧ (List.range j).all (crOKv crs L k) = true ∧ Below w3.heap.size w3 wr) (fun i _ => M - (intOf i).toNat)
          case atStart => exact ⟨0, Nat.zero_le _, rfl, rfl, HB6.out⟩
          case round =>
            obtain ⟨j, hj, rfl, hall3, hb3⟩ := hrel
            have HA3 := Lib.hid hall3
            have HB7 := Lib.hid hb3
            clear hall3 hb3
            by_cases hlt3 : j < M
            · obtain ⟨hP, hLL, hCC⟩ := H4.out wr HB7.out
              obtain ⟨c0, c1, c2, c3⟩ := hCC k hlt
              obtain ⟨e0, e1, e2, e3⟩ := hCC j hlt3
              obtain ⟨hS, hT⟩ := hends.out j hlt3
              have l0 := hLL _ hS
              have l1 := hLL _ hT
              clear hP hLL hCC
              have HCO : Hid (crOKv crs L k j = !(decide (j ≠ k) && ((crIx crs j).pos == (crIx crs k).pos) && (rightS (crIx crs j) == rightS (crIx crs k)) && (btwB (atL L (crIx crs j).first) A B != btwB (atL L (crIx crs j).second) A B))) := Lib.hid (by rw [← HAB.out.1, ← HAB.out.2]; rfl)
              clear c1 c2
              generalize (crIx crs k).pos = Pk at *
              generalize (crIx crs j).pos = Pj at *
              generalize rightS (crIx crs k) = Rk at *
              generalize rightS (crIx crs j) = Rj at *
              obtain ⟨V1, hV1⟩ : ∃ V, atL L (crIx crs j).first = V := ⟨_, rfl⟩
              obtain ⟨V2, hV2⟩ : ∃ V, atL L (crIx crs j).second = V := ⟨_, rfl⟩
              rw [hV1, hV2] at HCO
              rw [hV1] at l0
              rw [hV2] at l1
              clear hV1 hV2
              generalize (crIx crs j).first = S at *
              generalize (crIx crs j).second = T at *
              obtain ⟨r1, hr1⟩ : ∃ r, btwB V1 A B = r := ⟨_, rfl⟩
              obtain ⟨r2, hr2⟩ : ∃ r, btwB V2 A B = r := ⟨_, rfl⟩
              rw [hr1, hr2] at HCO
              have K1 := Lib.hid (between_known V1 A B r1 hr1)
              have K2 := Lib.hid (between_known V2 A B r2 hr2)
              clear hr1 hr2
              by_cases hjk : j = k
              · have g1 : ((j : Int) != (k : Int)) = false := by rw [bne_eq_false_iff_eq]; omega
                have HC2 : Hid (crOKv crs L k j = true) := Lib.hid (by rw [HCO.out, decide_eq_false (by omega)]; simp)
                clear hjk
                go_wp2
                go_quiet (fail)
                go_wp2
                go_roundw
                case rel => exact ⟨j + 1, by omega, by go_num, range_all_next _ _ HA3.out HC2.out, below_drewN HB7.out _⟩
                case measure => simp [intOf]; omega
              · have g1 : ((j : Int) != (k : Int)) = true := by rw [bne_iff_ne]; omega
                rw [decide_eq_true hjk, Bool.true_and] at HCO
                clear hjk
                rcases Bool.eq_false_or_eq_true (Pj == Pk) with g2 | g2
                · rcases Bool.eq_false_or_eq_true (Rj == Rk) with g3 | g3
                  · rw [g2, g3, Bool.true_and, Bool.true_and] at HCO
                    cases r1 <;> cases r2
                    case' false.false => have HC2 : Hid (crOKv crs L k j = true) := Lib.hid (by rw [HCO.out]; rfl)
                    case' false.true => have HC2 : Hid (crOKv crs L k j = false) := Lib.hid (by rw [HCO.out]; rfl)
                    case' true.false => have HC2 : Hid (crOKv crs L k j = false) := Lib.hid (by rw [HCO.out]; rfl)
                    case' true.true => have HC2 : Hid (crOKv crs L k j = true) := Lib.hid (by rw [HCO.out]; rfl)
                    all_goals
                      go_wp2
                      go_quiet ((first | (with_reducible exact Calls.quiet_of_same (K1.out _)) | (with_reducible exact Calls.quiet_of_same (K2.out _))))
                      go_wp2
                    all_goals first
                      | (go_roundw
                         case rel => exact ⟨j + 1, by omega, by go_num, range_all_next _ _ HA3.out HC2.out, below_drewN HB7.out _⟩
                         case measure => simp [intOf]; omega)
                      | (go_ret
                         refine ⟨ret_bool (Eq.symm ?_), below_drewN (HB3.out.trans (HB7.out.mono HB3.out.size)) _⟩
                         rw [HR.out, range_all_false _ _ _ hlt (by rw [rowOKv, range_all_false _ _ _ hlt3 HC2.out, Bool.and_false])])
                  · have HC2 : Hid (crOKv crs L k j = true) := Lib.hid (by rw [HCO.out, g2, g3]; rfl)
                    go_wp2
                    go_quiet (fail)
                    go_wp2
                    go_roundw
                    case rel => exact ⟨j + 1, by omega, by go_num, range_all_next _ _ HA3.out HC2.out, below_drewN HB7.out _⟩
                    case measure => simp [intOf]; omega
                · have HC2 : Hid (crOKv crs L k j = true) := Lib.hid (by rw [HCO.out, g2]; rfl)
                  go_wp2
                  go_quiet (fail)
                  go_wp2
                  go_roundw
                  case rel => exact ⟨j + 1, by omega, by go_num, range_all_next _ _ HA3.out HC2.out, below_drewN HB7.out _⟩
                  case measure => simp [intOf]; omega
            · obtain rfl : j = M := by omega
              go_wp2
              go_roundw
              case rel => exact ⟨k + 1, by omega, by go_num, range_all_next _ _ HA.out (by rw [rowOKv, HSeg.out, HA3.out]; rfl), HB7.out⟩
              case measure => simp [intOf]; omega
    · go_wp2
      go_ret
      have hk' : k = M := by omega
      subst hk'
      exact ⟨ret_bool (by rw [HR.out, HA.out]), HB3.out.trans (HB.out.mono HB3.out.size)⟩


theorem refFoldsV_open (a aO : Option Addr) (n cap cO : Nat) (zs : List Int) (w : World) (hn : zs.length = n) (hg : vertexB zs = true) (hc : closesB zs = false) (hz : Ints w a zs) :
    Calls Try.prog 22 #[.slice a n cap, .slice aO n cO, .bool true] w fun e w' => e = .returned (.bool false) ∧ Below w.heap.size w w' := by
  obtain ⟨p2, p8, ps⟩ := vertex_parts hg
  have hcl := Lib.hid (Closes_any a n cap zs false w hn (by omega) (by omega) ps hz hc)
  clear hz hn hg hc
  go_enter Try.func22, Try.ntmps22
  go_wp2_with (go_at_call 56; refine hcl.out.mono ?_; rintro e w0 ⟨rfl, hb0⟩; have H0 := Lib.hid hb0; clear hb0)
  go_ret
  exact ⟨rfl, H0.out⟩

set_option maxRecDepth 100000 in
set_option maxHeartbeats 4000000 in
theorem LettersV_any (a aO : Option Addr) (n m cap cO : Nat) (crs : List Cr) (X : ByteArray) (zs : List Int) (O : List Nat) (w : World) (hn : zs.length = n) (hg : vertexB zs = true) (hcl : closesB zs = true) (hcrs : (vtxCl zs).crs = crs) (hM : crs.length = m) (hM9 : m ≤ 9) (hz : Ints w a zs) (hnd : O.Nodup) (hl : O.length = n) (hv : ∀ x ∈ O, x < n) (hO : Ints w aO (O.map fun (x : Nat) => (x : Int))) (hX : crsOfV zs O = X) :
    Calls Try.prog 24 #[.slice a n cap, .slice aO n cO, .bool true] w fun e w' => e = .returned (.string X) ∧ Below w.heap.size w w' := by
  obtain ⟨p1, p9, ps⟩ := vertex_parts hg
  have h8 : n ≤ 8 := by omega
  have hclz : posAt zs zs.length = 0 := by simp [closesB] at hcl; exact hcl.2
  have HE : Hid ((List.range m).map (fun k => letRv (layTo0 O n n) (crIx crs k)) = X.data.toList) := Lib.hid (by
    have := letRv_crs (vtx_fair p1 hclz) hnd (by rw [hn]; exact hv) (by rw [hl, hn])
    rw [hcrs, hM, hn, ← hcrs] at this
    rw [← hcrs, this, ← hX, crsOfV, hn])
  have hla := Lib.hid (layers_any aO n cO O w hl (by omega) (by omega) hv hO)
  have hcr := Lib.hid (creases_vertex a n m cap crs zs · hn (by omega) (by omega) ps hcrs hM)
  have hends : Hid (∀ k, k < m → (crIx crs k).first < n ∧ (crIx crs k).second < n) := Lib.hid fun k hk => by
    have := vtx_in (zs := zs) (by omega) _ (by rw [hcrs]; exact crIx_mem (by omega : k < crs.length))
    rwa [hn] at this
  have HZ := Lib.hid hz
  clear hz hO hn hl hv ps hg p1 p9 hnd hcrs hM hcl hclz hX
  go_enter Try.func24, Try.ntmps24
  go_wp2_with (first
    | (go_at_call 58; refine hla.out.mono ?_; rintro e w2 ⟨v, rfl, hv2, hb2⟩; obtain ⟨gL, cL, rfl, hI2⟩ := hv2.ints; have H2 := Lib.hid (And.intro hI2 hb2); clear hv2 hI2 hb2)
    | (go_at_call 59; refine (hcr.out w2 (HZ.out.below H2.out.2)).mono ?_; rintro e w3 ⟨v, rfl, ⟨wm, hwm, hC⟩, hb3⟩; have H3 := Lib.hid (And.intro (H2.out.1.below hb3) (And.intro hC (H2.out.2.trans (hb3.mono H2.out.2.size)))); clear hwm hC hb3))
  have hlL : Hid ((layTo0 O n n).length = n) := Lib.hid (by simp)
  obtain ⟨_, _, gc, cc, rfl, _⟩ := H3.out.2.1
  have H4 := Lib.hid (show (∀ wr, Below w3.heap.size w3 wr → (∀ i, i < n → wr.cell? ⟨gL, i, none⟩ = some (.int .i64 (atL (layTo0 O n n) i))) ∧
      (∀ k, k < m → wr.cell? ⟨gc, k * 4, none⟩ = some (.int .i64 (crIx crs k).pos) ∧ wr.cell? ⟨gc, k * 4 + 1, none⟩ = some (.int .i64 ((crIx crs k).first : Nat)) ∧ wr.cell? ⟨gc, k * 4 + 2, none⟩ = some (.int .i64 ((crIx crs k).second : Nat)) ∧ wr.cell? ⟨gc, k * 4 + 3, none⟩ = some (.bool (rightS (crIx crs k))))) from fun wr hb => by
    refine ⟨fun i hi => ?_, fun k hk => ?_⟩
    · obtain ⟨b, off, e, hc⟩ := (H3.out.1.below hb) i (by rw [hlL.out]; exact hi)
      cases e
      rw [Nat.zero_add] at hc
      exact hc
    · exact rc_cells_at (H3.out.2.1.grow hb) k hk)
  have HB3 := Lib.hid H3.out.2.2
  obtain ⟨L, hL⟩ : ∃ L, layTo0 O n n = L := ⟨_, rfl⟩
  rw [hL] at H4 HE
  clear H2 H3 hla hcr HZ hL hlL
  go_loopw [9, 10] (fun t i wr => ∃ k : Nat, k ≤ m ∧ i = .int .i64 k ∧ (∃ q : ByteArray, t = .string q ∧ Hid (q.size = k) ∧ Hid (q.data.toList = (List.range k).map (fun k => letRv L (crIx crs k)))) ∧ Below w3.heap.size w3 wr) (fun _ i _ => m - (intOf i).toNat)
  case atStart => exact ⟨0, Nat.zero_le _, rfl, ⟨_, rfl, Lib.hid rfl, Lib.hid rfl⟩, Below.refl _ _⟩
  case round =>
    obtain ⟨k, hk, rfl, ⟨q, rfl, hq1, hq2⟩, hb⟩ := hrel
    have HB := Lib.hid hb
    clear hb
    have hq3 : q.size ≤ 1000 := by rw [hq1.out]; omega
    by_cases hlt : k < m
    · obtain ⟨hLL, hCC⟩ := H4.out wr HB.out
      obtain ⟨_, c1, c2, _⟩ := hCC k hlt
      obtain ⟨hS, hT⟩ := hends.out k hlt
      have l0 := hLL _ hS
      have l1 := hLL _ hT
      clear hLL hCC
      have HT : Hid (∀ c : UInt8, c = letRv L (crIx crs k) → (List.range (k + 1)).map (fun k => letRv L (crIx crs k)) = (List.range k).map (fun k => letRv L (crIx crs k)) ++ [c]) := Lib.hid fun c hc => by
        rw [List.range_succ, List.map_append, hc]; rfl
      have HR : Hid (letRv L (crIx crs k) = if (((crIx crs k).first % 2 == 0) == decide (atL L (crIx crs k).first < atL L (crIx crs k).second)) = true then 86 else 77) := Lib.hid rfl
      obtain ⟨A, hA⟩ : ∃ A, atL L (crIx crs k).first = A := ⟨_, rfl⟩
      obtain ⟨B, hB⟩ : ∃ B, atL L (crIx crs k).second = B := ⟨_, rfl⟩
      rw [hA] at l0 HR
      rw [hB] at l1 HR
      clear hA hB
      obtain ⟨R, hR⟩ : ∃ R, letRv L (crIx crs k) = R := ⟨_, rfl⟩
      rw [hR] at HR HT
      clear hR
      generalize (crIx crs k).first = S at *
      generalize (crIx crs k).second = T at *
      go_wp2
      go_quiet (fail)
      go_wp2
      all_goals go_roundw
      case rel =>
        obtain ⟨p1, p2⟩ := bytes_push q 86 _ _ hq1.out hq2.out
        exact ⟨k + 1, by omega, by go_num, ⟨_, rfl, Lib.hid p1, Lib.hid (p2.trans (HT.out 86 (by rw [HR.out, ← par_eq, if_pos (by assumption)])).symm)⟩, below_drewN HB.out _⟩
      case measure => simp [intOf]; omega
      case rel =>
        obtain ⟨p1, p2⟩ := bytes_push q 77 _ _ hq1.out hq2.out
        exact ⟨k + 1, by omega, by go_num, ⟨_, rfl, Lib.hid p1, Lib.hid (p2.trans (HT.out 77 (by rw [HR.out, ← par_eq, if_neg (by rw [Bool.not_eq_true]; assumption)])).symm)⟩, below_drewN HB.out _⟩
      case measure => simp [intOf]; omega
    · obtain rfl : k = m := by omega
      go_wp2
      go_ret
      have h2 := hq2.out
      rw [HE.out] at h2
      have e : q = X := by
        have := bytes_eq h2
        have h3 := bytes_eq (q := X) rfl
        rw [this, ← h3]
      exact ⟨by rw [e]; rfl, HB3.out.trans (HB.out.mono HB3.out.size)⟩

end Go.Proofs.Yteankhgikpejhaa
