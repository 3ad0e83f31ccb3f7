/-
  The walks of clothOfVertex, FoldsVertex and CreasesVertex.
-/
import Derived.Test.YteankhgikpejhaaNa
import Derived.Test.YteankhgikpejhaaOa
namespace Go.Proofs.Yteankhgikpejhaa
open Go.RowKit Go.Sort

def LayPost' (zs : List Int) (P : Int) (w : World) (e : Ending) (w' : World) : Prop := ∃ v, e = .returned (.tuple #[v, .int .i64 P]) ∧ ClothV w' w.heap.size (layCl zs) v ∧ Below w.heap.size w w'
theorem lay_at {a : Option Addr} {n cap : Nat} {zs : List Int} {P : Int} {w : World} (h : Calls Try.prog 70 #[.slice a n cap] w (LayPost zs w)) (hP : posAt zs zs.length = P) : Calls Try.prog 70 #[.slice a n cap] w (LayPost' zs P w) :=
  h.mono fun _ _ h => by subst hP; exact h
def VtxT (zs : List Int) (w : World) (e : Ending) (w' : World) : Prop := ∃ v, e = .returned (.tuple #[v, .bool true]) ∧ ClothV w' w.heap.size (vtxCl zs) v ∧ Below w.heap.size w w'
def VtxF (w : World) (e : Ending) (w' : World) : Prop := e = .returned (.tuple #[.agg #[.slice none 0 0, .slice none 0 0, .slice none 0 0], .bool false]) ∧ Below w.heap.size w w'

theorem ownsRow_set_ne {w : World} {base : Nat} {e : TypeId} {size : Nat} {v : Value} {n : Nat} {xs : List Value} (h : w.ownsRow base e size v n xs) {p : Addr} (hne : some p.block ≠ v.ownBlock) (x : Value) : (w.setCell p x).ownsRow base e size v n xs := by
  refine ⟨h.1, h.2.imp id ?_⟩
  rintro ⟨g, cap, cur, rfl, h1, h2, h3⟩
  exact ⟨g, cap, cur, rfl, h1, (Below.heap_setCell w p x g (fun e => hne (by rw [← e]; rfl))).trans h2, h3⟩

/-- Rows of different elements lie in different blocks. -/
theorem own_ne {w : World} {base base' : Nat} {e e' : TypeId} {size size' : Nat} {v v' : Value} {n n' : Nat} {xs xs' : List Value} (h : w.ownsRow base e size v n xs) (h' : w.ownsRow base' e' size' v' n' xs') (hte : e ≠ e') : v.ownBlock = none ∨ v.ownBlock ≠ v'.ownBlock := by
  rcases h.2 with ⟨rfl, _⟩ | ⟨g, cap, cur, rfl, _, hgb, _⟩
  · exact .inl rfl
  · exact .inr (row_ne hgb h' hte)

set_option maxRecDepth 100000 in
set_option maxHeartbeats 2000000 in
theorem clothOfVertex_true (a : Option Addr) (n cap : Nat) (zs : List Int) (w : World) (hn : zs.length = n) (h2 : 2 ≤ n) (hm : n ≤ 9) (hs : sizesB zs = true) (hc : closesB zs = true) (hz : Ints w a zs) :
    Calls Try.prog 66 #[.slice a n cap] w (VtxT zs w) := by
  subst hn
  have hL := lay_any a zs.length cap zs (w.alloc (.cells #[.slice none 0 0, .slice none 0 0, .slice none 0 0] 73)) rfl hm hs (fun i hi => by
    obtain ⟨b, off, e, hc⟩ := hz i hi
    exact ⟨b, off, e, (World.cell?_alloc_past _ _ _ (World.block_lt_of_cell? w _ hc)).trans hc⟩)
  have HC : Hid (zs.length % 2 = 0 ∧ posAt zs zs.length = 0) := Lib.hid (by simpa [closesB] using hc)
  have hp : ((zs.length : Int) % 2 != 0) = false := by rw [bne_eq_false_iff_eq]; have := HC.out.1; omega
  have HL := Lib.hid (lay_at hL HC.out.2)
  clear hz hs hc hL
  go_enter Try.func66, Try.ntmps66
  go_wp2_with fail
  refine HL.out.mono ?_
  rintro e w1 ⟨v, rfl, hv, hb⟩
  have hR := (Trip.new w 73 (.slice none 0 0) (.slice none 0 0) (.slice none 0 0)).below hb (by simp)
  obtain ⟨al, cl, ah, ch, ac, cc, rfl, hl, hh, hc⟩ := hv.slices
  have HV := Lib.hid (And.intro (show w1.ownsRow w.heap.size 3 1 (.slice al zs.length cl) zs.length ((layCl zs).low.map (Value.int .i64)) from ownsRow_weaken (by rwa [layCl_low] at hl) (by simp))
    (And.intro (show w1.ownsRow w.heap.size 3 1 (.slice ah zs.length ch) zs.length ((layCl zs).high.map (Value.int .i64)) from ownsRow_weaken (by rwa [layCl_high] at hh) (by simp))
    (And.intro (show w1.ownsRow w.heap.size 101 3 (.slice ac (zs.length - 1) cc) (zs.length - 1) (crCells (layCl zs).crs) from ownsRow_weaken (by rwa [layCl_crs] at hc) (by simp))
    (And.intro (((Below.refl _ w).alloc (Nat.le_refl _) (.cells #[.slice none 0 0, .slice none 0 0, .slice none 0 0] 73)).trans (hb.mono (by simp))) hR))))
  have hsz : w.heap.size < w1.heap.size := by have := hb.size; simp at this; omega
  clear hl hh hc hb hR hv
  go_wp2_with fail
  have e1 : ((zs.length : Int) - 1) = ((zs.length - 1 : Nat) : Int) := by omega
  rw [e1]
  refine (insert_any w.heap.size (w1.heap.size + 1) (zs.length - 1) cc ac (layCl zs).crs ⟨zs.length - 1, 0, 0⟩ _ (by simp) (by omega) (by omega) ((HV.out.2.2.1.alloc _).alloc _) (by simp; omega) ?_ ?_).mono ?_
  · have := heap_alloc_new (w1.alloc (.cells #[.slice al zs.length cl, .slice ah zs.length ch, .slice ac (zs.length - 1) cc] 73)) (.cells (crCells [⟨zs.length - 1, 0, 0⟩]).toArray 101)
    rw [World.size_alloc] at this
    exact this
  · rintro q rfl e
    have hlt := (HV.out.2.2.1.lt q.block rfl).2
    omega
  clear e1
  rintro e w3 ⟨g, c, rfl, hown, hg⟩
  have H3 := Lib.hid (And.intro hown hg)
  have hB3 : Trip w3 w1.heap.size 73 (.slice al zs.length cl) (.slice ah zs.length ch) (.slice ac (zs.length - 1) cc) := ((Trip.new w1 _ _ _ _).alloc _).grown hg (fun e => by have := (HV.out.2.2.1.lt w1.heap.size e.symm).2; omega)
  have hR3 : Trip w3 w.heap.size 73 (.slice none 0 0) (.slice none 0 0) (.slice none 0 0) := ((HV.out.2.2.2.2.alloc _).alloc _).grown hg (row_ne HV.out.2.2.2.2 HV.out.2.2.1 (by decide))
  have HT := Lib.hid (And.intro hB3 hR3)
  have b0 := hB3.c0
  have b1 := hB3.c1
  have b2 := hB3.c2
  have y0 := hB3.fr 0
  have y1 := hB3.fr 1
  have y2 := hB3.fr 2
  have r0 := hR3.c0
  have r1 := hR3.c1
  have r2 := hR3.c2
  have g0 := hR3.fr 0
  have g1 := hR3.fr 1
  have g2 := hR3.fr 2
  have hlt3 := hB3.lt
  clear hown hg hB3 hR3
  go_wp2
  refine bodyPost_ret (v := .tuple #[.agg #[.slice al zs.length cl, .slice ah zs.length ch, .slice (some ⟨g, 0, none⟩) (zs.length - 1 + 1) c], .bool true]) (by simp [results, Try.results66, go_sem, r0, r1, r2, hlt3]) rfl ?_
  have hl3 := (((HV.out.1.alloc _).alloc _).kept H3.out.2 (own_ne HV.out.1 HV.out.2.2.1 (by decide)))
  have hh3 := (((HV.out.2.1.alloc _).alloc _).kept H3.out.2 (own_ne HV.out.2.1 HV.out.2.2.1 (by decide)))
  have kk : ∀ {e : TypeId} {size : Nat} {v : Value} {n : Nat} {xs : List Value} (u0 u1 u2 u3 : Value), 73 ≠ e → w3.ownsRow w.heap.size e size v n xs →
      ((((w3.setCell ⟨w1.heap.size, 2, none⟩ u0).setCell ⟨w.heap.size, 0, none⟩ u1).setCell ⟨w.heap.size, 1, none⟩ u2).setCell ⟨w.heap.size, 2, none⟩ u3).ownsRow w.heap.size e size v n xs := fun {e size v n xs} u0 u1 u2 u3 hte h => by
    have n1 : some w1.heap.size ≠ v.ownBlock := row_ne HT.out.1 h hte
    have n2 : some w.heap.size ≠ v.ownBlock := row_ne HT.out.2 h hte
    exact ownsRow_set_ne (ownsRow_set_ne (ownsRow_set_ne (ownsRow_set_ne h (p := ⟨w1.heap.size, 2, none⟩) n1 _) (p := ⟨w.heap.size, 0, none⟩) n2 _) (p := ⟨w.heap.size, 1, none⟩) n2 _) (p := ⟨w.heap.size, 2, none⟩) n2 _
  refine ⟨_, rfl, ⟨_, _, _, rfl, ?_, ?_, ?_⟩, ?_⟩
  · simpa [vtxCl] using kk _ _ _ _ (by decide) hl3
  · simpa [vtxCl] using kk _ _ _ _ (by decide) hh3
  · simpa [vtxCl] using kk _ _ _ _ (by decide) H3.out.1
  · have hB : Below w.heap.size w w3 := ((HV.out.2.2.2.1.alloc (by omega) _).alloc (by simp; omega) _).grown H3.out.2 (by simp; omega) fun k e => by have := (HV.out.2.2.1.lt k e).1; omega
    exact (((hB.setCell (p := ⟨w1.heap.size, 2, none⟩) (by show w.heap.size ≤ w1.heap.size; omega) _).setCell (p := ⟨w.heap.size, 0, none⟩) (Nat.le_refl _) _).setCell (p := ⟨w.heap.size, 1, none⟩) (Nat.le_refl _) _).setCell (p := ⟨w.heap.size, 2, none⟩) (Nat.le_refl _) _

set_option maxRecDepth 100000 in
set_option maxHeartbeats 2000000 in
theorem clothOfVertex_false (a : Option Addr) (n cap : Nat) (zs : List Int) (w : World) (hn : zs.length = n) (h2 : 2 ≤ n) (hm : n ≤ 9) (hs : sizesB zs = true) (hc : closesB zs = false) (hz : Ints w a zs) :
    Calls Try.prog 66 #[.slice a n cap] w (VtxF w) := by
  have hL := lay_any a n cap zs (w.alloc (.cells #[.slice none 0 0, .slice none 0 0, .slice none 0 0] 73)) hn hm hs (fun i hi => by
    obtain ⟨b, off, e, hc⟩ := hz i hi
    exact ⟨b, off, e, (World.cell?_alloc_past _ _ _ (World.block_lt_of_cell? w _ hc)).trans hc⟩)
  obtain ⟨P, hP⟩ : ∃ P, posAt zs zs.length = P := ⟨_, rfl⟩
  have HC : Hid ((decide (n % 2 = 0) && decide (P = 0)) = false) := Lib.hid (by rw [← hP, ← hn]; exact hc)
  have HL := Lib.hid (lay_at hL hP)
  clear hz hs hn hc hL
  rcases Bool.eq_false_or_eq_true ((n : Int) % 2 != 0) with hp | hp
  · go_enter Try.func66, Try.ntmps66
    go_wp2_with fail
    refine HL.out.mono ?_
    rintro e w1 ⟨v, rfl, hv, hb⟩
    have hR := (Trip.new w 73 (.slice none 0 0) (.slice none 0 0) (.slice none 0 0)).below hb (by simp)
    obtain ⟨al, cl, ah, ch, ac, cc, rfl, hl, hh, hc⟩ := hv.slices
    have HV := Lib.hid hb
    have hsz : w.heap.size < w1.heap.size := by have := hb.size; simp at this; omega
    have r0 := hR.c0
    have r1 := hR.c1
    have r2 := hR.c2
    have g0 := hR.fr 0
    have g1 := hR.fr 1
    have g2 := hR.fr 2
    clear hl hh hc hb hR hv
    go_wp2
    refine bodyPost_ret (v := .tuple #[.agg #[.slice none 0 0, .slice none 0 0, .slice none 0 0], .bool false]) (by simp [results, Try.results66, go_sem, r0, r1, r2, hsz]) rfl ⟨rfl, ?_⟩
    have hB : Below w.heap.size w w1 := ((Below.refl _ w).alloc (Nat.le_refl _) _).trans (HV.out.mono (by simp))
    exact (((hB.setCell (p := ⟨w.heap.size, 0, none⟩) (Nat.le_refl _) _).setCell (p := ⟨w.heap.size, 1, none⟩) (Nat.le_refl _) _).setCell (p := ⟨w.heap.size, 2, none⟩) (Nat.le_refl _) _).alloc (by simp; omega) _
  · have hQ : (P != 0) = true := by
      have := HC.out
      rw [decide_eq_true (by rw [bne_eq_false_iff_eq] at hp; omega), Bool.true_and, decide_eq_false_iff_not] at this
      rw [bne_iff_ne]; exact this
    go_enter Try.func66, Try.ntmps66
    go_wp2_with fail
    refine HL.out.mono ?_
    rintro e w1 ⟨v, rfl, hv, hb⟩
    have hR := (Trip.new w 73 (.slice none 0 0) (.slice none 0 0) (.slice none 0 0)).below hb (by simp)
    obtain ⟨al, cl, ah, ch, ac, cc, rfl, hl, hh, hc⟩ := hv.slices
    have HV := Lib.hid hb
    have hsz : w.heap.size < w1.heap.size := by have := hb.size; simp at this; omega
    have r0 := hR.c0
    have r1 := hR.c1
    have r2 := hR.c2
    have g0 := hR.fr 0
    have g1 := hR.fr 1
    have g2 := hR.fr 2
    clear hl hh hc hb hR hv
    go_wp2
    refine bodyPost_ret (v := .tuple #[.agg #[.slice none 0 0, .slice none 0 0, .slice none 0 0], .bool false]) (by simp [results, Try.results66, go_sem, r0, r1, r2, hsz]) rfl ⟨rfl, ?_⟩
    have hB : Below w.heap.size w w1 := ((Below.refl _ w).alloc (Nat.le_refl _) _).trans (HV.out.mono (by simp))
    exact (((hB.setCell (p := ⟨w.heap.size, 0, none⟩) (Nat.le_refl _) _).setCell (p := ⟨w.heap.size, 1, none⟩) (Nat.le_refl _) _).setCell (p := ⟨w.heap.size, 2, none⟩) (Nat.le_refl _) _).alloc (by simp; omega) _


@[simp] theorem vtx_low (zs : List Int) : (vtxCl zs).low.length = zs.length := by simp [vtxCl]
@[simp] theorem vtx_high (zs : List Int) : (vtxCl zs).high.length = zs.length := by simp [vtxCl]

/-- What 'FoldsVertex' answers. -/
def foldsVZ (zs os : List Int) : Bool × Int := if vertexB zs = true then (if orderB os zs.length = true then ((closesB zs && okFrom (vtxCl zs) zs.length (os.map Int.toNat) 0), 0) else (false, 2)) else (false, 1)
/-- What 'CreasesVertex' answers. -/
def creasesVZ (zs os : List Int) : ByteArray × Int := if (foldsVZ zs os).2 = 0 then (if (foldsVZ zs os).1 = true then (crsOfV zs (os.map Int.toNat), 0) else (⟨#[]⟩, 5)) else (⟨#[]⟩, (foldsVZ zs os).2)

set_option maxRecDepth 100000 in
set_option maxHeartbeats 2000000 in
theorem FoldsVertex_any (a aO : Option Addr) (n cap m cO : Nat) (zs os : List Int) (w : World) (b : Bool) (err : Int) (hn : zs.length = n) (hm : n ≤ 9223372036854775807) (hz : Ints w a zs)
    (hnO : os.length = m) (hmO : m ≤ 9223372036854775807) (hO : Ints w aO os) (h : foldsVZ zs os = (b, err)) :
    Calls Try.prog 33 #[.slice a n cap, .slice aO m cO] w (Gives2 (.bool b) (.int .i64 err) w) := by
  have his := isVertex_any a n cap zs w hn hm hz
  rcases Bool.eq_false_or_eq_true (vertexB zs) with hs | hs
  · rw [hs] at his
    obtain ⟨p1, p9, ps⟩ := vertex_parts hs
    have hio := isOrder_any aO m cO n os w hnO hmO (by omega) (by omega) hO
    rcases Bool.eq_false_or_eq_true (orderB os zs.length) with ho | ho
    · rw [← hn, ho, hn] at hio
      have h' : (closesB zs && okFrom (vtxCl zs) zs.length (os.map Int.toNat) 0) = b ∧ 0 = err := by
        rw [foldsVZ, if_pos hs, if_pos ho] at h
        exact ⟨congrArg Prod.fst h, congrArg Prod.snd h⟩
      obtain ⟨O, rfl, _, hv, hl⟩ := orderB_nat ho
      rw [toNat_back] at h'
      obtain ⟨rfl, rfl⟩ := h'
      have His := Lib.hid his
      have Hio := Lib.hid hio
      have HZ := Lib.hid (And.intro hz (And.intro hO (And.intro hv (And.intro hl hn))))
      have Hm : Hid (m = n) := Lib.hid (by rw [← hnO, List.length_map, hl, hn])
      rcases Bool.eq_false_or_eq_true (closesB zs) with hc | hc
      · have Hcl := Lib.hid (clothOfVertex_true a n cap zs · hn (by omega) (by omega) ps hc)
        rw [hc, Bool.true_and]
        clear his hio hz hO hl hs ho h hnO hn hc
        go_enter Try.func33, Try.ntmps33
        go_wp2_with (first
          | (go_at_call 65; refine His.out.mono ?_; rintro e w1 ⟨rfl, rfl⟩)
          | (go_at_call 48; refine Hio.out.mono ?_; rintro e w1 ⟨rfl, hb1⟩; have H1 := Lib.hid hb1; clear hb1)
          | (go_at_call 66; refine (Hcl.out w1 (HZ.out.1.below H1.out)).mono ?_; rintro e w2 ⟨v, rfl, hv2, hb2⟩; obtain ⟨al, cl, ah, ch, ac, cc, rfl, hl, hh, hc⟩ := hv2.slices; have H2 := Lib.hid (And.intro hb2 (And.intro hl (And.intro hh hc))); clear hb2 hl hh hc hv2))
        have hbw : Below w.heap.size w w2 := H1.out.trans (H2.out.1.mono H1.out.size)
        have hba : Below w2.heap.size w2 (w2.alloc (.cells #[.slice al zs.length cl, .slice ah zs.length ch, .slice ac (zs.length - 1 + 1) cc] 73)) := (Below.refl _ _).alloc (Nat.le_refl _) _
        have hf := foldedBy_any al ah ac aO cl ch cc cO zs.length (vtxCl zs) O _ (by omega) (by omega) (by simp; omega) HZ.out.2.2.2.1 (ownsRow_weaken (by have := (H2.out.2.1).alloc (.cells #[.slice al zs.length cl, .slice ah zs.length ch, .slice ac (zs.length - 1 + 1) cc] 73); rwa [vtx_low] at this) (Nat.zero_le _)) (ownsRow_weaken (by have := (H2.out.2.2.1).alloc (.cells #[.slice al zs.length cl, .slice ah zs.length ch, .slice ac (zs.length - 1 + 1) cc] 73); rwa [vtx_high] at this) (Nat.zero_le _)) (ownsRow_weaken (H2.out.2.2.2.alloc _) (Nat.zero_le _)) ((HZ.out.2.1.below hbw).below hba) HZ.out.2.2.1 (vtx_in p1)
        rw [vtx_length] at hf
        obtain rfl : m = zs.length := by rw [Hm.out, HZ.out.2.2.2.2]
        refine hf.mono ?_
        rintro e w3 ⟨rfl, hb3⟩
        have H3 := Lib.hid (hbw.trans ((hba.mono (Nat.le_refl _)).trans (hb3.mono (by simp)) |>.mono hbw.size))
        clear hf hb3 hbw hba
        go_wp2
        go_ret2
        exact ⟨rfl, H3.out⟩
      · have Hcl := Lib.hid (clothOfVertex_false a n cap zs · hn (by omega) (by omega) ps hc)
        rw [hc, Bool.false_and]
        clear his hio hz hO hl hs ho h hnO hn hc
        go_enter Try.func33, Try.ntmps33
        go_wp2_with (first
          | (go_at_call 65; refine His.out.mono ?_; rintro e w1 ⟨rfl, rfl⟩)
          | (go_at_call 48; refine Hio.out.mono ?_; rintro e w1 ⟨rfl, hb1⟩; have H1 := Lib.hid hb1; clear hb1)
          | (go_at_call 66; refine (Hcl.out w1 (HZ.out.1.below H1.out)).mono ?_; rintro e w2 ⟨rfl, hb2⟩; have H2 := Lib.hid hb2; clear hb2))
        have H3 := Lib.hid (H1.out.trans (H2.out.mono H1.out.size))
        have hsz := H3.out.size
        go_ret2
        exact ⟨rfl, H3.out.alloc hsz _⟩
    · rw [← hn, ho, hn] at hio
      have h' : false = b ∧ 2 = err := by
        rw [foldsVZ, if_pos hs, if_neg (by rw [ho]; exact Bool.false_ne_true)] at h
        exact ⟨congrArg Prod.fst h, congrArg Prod.snd h⟩
      obtain ⟨rfl, rfl⟩ := h'
      have His := Lib.hid his
      have Hio := Lib.hid hio
      clear his hio hz hO hs ho h hnO hn
      go_enter Try.func33, Try.ntmps33
      go_wp2_with (first
        | (go_at_call 65; refine His.out.mono ?_; rintro e w1 ⟨rfl, rfl⟩)
        | (go_at_call 48; refine Hio.out.mono ?_; rintro e w1 ⟨rfl, hb1⟩; have H1 := Lib.hid hb1; clear hb1))
      go_ret2
      exact ⟨rfl, H1.out⟩
  · rw [hs] at his
    have h' : false = b ∧ 1 = err := by
      rw [foldsVZ, if_neg (by rw [hs]; exact Bool.false_ne_true)] at h
      exact ⟨congrArg Prod.fst h, congrArg Prod.snd h⟩
    obtain ⟨rfl, rfl⟩ := h'
    have His := Lib.hid his
    clear his hz hO hn h hnO hs
    go_enter Try.func33, Try.ntmps33
    go_wp2_with (go_at_call 65; refine His.out.mono ?_; rintro e w1 ⟨rfl, rfl⟩)
    go_ret2
    exact ⟨rfl, Below.refl _ _⟩

theorem foldsVZ_parts {zs os : List Int} {b : Bool} (h : foldsVZ zs os = (b, 0)) : vertexB zs = true ∧ ∃ O : List Nat, os = O.map (fun (x : Nat) => (x : Int)) ∧ O.Nodup ∧ (∀ x ∈ O, x < zs.length) ∧ O.length = zs.length ∧ (closesB zs && okFrom (vtxCl zs) zs.length O 0) = b := by
  unfold foldsVZ at h
  split at h
  · rename_i hs
    split at h
    · rename_i ho
      obtain ⟨O, rfl, h1, h2, h3⟩ := orderB_nat ho
      rw [toNat_back] at h
      exact ⟨hs, O, rfl, h1, h2, h3, congrArg Prod.fst h⟩
    · cases congrArg Prod.snd h
  · cases congrArg Prod.snd h

set_option maxRecDepth 100000 in
set_option maxHeartbeats 2000000 in
theorem CreasesVertex_any (a aO : Option Addr) (n cap m cO : Nat) (zs os : List Int) (w : World) (t : ByteArray) (err : Int) (hn : zs.length = n) (hm : n ≤ 9223372036854775807) (hz : Ints w a zs)
    (hnO : os.length = m) (hmO : m ≤ 9223372036854775807) (hO : Ints w aO os) (h : creasesVZ zs os = (t, err)) :
    Calls Try.prog 34 #[.slice a n cap, .slice aO m cO] w (Gives2 (.string t) (.int .i64 err) w) := by
  obtain ⟨b, e1, hf⟩ : ∃ b e1, foldsVZ zs os = (b, e1) := ⟨_, _, rfl⟩
  have hc := Lib.hid (FoldsVertex_any a aO n cap m cO zs os w b e1 hn hm hz hnO hmO hO hf)
  unfold creasesVZ at h
  rw [hf] at h
  by_cases h0 : e1 = 0
  · subst h0
    rw [if_pos rfl] at h
    cases b with
    | true =>
      rw [if_pos rfl] at h
      obtain ⟨hs, O, rfl, _, hv, hl, hcl⟩ := foldsVZ_parts hf
      rw [toNat_back] at h
      obtain ⟨rfl, rfl⟩ : crsOfV zs O = t ∧ 0 = err := ⟨congrArg Prod.fst h, congrArg Prod.snd h⟩
      obtain ⟨p1, p9, ps⟩ := vertex_parts hs
      have hcl' : closesB zs = true := by rw [Bool.and_eq_true] at hcl; exact hcl.1
      have Hcl := Lib.hid (clothOfVertex_true a n cap zs · hn (by omega) (by omega) ps hcl')
      have HZ := Lib.hid (And.intro hz (And.intro hO (And.intro hv (And.intro hl hn))))
      have Hm : Hid (m = zs.length) := Lib.hid (by rw [← hnO, List.length_map, hl])
      clear hz hO hl hs h hnO hn hf hcl hcl'
      go_enter Try.func34, Try.ntmps34
      go_wp2_with (first
        | (go_at_call 33; refine hc.out.mono ?_; rintro e w1 ⟨rfl, hb1⟩; have H1 := Lib.hid hb1; clear hb1)
        | (go_at_call 66; refine (Hcl.out w1 (HZ.out.1.below H1.out)).mono ?_; rintro e w2 ⟨v, rfl, hv2, hb2⟩; obtain ⟨al, cl, ah, ch, ac, cc, rfl, hl, hh, hc⟩ := hv2.slices; have H2 := Lib.hid (And.intro hb2 (And.intro hl (And.intro hh hc))); clear hb2 hl hh hc hv2))
      have hbw : Below w.heap.size w w2 := H1.out.trans (H2.out.1.mono H1.out.size)
      have hba : Below w2.heap.size w2 (w2.alloc (.cells #[.slice al zs.length cl, .slice ah zs.length ch, .slice ac (zs.length - 1 + 1) cc] 73)) := (Below.refl _ _).alloc (Nat.le_refl _) _
      have hf := letters_any al ac aO cl cc cO zs.length (.slice ah zs.length ch) (vtxCl zs).crs O _ (by omega) (by omega) (by simp; omega) (ownsRow_weaken (H2.out.2.2.2.alloc _) (Nat.zero_le _)) HZ.out.2.2.2.1 ((HZ.out.2.1.below hbw).below hba) HZ.out.2.2.1 (vtx_in p1)
      rw [vtx_length] at hf
      obtain rfl : m = zs.length := Hm.out
      refine hf.mono ?_
      rintro e w3 ⟨rfl, hb3⟩
      have H3 := Lib.hid (hbw.trans ((hba.mono (Nat.le_refl _)).trans (hb3.mono (by simp)) |>.mono hbw.size))
      clear hf hb3 hbw hba
      go_wp2
      go_ret2
      exact ⟨rfl, H3.out⟩
    | false =>
      rw [if_neg Bool.false_ne_true] at h
      obtain ⟨rfl, rfl⟩ : (⟨#[]⟩ : ByteArray) = t ∧ 5 = err := ⟨congrArg Prod.fst h, congrArg Prod.snd h⟩
      clear hz hO h hnO hn hf
      go_enter Try.func34, Try.ntmps34
      go_wp2_with (go_at_call 33; refine hc.out.mono ?_; rintro e w1 ⟨rfl, hb1⟩; have H1 := Lib.hid hb1; clear hb1)
      go_ret2
      exact ⟨rfl, H1.out⟩
  · rw [if_neg h0] at h
    obtain ⟨rfl, rfl⟩ : (⟨#[]⟩ : ByteArray) = t ∧ e1 = err := ⟨congrArg Prod.fst h, congrArg Prod.snd h⟩
    have h1 : (e1 != 0) = true := by rw [bne_iff_ne]; exact h0
    clear hz hO h hnO hn hf h0
    go_enter Try.func34, Try.ntmps34
    go_wp2_with (go_at_call 33; refine hc.out.mono ?_; rintro e w1 ⟨rfl, hb1⟩; have H1 := Lib.hid hb1; clear hb1)
    go_ret2
    exact ⟨rfl, H1.out⟩

end Go.Proofs.Yteankhgikpejhaa
