/-
  The reference's All, Patterns and Strings at a vertex.
-/
import Derived.Test.YteankhgikpejhaaJa
import Derived.Test.YteankhgikpejhaaOa
import Derived.Test.YteankhgikpejhaaOd
import Derived.Test.YteankhgikpejhaaPa
import Derived.Sort.Walk0
namespace Go.Proofs.Yteankhgikpejhaa
open Go.RowKit Go.Sort

def okV (zs : List Int) (O : List Nat) : Bool := closesB zs && okFrom (vtxCl zs) zs.length O 0
/-- All orders that fold a vertex. -/
def allV (zs : List Int) : List (List Nat) := if closesB zs = true then ordersOf (vtxCl zs) zs.length else []
theorem allV_eq (zs : List Int) : allV zs = (permsAll zs.length zs.length []).filter (okV zs) := by
  unfold allV
  split
  · rename_i h
    rw [ordersOf, orders_filter]
    exact List.filter_congr fun P _ => by rw [okV, h, Bool.true_and]
  · rename_i h
    rw [Bool.not_eq_true] at h
    symm
    rw [List.filter_eq_nil_iff]
    intro P _
    rw [okV, h, Bool.false_and]
    exact Bool.false_ne_true

set_option maxRecDepth 100000 in
set_option maxHeartbeats 8000000 in
theorem AllV_any (b off n cap : Nat) (zs : List Int) (w : World) (hn : zs.length = n) (hg : vertexB zs = true) (hz : Ints w (some ⟨b, off, none⟩) zs) :
    Calls Try.prog 23 #[.slice (some ⟨b, off, none⟩) n cap, .bool true] w (Gives (fun v w' => ListsV w' w.heap.size (allV zs) v) w) := by
  obtain ⟨p1, p9, ps⟩ := vertex_parts hg
  have h1 : 1 ≤ n := by omega
  have h9 : n ≤ 9 := by omega
  have HOr := Lib.hid (orders_ref n h1 h9 n [] 0)
  have HZ := Lib.hid (And.intro hz (And.intro hn hg))
  have HF : Hid (∀ (O : List Nat) (wx : World) (aO : Option Addr) (cO : Nat), Ints wx (some ⟨b, off, none⟩) zs → O ∈ permsAll n n [] → Ints wx aO (O.map fun (x : Nat) => (x : Int)) →
      Calls Try.prog 22 #[.slice (some ⟨b, off, none⟩) n cap, .slice aO n cO, .bool true] wx fun e w' => e = .returned (.bool (okV zs O)) ∧ Below wx.heap.size wx w') := Lib.hid fun O wx aO cO h1' hO h2' => by
    obtain ⟨e1, e2, e3, _⟩ := permsAll_ok n n [] List.nodup_nil (by simp) O hO
    rcases Bool.eq_false_or_eq_true (closesB zs) with hc | hc
    · have hcz : posAt zs zs.length = 0 := by simp [closesB] at hc; exact hc.2
      have e := refBv_ok (vtx_fair p1 hcz) e2 (by rw [hn]; exact e3) (by rw [hn]; simpa using e1)
      rw [okV, hc, Bool.true_and, ← e]
      exact refFoldsV_any _ aO n n cap cO (vtxCl zs).crs zs O wx hn hg hc rfl (by rw [vtx_length]; omega) (by omega) h1' (by simpa using e1) e3 h2'
    · rw [okV, hc, Bool.false_and]
      exact refFoldsV_open _ aO n cap cO zs wx hn hg hc h1'
  have HLE := Lib.hid (show (permsAll n n []).length ≤ 387420489 from Nat.le_trans (permsAll_le n n []) (pow_bound h9 h9))
  have HEQ : Hid (allV zs = (permsAll n n []).filter (okV zs)) := Lib.hid (by rw [allV_eq, hn])
  clear hz hn hg p1 p9 ps
  go_enter Try.func23, Try.ntmps23
  go_wp2_with fail
  refine (HOr.out _ _ 0 _ List.nodup_nil (by simp) rfl (by omega) (fun i hi => by simp at hi)).mono ?_
  rintro e w1 ⟨v1, rfl, hL, hb1⟩
  have hL' := hL.weaken (show w.heap.size ≤ ((w.alloc (.cells #[] 22)).alloc (.cells #[] 3)).heap.size by simp; omega)
  obtain ⟨gA, cA, vsA, rfl, hrA, _⟩ := hL
  have hneA : w.heap.size + 2 ≤ gA := by have := (hrA.lt gA rfl).1; simpa using this
  have hltA := (hrA.lt gA rfl).2
  have hrow0 := row_below (heap_alloc_new w (.cells #[] 22)) (show Below (w.heap.size + 1) (w.alloc (.cells #[] 22)) w1 from ((Below.refl _ _).alloc (by simp) _).trans (hb1.mono (by simp))) (by omega)
  have hbw : Below w.heap.size w w1 := (((Below.refl _ w).alloc (Nat.le_refl _) _).alloc (by simp) _).trans (hb1.mono (by simp; omega))
  have H1 := Lib.hid (And.intro hL' (And.intro hbw hrow0))
  clear hL' hrA hb1 HOr hrow0 hbw
  go_wp2
  go_loopw [5, 7] (fun v i wr => ∃ k : Nat, k ≤ (permsAll n n []).length ∧ i = .int .i64 k ∧ Below w.heap.size w wr ∧ ListsV wr w.heap.size (((permsAll n n []).take k).filter (okV zs)) v ∧ ListsV wr w.heap.size (permsAll n n []) (.slice (some ⟨gA, 0, none⟩) (permsAll n n []).length cA) ∧ some gA ≠ v.ownBlock ∧ gA < wr.heap.size) (fun _ i _ => (permsAll n n []).length - (intOf i).toNat)
  case atStart =>
    refine ⟨0, Nat.zero_le _, rfl, H1.out.2.1, ⟨w.heap.size, 0, [], rfl, ⟨rfl, .inr ⟨w.heap.size, 0, #[], rfl, Nat.le_refl _, H1.out.2.2, Nat.le_refl _, by unfold maxLen; omega, rfl, rfl⟩⟩, fun i hi => by simp at hi⟩, H1.out.1, ?_, hltA⟩
    simp [Value.ownBlock]; omega
  case round =>
    obtain ⟨k, hk, rfl, hb, hL, hA, hgv, hgs⟩ := hrel
    have HB := Lib.hid hb
    have HL := Lib.hid hL
    have HA := Lib.hid hA
    have HG := Lib.hid hgv
    clear hb hL hA hgv
    have hlen := HLE.out
    obtain ⟨PL, hPL⟩ : ∃ PL, permsAll n n [] = PL := ⟨_, rfl⟩
    rw [hPL] at hk hlen HL HA ⊢
    have HPL := Lib.hid hPL
    clear hPL
    by_cases hlt : k < PL.length
    · obtain ⟨gB, cB, vsB, eB, hrB, heB⟩ := HA.out
      obtain ⟨gv, cv, vsv, rfl, _, _⟩ := HL.out
      have hvl : vsB.length = PL.length := by simpa using hrB.1
      cases eB
      have cell := hrB.cellAt k (by omega)
      rw [List.getElem?_eq_getElem (by omega)] at cell
      have hel := heB k hlt
      rw [List.getElem?_eq_getElem hlt, List.getElem?_eq_getElem (by omega : k < vsB.length), Option.getD_some, Option.getD_some] at hel
      obtain ⟨eb, ec, ee, er⟩ := hel
      rw [ee] at cell er
      have hO := List.getElem_mem hlt
      have HT : Hid ((PL.take (k + 1)).filter (okV zs) = (PL.take k).filter (okV zs) ++ (if okV zs PL[k] = true then [PL[k]] else [])) := Lib.hid (by
        rw [List.take_succ_eq_append_getElem hlt, List.filter_append]
        cases h : okV zs PL[k] <;> simp [h])
      have hOl : PL[k].length = n := by
        have := permsAll_ok n n [] List.nodup_nil (by simp) PL[k] (by rw [HPL.out]; exact hO)
        simpa using this.1
      rw [hOl] at cell er
      have hI : Ints wr (some ⟨eb, 0, none⟩) (PL[k].map fun (x : Nat) => (x : Int)) := Ints.of_nats (by have := er; exact this)
      have HFo := Lib.hid (HF.out PL[k] wr (some ⟨eb, 0, none⟩) ec (HZ.out.1.below HB.out) (by rw [HPL.out]; exact hO) hI)
      have HEl : Hid (ElemR wr w.heap.size PL[k] (.slice (some ⟨eb, 0, none⟩) n ec)) := Lib.hid ⟨eb, ec, by rw [hOl], by rw [hOl]; exact er⟩
      generalize PL[k] = O at *
      clear hrB heB hvl ee er hO hI hOl
      rcases Bool.eq_false_or_eq_true (okV zs O) with hok | hok
      · rw [hok, if_pos rfl] at HT
        rw [hok] at HFo
        clear hok
        go_wp2_with fail
        refine HFo.out.mono ?_
        rintro e w3 ⟨rfl, hb3⟩
        have cell3 := (hb3.cell (p := ⟨gA, k, none⟩) hgs).trans cell
        have hgs3 : gA < w3.heap.size := Nat.lt_of_lt_of_le hgs hb3.size
        have HB3 := Lib.hid (HB.out.trans (hb3.mono HB.out.size))
        have HL3 := Lib.hid (HL.out.kept hb3)
        have HA3 := Lib.hid (HA.out.kept hb3)
        have HE3 := Lib.hid (HEl.out.kept hb3)
        have hfl : Hid (((PL.take k).filter (okV zs)).length ≤ 1000000000) := Lib.hid (by
          have := List.length_filter_le (okV zs) (PL.take k)
          rw [List.length_take] at this
          omega)
        clear cell hb3 HFo
        go_wp2_with (at_builtin; refine wpList_app_list1 rfl (.tmp 26) (.tmp 31) rfl w.heap.size _ _ ((PL.take k).filter (okV zs)) O rfl _ rfl rfl HL3.out HE3.out hfl.out HB3.out.size ?_; intro v5 w5 hL5 hb5 hg5 hk5; have H5 := Lib.hid (And.intro hL5 (And.intro (HB3.out.trans hb5) (And.intro (hk5 _ _ HA3.out (fun e => HG.out e)) (And.intro (hg5 gA HG.out hgs3) (Nat.lt_of_lt_of_le hgs3 hb5.size))))); clear hL5 hb5 hg5 hk5)
        go_roundw
        case rel => exact ⟨k + 1, by omega, by go_num, H5.out.2.1, by rw [HT.out]; exact H5.out.1, H5.out.2.2.1, H5.out.2.2.2.1, H5.out.2.2.2.2⟩
        case measure => simp [intOf]; omega
      · rw [hok, if_neg Bool.false_ne_true, List.append_nil] at HT
        rw [hok] at HFo
        clear hok
        go_wp2_with fail
        refine HFo.out.mono ?_
        rintro e w3 ⟨rfl, hb3⟩
        have H3 := Lib.hid (And.intro (HB.out.trans (hb3.mono HB.out.size)) (And.intro (HL.out.kept hb3) (And.intro (HA.out.kept hb3) (Nat.lt_of_lt_of_le hgs hb3.size))))
        clear hb3
        go_wp2
        go_roundw
        case rel => exact ⟨k + 1, by omega, by go_num, H3.out.1, by rw [HT.out]; exact H3.out.2.1, H3.out.2.2.1, HG.out, H3.out.2.2.2⟩
        case measure => simp [intOf]; omega
    · go_wp2
      go_ret
      have hk' : k = PL.length := by omega
      subst hk'
      have hh := HL.out
      rw [List.take_length, ← HPL.out, ← HEQ.out] at hh
      exact ⟨_, rfl, hh, HB.out⟩


/-- What a row of strings holds: rising, each once, the patterns of some orders. -/
structure GoodP (zs : List Int) (ss : List ByteArray) (P : List (List Nat)) : Prop where
  up : (ss.map (·.data.toList)).Pairwise (· < ·)
  mem : ∀ x, x ∈ ss.map (·.data.toList) ↔ x ∈ P.map (patB' zs)

theorem less_bytes (s t : ByteArray) : Op.bytesLess s.toList t.toList = decide (s.data.toList < t.data.toList) := by
  rw [bytesLess_eq, ByteArray.toList_eq, ByteArray.toList_eq]
theorem same_bytes (s t : ByteArray) : (s.toList == t.toList) = true ↔ s.data.toList = t.data.toList := by
  rw [beq_iff_eq, ByteArray.toList_eq, ByteArray.toList_eq]

theorem GoodP.start (zs : List Int) : GoodP zs [] [] := ⟨by simp, by simp⟩
theorem GoodP.same {zs : List Int} {ss : List ByteArray} {P : List (List Nat)} (h : GoodP zs ss P) {O : List Nat} {t : ByteArray} (ht : t ∈ ss) (he : t.data.toList = patB' zs O) : GoodP zs ss (P ++ [O]) := by
  refine ⟨h.up, fun x => ?_⟩
  rw [List.map_append, List.mem_append, ← h.mem x]
  constructor
  · exact .inl
  · rintro (h' | h')
    · exact h'
    · have : x = patB' zs O := by simpa using h'
      rw [this, ← he]
      exact List.mem_map_of_mem ht
theorem GoodP.ins {zs : List Int} {ss : List ByteArray} {P : List (List Nat)} (h : GoodP zs ss P) {O : List Nat} {s : ByteArray} (hs : s.data.toList = patB' zs O) {q : Nat} (hq : q ≤ ss.length)
    (h1 : (ss.take q).all (fun t => Op.bytesLess t.toList s.toList) = true) (h2 : ∀ (hlt : q < ss.length), Op.bytesLess ss[q].toList s.toList = false ∧ (ss[q].toList == s.toList) = false) : GoodP zs (ss.take q ++ [s] ++ ss.drop q) (P ++ [O]) := by
  have hup := h.up
  rw [← List.take_append_drop q ss, List.map_append, List.pairwise_append] at hup
  obtain ⟨u1, u2, u3⟩ := hup
  have l1 : ∀ a ∈ (ss.take q).map (·.data.toList), a < s.data.toList := by
    intro a ha
    obtain ⟨t, ht, rfl⟩ := List.mem_map.1 ha
    have := List.all_eq_true.1 h1 t ht
    rw [less_bytes] at this
    exact of_decide_eq_true this
  have l2 : ∀ b ∈ (ss.drop q).map (·.data.toList), s.data.toList < b := by
    by_cases hlt : q < ss.length
    · obtain ⟨e1, e2⟩ := h2 hlt
      have hh : s.data.toList < ss[q].data.toList := by
        refine Decidable.byContradiction fun hc => ?_
        rw [less_bytes, decide_eq_false_iff_not] at e1
        have := List.le_antisymm (List.not_lt.1 e1) (List.not_lt.1 hc)
        have e3 := (same_bytes ss[q] s).2 this.symm
        rw [e2] at e3
        cases e3
      intro b hb
      rw [List.drop_eq_getElem_cons hlt] at hb u2
      rw [List.map_cons] at hb u2
      rcases List.mem_cons.1 hb with rfl | hb
      · exact hh
      · exact List.lt_trans hh ((List.pairwise_cons.1 u2).1 b hb)
    · intro b hb
      rw [List.drop_eq_nil_of_le (by omega)] at hb
      cases hb
  refine ⟨?_, fun x => ?_⟩
  · rw [List.map_append, List.map_append, List.append_assoc, List.pairwise_append]
    refine ⟨u1, ?_, fun a ha b hb => ?_⟩
    · rw [List.map_cons, List.map_nil, List.singleton_append, List.pairwise_cons]
      exact ⟨l2, u2⟩
    · rw [List.map_cons, List.map_nil, List.singleton_append] at hb
      rcases List.mem_cons.1 hb with rfl | hb
      · exact l1 a ha
      · exact u3 a ha b hb
  · have hm := h.mem x
    rw [← List.take_append_drop q ss, List.map_append, List.mem_append] at hm
    rw [List.map_append, List.map_append, List.mem_append, List.mem_append, List.map_append, List.mem_append, ← hm, List.map_cons, List.map_nil, List.map_cons, List.map_nil, hs]
    constructor
    · rintro ((h' | h') | h')
      · exact .inl (.inl h')
      · exact .inr h'
      · exact .inl (.inr h')
    · rintro ((h' | h') | h')
      · exact .inl (.inl h')
      · exact .inr h'
      · exact .inl (.inr h')

/-- The patterns of a vertex. -/
def patsV (zs : List Int) : List (List UInt8) := if closesB zs = true then patsOf zs else []
theorem GoodP.done {zs : List Int} {ss : List ByteArray} (h : GoodP zs ss (allV zs)) : ss.map (·.data.toList) = patsV zs := by
  unfold patsV
  unfold allV at h
  split at h
  · rw [if_pos (by assumption)]
    have hn : (ss.map (·.data.toList)).Nodup := by
      rw [List.nodup_iff_pairwise_ne]
      exact h.up.imp fun {a b} hab e => by rw [e] at hab; exact List.lt_irrefl _ hab
    have hp : (ss.map (·.data.toList)).Perm (dd ((ordersOf (vtxCl zs) zs.length).map (patB' zs))) := (List.perm_ext_iff_of_nodup hn (dd_nodup _)).2 fun x => by rw [mem_dd, h.mem]
    rw [patsOf, ← mergeSort_of_perm hp]
    symm
    refine List.mergeSort_of_pairwise (h.up.imp fun {a b} hab => ?_)
    simp only [leB, decide_eq_true_eq]
    exact List.le_of_lt hab
  · rw [if_neg (by assumption)]
    cases ss with
    | nil => rfl
    | cons s ss => have := (h.mem s.data.toList).1 (by simp); simp at this

/-- A slice of strings, of the call's own. -/
def StrB (w : World) (base : Nat) (ss : List ByteArray) (v : Value) : Prop := ∃ g cap, v = .slice (some ⟨g, 0, none⟩) ss.length cap ∧ w.ownsRow base 9 1 v ss.length (ss.map Value.string)
theorem StrB.kept {w w' : World} {base : Nat} {ss : List ByteArray} {v : Value} (h : StrB w base ss v) (hb : Below w.heap.size w w') : StrB w' base ss v := by
  obtain ⟨g, cap, rfl, hr⟩ := h
  exact ⟨g, cap, rfl, ownsRow_kept hr hb⟩
theorem StrB.cellAt {w : World} {base g cap : Nat} {ss : List ByteArray} (h : StrB w base ss (.slice (some ⟨g, 0, none⟩) ss.length cap)) {j : Nat} (hj : j < ss.length) : w.cell? ⟨g, j, none⟩ = some (.string ss[j]) := by
  obtain ⟨g', cap', e, hr⟩ := h
  cases e
  rw [hr.cellAt j (by omega)]
  simp [hj]
theorem StrB.bytes {w : World} {base : Nat} {ss : List ByteArray} {v : Value} {L : List (List UInt8)} (h : StrB w base ss v) (hL : ss.map (·.data.toList) = L) : w.ownsRow base 9 1 v L.length (L.map Go.Proofs.encStr) := by
  obtain ⟨g, cap, rfl, hr⟩ := h
  have e : ss.map Value.string = L.map Go.Proofs.encStr := by
    rw [← hL, List.map_map]
    exact List.map_congr_left fun s _ => by simp [Go.Proofs.encStr]
  have e2 : ss.length = L.length := by rw [← hL, List.length_map]
  rw [e, e2] at hr
  rw [e2]
  exact hr

theorem infoStr : (Try.prog.info? 9).map (fun i => (i.zero, i.size, i.bytes)) = some (some (.string ⟨#[]⟩), 1, 16) := by kernel_rfl

/-- 'append(v, strings...)': what the walk wants of it. -/
theorem wpList_app_strs {W : World} {ops : Array Oper} {rest : List Oper} {o : Oper} {a : Act} {Q : Exit → Act → World → Prop} (hgd : o.guard = none) (s x : Operand)
    (ho : o.op = .call { callee := .builtin .append, args := #[s, x], argTypes := #[51, 51] }) (base : Nat) (v : Value) (n : Nat) (xs : List ByteArray) (hs : a.eval s = v) (b off m c : Nat) (O : List ByteArray)
    (hx : a.eval x = .slice (some ⟨b, off, none⟩) m c) (hl : O.length = m) (hc : ∀ j (h : j < O.length), W.cell? ⟨b, off + j, none⟩ = some (.string O[j])) (hown : W.ownsRow base 9 1 v n (xs.map Value.string)) (r : Nat) (hr : n + m = r) (hn : r ≤ 1000000000) (hbase : base ≤ W.heap.size)
    (h : ∀ (a' : Option Addr) (c' : Nat) (w' : World), w'.ownsRow base 9 1 (.slice a' r c') r ((xs ++ O).map Value.string) → Below base W w' → wpList Try.prog ops Q rest (a.put o.dst (.slice a' r c')) w') :
    wpList Try.prog ops Q (o :: rest) a W := by
  obtain ⟨i0, hi, hz0, hz1, hz2⟩ := info_parts infoStr
  subst hr
  refine wpList_append_own_at _ hgd s x 51 ho base 9 i0 (.string ⟨#[]⟩) 1 16 Try.underlying51 hi hz0 hz1 hz2 rfl (by decide) v n (xs.map Value.string) hs hown ⟨b, off, none⟩ m c (O.map Value.string) hx (by simp [hl]) ?_ (by simp [Value.oneCell']) (by unfold maxLen; omega) (by omega) hbase ?_
  · intro j u hj
    have hjl : j < O.length := by have := (List.getElem?_eq_some_iff.1 hj).1; simpa using this
    have hadd : (⟨b, off, none⟩ : Addr).add j = ⟨b, off + j, none⟩ := by unfold Addr.add; split <;> simp_all
    rw [hadd, hc j hjl, ← hj]
    simp [hjl]
  · intro v' w' hown' hg _ _
    obtain ⟨a', c', rfl⟩ := ownsRow_slice hown'
    rw [← List.map_append] at hown'
    exact h a' c' w' hown' ((Below.refl _ _).grown hg hbase fun k hk => (hown.lt k hk).1)


/-- One string, as a slice of one element that was just made. -/
theorem one_str (W : World) (s : ByteArray) : ∀ j (h : j < [s].length), (W.alloc (.cells #[.string s] 9)).cell? ⟨W.heap.size, 0 + j, none⟩ = some (.string [s][j]) := by
  intro j h
  have : j = 0 := by simpa using h
  subst this
  exact World.cell?_alloc_at _ _ _ _ rfl
theorem owns_strs (w : World) : (w.alloc (.cells #[] 9)).ownsRow w.heap.size 9 1 (.slice (some ⟨w.heap.size, 0, none⟩) 0 0) 0 (([] : List ByteArray).map Value.string) := owns_empty w 9

/-- What the outer loop of 'Patterns' keeps. -/
def PatsI (w : World) (zs : List Int) (gA cA : Nat) (k : Nat) (v : Value) (wr : World) : Prop :=
  Below w.heap.size w wr ∧ (∃ ss : List ByteArray, StrB wr w.heap.size ss v ∧ ss.length ≤ k ∧ GoodP zs ss ((allV zs).take k)) ∧ ListsV wr w.heap.size (allV zs) (.slice (some ⟨gA, 0, none⟩) (allV zs).length cA)

theorem PatsI.next {w wr w' : World} {zs : List Int} {gA cA k : Nat} {ts : List ByteArray} {a : Option Addr} {r c : Nat} {v : Value} (hI : PatsI w zs gA cA k v wr) (hb : Below wr.heap.size wr w') (hr : w'.ownsRow wr.heap.size 9 1 (.slice a r c) r (ts.map Value.string))
    (hl : ts.length = r) (h1 : 1 ≤ r) (hk : r ≤ k + 1) (hlt : k < (allV zs).length) (hg : GoodP zs ts ((allV zs).take (k + 1))) : PatsI w zs gA cA (k + 1) (.slice a r c) w' := by
  obtain ⟨m, rfl⟩ : ∃ m, r = m + 1 := ⟨r - 1, by omega⟩
  obtain ⟨g, cp, e⟩ := ownsRow_succ' hr
  cases e
  have hs := hI.1.size
  refine ⟨hI.1.trans (hb.mono hs), ⟨ts, ⟨g, c, by rw [hl], by rw [hl]; exact ownsRow_weaken hr hs⟩, by omega, hg⟩, hI.2.2.kept hb⟩

set_option maxRecDepth 100000 in
set_option maxHeartbeats 8000000 in
theorem refPatterns_any (b off n cap : Nat) (zs : List Int) (w : World) (hn : zs.length = n) (hg : vertexB zs = true) (hz : Ints w (some ⟨b, off, none⟩) zs) :
    Calls Try.prog 38 #[.slice (some ⟨b, off, none⟩) n cap] w (Gives (fun v w' => w'.ownsRow w.heap.size 9 1 v (patsV zs).length ((patsV zs).map Go.Proofs.encStr)) w) := by
  obtain ⟨p1, p9, ps⟩ := vertex_parts hg
  have HA := Lib.hid (AllV_any b off n cap zs (w.alloc (.cells #[] 9)) hn hg (hz.below ((Below.refl _ _).alloc (Nat.le_refl _) _)))
  have HZ := Lib.hid (And.intro hz (And.intro hn hg))
  have HLt : Hid (∀ (O : List Nat) (wx : World) (aO : Option Addr) (cO : Nat), Ints wx (some ⟨b, off, none⟩) zs → O ∈ allV zs → Ints wx aO (O.map fun (x : Nat) => (x : Int)) →
      Calls Try.prog 24 #[.slice (some ⟨b, off, none⟩) n cap, .slice aO n cO, .bool true] wx fun e w' => e = .returned (.string (crsOfV zs O)) ∧ Below wx.heap.size wx w') := Lib.hid fun O wx aO cO h1' hO h2' => by
    unfold allV at hO
    split at hO
    · rename_i hc
      obtain ⟨e1, e2, e3, _⟩ := mem_orders.1 hO
      exact LettersV_any _ aO n n cap cO (vtxCl zs).crs _ zs O wx hn hg hc rfl (by rw [vtx_length]; omega) (by omega) h1' e1 (by rw [e3, hn]) (by rw [← hn]; exact e2) h2' rfl
    · cases hO
  have HLE := Lib.hid (show (allV zs).length ≤ 387420489 by
    unfold allV
    split
    · exact ordersOf_le _ _ (by omega)
    · simp)
  have HLn : Hid (∀ O ∈ allV zs, O.length = n) := Lib.hid fun O hO => by
    unfold allV at hO
    split at hO
    · rw [(mem_orders.1 hO).2.2.1, hn]
    · cases hO
  clear hz hn hg p1 p9 ps
  go_enter Try.func38, Try.ntmps38
  go_wp2_with fail
  refine HA.out.mono ?_
  rintro e w1 ⟨v1, rfl, hL, hb1⟩
  have hL' := hL.weaken (show w.heap.size ≤ (w.alloc (.cells #[] 9)).heap.size by simp)
  obtain ⟨gA, cA, vsA, rfl, _, _⟩ := hL
  have hrow0 := row_below (heap_alloc_new w (.cells #[] 9)) hb1 (by simp)
  have hbw : Below w.heap.size w w1 := ((Below.refl _ w).alloc (Nat.le_refl _) _).trans (hb1.mono (by simp))
  have H1 : Hid (PatsI w zs gA cA 0 (.slice (some ⟨w.heap.size, 0, none⟩) 0 0) w1) := Lib.hid ⟨hbw, ⟨[], ⟨w.heap.size, 0, rfl, ⟨rfl, .inr ⟨w.heap.size, 0, #[], rfl, Nat.le_refl _, hrow0, Nat.le_refl _, by unfold maxLen; omega, rfl, rfl⟩⟩⟩, Nat.le_refl _, GoodP.start zs⟩, hL'⟩
  clear hL' hb1 HA hrow0 hbw
  go_wp2
  go_loopw [3, 5] (fun v i wr => ∃ k : Nat, k ≤ (allV zs).length ∧ i = .int .i64 k ∧ PatsI w zs gA cA k v wr) (fun _ i _ => (allV zs).length - (intOf i).toNat)
  case atStart => exact ⟨0, Nat.zero_le _, rfl, H1.out⟩
  case round =>
    obtain ⟨k, hk, rfl, hI⟩ := hrel
    have HI := Lib.hid hI
    clear hI
    have hlen := HLE.out
    obtain ⟨PL, hPL⟩ : ∃ PL, (allV zs).length = PL := ⟨_, rfl⟩
    have HPL := Lib.hid hPL
    rw [hPL] at hk hlen ⊢
    clear hPL
    by_cases hlt : k < PL
    · obtain ⟨ss, hS, hsk, hGd⟩ := HI.out.2.1
      have hB := HI.out.1
      obtain ⟨gB, cB, vsB, eB, hrB, heB⟩ := HI.out.2.2
      have hka : k < (allV zs).length := by rw [HPL.out]; exact hlt
      have hvl : vsB.length = (allV zs).length := by simpa using hrB.1
      cases eB
      have cell := hrB.cellAt k (by omega)
      rw [List.getElem?_eq_getElem (by omega)] at cell
      have hel := heB k hka
      rw [List.getElem?_eq_getElem hka, List.getElem?_eq_getElem (by omega : k < vsB.length), Option.getD_some, Option.getD_some] at hel
      obtain ⟨eb, ec, ee, er⟩ := hel
      rw [ee] at cell er
      have hO := List.getElem_mem hka
      have hOl := HLn.out _ hO
      rw [hOl] at cell er
      have HLO := Lib.hid (HLt.out _ wr (some ⟨eb, 0, none⟩) ec (HZ.out.1.below hB) hO (Ints.of_nats er))
      have HTk : Hid ((allV zs).take (k + 1) = (allV zs).take k ++ [(allV zs)[k]]) := Lib.hid (List.take_succ_eq_append_getElem hka)
      generalize (allV zs)[k] = O at *
      obtain ⟨g, cap', rfl, hrS⟩ := hS
      have HS := Lib.hid (And.intro hrS (And.intro hGd (And.intro hB hO)))
      clear hrB heB hvl ee er hO hOl hka hrS hGd hB
      go_wp2_with fail
      refine HLO.out.mono ?_
      rintro e w3 ⟨rfl, hb3⟩
      have HS3 := Lib.hid (show StrB w3 w.heap.size ss (.slice (some ⟨g, 0, none⟩) ss.length cap') from ⟨g, cap', rfl, ownsRow_kept HS.out.1 hb3⟩)
      have HI3 : Hid (PatsI w zs gA cA k (.slice (some ⟨g, 0, none⟩) ss.length cap') w3) := Lib.hid ⟨HS.out.2.2.1.trans (hb3.mono HS.out.2.2.1.size), ⟨ss, HS3.out, hsk, HS.out.2.1⟩, HI.out.2.2.kept hb3⟩
      obtain ⟨s, hs⟩ : ∃ s, crsOfV zs O = s := ⟨_, rfl⟩
      have HSb : Hid (s.data.toList = patB' zs O) := Lib.hid (by rw [← hs, patB'])
      have hcapl : ss.length ≤ cap' := by
        rcases HS.out.1.2 with ⟨e, _⟩ | ⟨_, _, _, e, _, _, h, _⟩
        · cases e
        · cases e; exact h
      rw [hs]
      clear hs hb3 cell HLO
      have hss : ss.length ≤ 387420489 := by omega
      go_wp2
      go_loop [7] (fun i => ∃ q : Nat, q ≤ ss.length ∧ i = .int .i64 q ∧ (ss.take q).all (fun t => Op.bytesLess t.toList s.toList) = true) (fun i => ss.length - (intOf i).toNat)
      case atStart => exact ⟨0, Nat.zero_le _, rfl, by simp⟩
      case round =>
        obtain ⟨q, hq, rfl, hall⟩ := hrel
        have HQ := Lib.hid hall
        clear hall
        by_cases hql : q < ss.length
        · have c0 := HS3.out.cellAt hql
          obtain ⟨t, ht⟩ : ∃ t, ss[q] = t := ⟨_, rfl⟩
          rw [ht] at c0
          have HTt := Lib.hid ht
          clear ht
          rcases Bool.eq_false_or_eq_true (Op.bytesLess t.toList s.toList) with hl | hl
          · have HL := Lib.hid hl
            go_wp2
            go_round
            case rel => exact ⟨q + 1, by omega, by go_num, all_next _ _ q hql HQ.out (by rw [HTt.out]; exact HL.out)⟩
            case measure => simp [intOf]; omega
          · rcases Bool.eq_false_or_eq_true (t.toList == s.toList) with he | he
            · have HE := Lib.hid he
              go_wp2
              go_roundw
              case rel =>
                refine ⟨k + 1, by omega, by go_num, HI3.out.1, ⟨ss, HS3.out, by omega, ?_⟩, HI3.out.2.2⟩
                rw [HTk.out]
                exact HS.out.2.1.same (t := t) (by rw [← HTt.out]; exact List.getElem_mem hql) (by rw [← HSb.out]; exact (same_bytes t s).1 HE.out)
              case measure => simp [intOf]; omega
            · have HE := Lib.hid (And.intro hl he)
              have hcq : ¬ cap' = q := by omega
              have HC3 : Hid (∀ j (h : j < (ss.take q).length), (w3.alloc (.cells #[] 9)).cell? ⟨g, 0 + j, none⟩ = some (.string (ss.take q)[j])) := Lib.hid fun j h => by
                have hj : j < ss.length := by rw [List.length_take] at h; omega
                have c := HS3.out.cellAt hj
                rw [Nat.zero_add, World.cell?_alloc_past _ _ _ (World.block_lt_of_cell? w3 _ c), c, List.getElem_take]
              have HD3 : Hid (∀ j (h : j < (ss.drop q).length), w3.cell? ⟨g, q + j, none⟩ = some (.string (ss.drop q)[j])) := Lib.hid fun j h => by
                rw [List.length_drop] at h
                have c := HS3.out.cellAt (j := q + j) (by omega)
                rw [c, List.getElem_drop]
              go_wp2_with (first
                | (at_builtin; refine wpList_app_strs rfl (.tmp 50) (.tmp 53) rfl w3.heap.size (.slice (some ⟨w3.heap.size, 0, none⟩) 0 0) 0 [] rfl g 0 q cap' (ss.take q) rfl (by simp; omega) HC3.out (owns_strs w3) q (by omega) (by omega) (by simp) ?_; intro a4 c4 w4 hr4 hb4; have H4 := Lib.hid (And.intro hr4 (show Below w3.heap.size w3 w4 from ((Below.refl _ _).alloc (Nat.le_refl _) _).trans hb4)); clear hr4 hb4)
                | (at_builtin; refine wpList_app_strs rfl (.tmp 55) (.tmp 57) rfl w3.heap.size (.slice a4 q c4) q _ rfl w4.heap.size 0 1 1 [s] rfl rfl (one_str w4 s) (H4.out.1.alloc _) (q + 1) rfl (by omega) (by have := H4.out.2.size; simp; omega) ?_; intro a5 c5 w5 hr5 hb5; have H5 := Lib.hid (And.intro hr5 (show Below w3.heap.size w3 w5 from (H4.out.2.alloc H4.out.2.size _).trans hb5)); clear hr5 hb5)
                | (at_builtin; refine wpList_app_strs rfl (.tmp 59) (.tmp 62) rfl w3.heap.size (.slice a5 (q + 1) c5) (q + 1) _ rfl g q _ _ (ss.drop q) rfl (by simp; try omega) (fun j h => (H5.out.2.cell (p := ⟨g, q + j, none⟩) (World.block_lt_of_cell? w3 _ (HD3.out j h))).trans (HD3.out j h)) H5.out.1 (ss.length + 1) (by omega) (by omega) H5.out.2.size ?_; intro a6 c6 w6 hr6 hb6; have H6 := Lib.hid (And.intro hr6 (H5.out.2.trans hb6)); clear hr6 hb6))
              go_roundw
              case rel =>
                refine ⟨k + 1, by omega, by go_num, HI3.out.next H6.out.2 H6.out.1 (by simp; omega) (by omega) (by omega) (by rw [HPL.out]; exact hlt) ?_⟩
                rw [HTk.out]
                exact HS.out.2.1.ins HSb.out hq HQ.out (fun _ => by rw [HTt.out]; exact HE.out)
              case measure => simp [intOf]; omega
        · have hqe : q = ss.length := by omega
          by_cases hcq : cap' = q
          · have hcq' := hcq.symm
            subst hcq'
            have HQE := Lib.hid hqe
            clear hqe
            have HC3 : Hid (∀ j (h : j < (ss.take q).length), (w3.alloc (.cells #[] 9)).cell? ⟨g, 0 + j, none⟩ = some (.string (ss.take q)[j])) := Lib.hid fun j h => by
              have hj : j < ss.length := by rw [List.length_take] at h; omega
              have c := HS3.out.cellAt hj
              rw [Nat.zero_add, World.cell?_alloc_past _ _ _ (World.block_lt_of_cell? w3 _ c), c, List.getElem_take]
            have HD3 : Hid (∀ j (h : j < (ss.drop q).length), w3.cell? ⟨g, 0 + j, none⟩ = some (.string (ss.drop q)[j])) := Lib.hid fun j h => by
              rw [List.length_drop] at h
              have := HQE.out; omega
            go_wp2_with (first
              | (at_builtin; refine wpList_app_strs rfl (.tmp 50) (.tmp 53) rfl w3.heap.size (.slice (some ⟨w3.heap.size, 0, none⟩) 0 0) 0 [] rfl g 0 q q (ss.take q) rfl (by simp; omega) HC3.out (owns_strs w3) q (by omega) (by omega) (by simp) ?_; intro a4 c4 w4 hr4 hb4; have H4 := Lib.hid (And.intro hr4 (show Below w3.heap.size w3 w4 from ((Below.refl _ _).alloc (Nat.le_refl _) _).trans hb4)); clear hr4 hb4)
              | (at_builtin; refine wpList_app_strs rfl (.tmp 55) (.tmp 57) rfl w3.heap.size (.slice a4 q c4) q _ rfl w4.heap.size 0 1 1 [s] rfl rfl (one_str w4 s) (H4.out.1.alloc _) (q + 1) rfl (by omega) (by have := H4.out.2.size; simp; omega) ?_; intro a5 c5 w5 hr5 hb5; have H5 := Lib.hid (And.intro hr5 (show Below w3.heap.size w3 w5 from (H4.out.2.alloc H4.out.2.size _).trans hb5)); clear hr5 hb5)
              | (at_builtin; refine wpList_app_strs rfl (.tmp 59) (.tmp 62) rfl w3.heap.size (.slice a5 (q + 1) c5) (q + 1) _ rfl g 0 _ _ (ss.drop q) rfl (by simp; try omega) (fun j h => (H5.out.2.cell (p := ⟨g, 0 + j, none⟩) (World.block_lt_of_cell? w3 _ (HD3.out j h))).trans (HD3.out j h)) H5.out.1 (ss.length + 1) (by omega) (by omega) H5.out.2.size ?_; intro a6 c6 w6 hr6 hb6; have H6 := Lib.hid (And.intro hr6 (H5.out.2.trans hb6)); clear hr6 hb6))
            go_roundw
            case rel =>
              refine ⟨k + 1, by omega, by go_num, HI3.out.next H6.out.2 H6.out.1 (by simp; omega) (by omega) (by omega) (by rw [HPL.out]; exact hlt) ?_⟩
              rw [HTk.out]
              exact HS.out.2.1.ins HSb.out hq HQ.out (fun h => by omega)
            case measure => simp [intOf]; omega
          · have HQE := Lib.hid hqe
            clear hqe
            have HC3 : Hid (∀ j (h : j < (ss.take q).length), (w3.alloc (.cells #[] 9)).cell? ⟨g, 0 + j, none⟩ = some (.string (ss.take q)[j])) := Lib.hid fun j h => by
              have hj : j < ss.length := by rw [List.length_take] at h; omega
              have c := HS3.out.cellAt hj
              rw [Nat.zero_add, World.cell?_alloc_past _ _ _ (World.block_lt_of_cell? w3 _ c), c, List.getElem_take]
            have HD3 : Hid (∀ j (h : j < (ss.drop q).length), w3.cell? ⟨g, q + j, none⟩ = some (.string (ss.drop q)[j])) := Lib.hid fun j h => by
              rw [List.length_drop] at h
              have := HQE.out; omega
            go_wp2_with (first
              | (at_builtin; refine wpList_app_strs rfl (.tmp 50) (.tmp 53) rfl w3.heap.size (.slice (some ⟨w3.heap.size, 0, none⟩) 0 0) 0 [] rfl g 0 q cap' (ss.take q) rfl (by simp; omega) HC3.out (owns_strs w3) q (by omega) (by omega) (by simp) ?_; intro a4 c4 w4 hr4 hb4; have H4 := Lib.hid (And.intro hr4 (show Below w3.heap.size w3 w4 from ((Below.refl _ _).alloc (Nat.le_refl _) _).trans hb4)); clear hr4 hb4)
              | (at_builtin; refine wpList_app_strs rfl (.tmp 55) (.tmp 57) rfl w3.heap.size (.slice a4 q c4) q _ rfl w4.heap.size 0 1 1 [s] rfl rfl (one_str w4 s) (H4.out.1.alloc _) (q + 1) rfl (by omega) (by have := H4.out.2.size; simp; omega) ?_; intro a5 c5 w5 hr5 hb5; have H5 := Lib.hid (And.intro hr5 (show Below w3.heap.size w3 w5 from (H4.out.2.alloc H4.out.2.size _).trans hb5)); clear hr5 hb5)
              | (at_builtin; refine wpList_app_strs rfl (.tmp 59) (.tmp 62) rfl w3.heap.size (.slice a5 (q + 1) c5) (q + 1) _ rfl g q _ _ (ss.drop q) rfl (by simp; try omega) (fun j h => (H5.out.2.cell (p := ⟨g, q + j, none⟩) (World.block_lt_of_cell? w3 _ (HD3.out j h))).trans (HD3.out j h)) H5.out.1 (ss.length + 1) (by omega) (by omega) H5.out.2.size ?_; intro a6 c6 w6 hr6 hb6; have H6 := Lib.hid (And.intro hr6 (H5.out.2.trans hb6)); clear hr6 hb6))
            go_roundw
            case rel =>
              refine ⟨k + 1, by omega, by go_num, HI3.out.next H6.out.2 H6.out.1 (by simp; omega) (by omega) (by omega) (by rw [HPL.out]; exact hlt) ?_⟩
              rw [HTk.out]
              exact HS.out.2.1.ins HSb.out hq HQ.out (fun h => by omega)
            case measure => simp [intOf]; omega
    · go_wp2
      obtain ⟨ss, hS, _, hGd⟩ := HI.out.2.1
      have hkl : (allV zs).length ≤ k := by rw [HPL.out]; omega
      rw [List.take_of_length_le hkl] at hGd
      have hrow := hS.bytes hGd.done
      obtain ⟨g, cap', rfl, _⟩ := hS
      go_ret
      exact ⟨_, rfl, hrow, HI.out.1⟩

end Go.Proofs.Yteankhgikpejhaa
