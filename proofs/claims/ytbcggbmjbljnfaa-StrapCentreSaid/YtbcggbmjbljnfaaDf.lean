/-
  strap: the reference's 'One', 'Then'.
-/
import Derived.Test.YtbcggbmjbljnfaaDe
namespace Go.Proofs.Ytbcggbmjbljnfaa
open Go.RowKit Go.Sort

def castI (p : List Nat) : List Int := p.map fun (x : Nat) => (x : Int)
theorem Nats.of_ints {w : World} {a : Option Addr} {p : List Nat} (h : Ints w a (castI p)) : Nats w a p := fun i hi => by
  obtain ⟨b, off, e, hc⟩ := h i (by simpa [castI] using hi)
  refine ⟨b, off, e, ?_⟩
  rw [hc]
  simp [castI, hi]
theorem idN_succ (k : Nat) : castI (idN (k + 1)) = castI (idN k) ++ [(k : Int)] := by simp [castI, idN, List.range_succ]
set_option maxRecDepth 100000 in
set_option maxHeartbeats 1000000 in
theorem refOne_any (n : Nat) (w : World) (hn : n ≤ 1000) : Calls Try.prog 57 #[.int .i64 (n : Int)] w fun e w' => ∃ g c, e = .returned (.slice (some ⟨g, 0, none⟩) n c) ∧ Nats w' (some ⟨g, 0, none⟩) (idN n) ∧ Below w.heap.size w w' := by
  have HI : Hid (CollI w (castI (idN 0)) 0 (.slice (some ⟨w.heap.size, 0, none⟩) 0 0) (w.alloc (.cells #[] 3))) := Lib.hid (CollI.start w)
  go_enter Try.func57, Try.ntmps57
  go_wp2_with (fail)
  go_loopw [4, 3] (fun v v3 wr => ∃ k g c : Nat, k ≤ n ∧ v = .int .i64 k ∧ v3 = .slice (some ⟨g, 0, none⟩) k c ∧ Hid (CollI w (castI (idN k)) k (.slice (some ⟨g, 0, none⟩) k c) wr)) (fun v _ _ => n - (intOf v).toNat)
  case atStart => exact ⟨0, _, 0, Nat.zero_le _, rfl, rfl, HI⟩
  case round =>
    clear HI
    obtain ⟨k, g, c, hk, rfl, rfl, HR⟩ := hrel
    by_cases hlt : k < n
    · have hkI : (k : Int) < (n : Int) := by omega
      have hown := HR.out.owns
      have hsz := HR.out.1.size
      go_wp2_with (at_builtin; refine wpList_app_int rfl (.tmp 11) (.tmp 13) rfl w.heap.size _ k _ rfl (k : Int) wr.heap.size rfl rfl hown (by omega) hsz ?_; intro g2 c2 w2 hr2 hg2 _ _; have H2 := Lib.hid (HR.out.next hr2 hg2); clear hr2 hg2)
      exact ⟨⟨k + 1, g2, c2, by omega, by go_num, rfl, Lib.hid (by rw [idN_succ]; exact H2.out)⟩, by simp [intOf]; omega⟩
    · obtain rfl : k = n := by omega
      go_wp2_with (fail)
      go_ret
      exact ⟨g, c, rfl, Nats.of_ints (Ints.of_owns HR.out.owns), HR.out.1⟩

/-- 'append(v, x...)' of integers. -/
theorem wpList_app_intsN {W : World} {ops : Array Oper} {rest : List Oper} {o : Oper} {a : Act} {Q : Exit → Act → World → Prop} (hgd : o.guard = none) (s x : Operand)
    (ho : o.op = .call { callee := .builtin .append, args := #[s, x], argTypes := #[22, 22] }) (base : Nat) (v : Value) (n : Nat) (xs : List Value) (hs : a.eval s = v) (ad : Addr) (m c : Nat) (us : List Value)
    (hx : a.eval x = .slice (some ad) m c) (hl : us.length = m) (hc : ∀ j u, us[j]? = some u → W.cell? (ad.add j) = some u) (h1 : ∀ u ∈ us, u.oneCell' = true) (hown : W.ownsRow base 3 1 v n xs) (hnn : v ≠ .slice none 0 0) (r : Nat) (hr : n + m = r) (hn : r ≤ 1000000) (hbase : base ≤ W.heap.size)
    (h : ∀ (g c' : Nat) (w' : World), w'.ownsRow base 3 1 (.slice (some ⟨g, 0, none⟩) r c') r (xs ++ us) → W.grownBy w' v.ownBlock → wpList Try.prog ops Q rest (a.put o.dst (.slice (some ⟨g, 0, none⟩) r c')) w') :
    wpList Try.prog ops Q (o :: rest) a W := by
  obtain ⟨i0, hi, hz0, hz1, hz2⟩ := info_parts Try.info3
  subst hr
  refine wpList_append_own_at _ hgd s x 22 ho base 3 i0 (.int .i64 0) 1 8 Try.underlying22 hi hz0 hz1 hz2 rfl (by decide) v n xs hs hown ad m c us hx (by omega) hc h1 (by unfold maxLen; omega) (by omega) hbase ?_
  intro v' w' hown' hg hnil _
  rcases hown'.2 with ⟨e, _⟩ | ⟨g, c', cur, e, _⟩
  · exact absurd (hnil.1 e).1 hnn
  · subst e
    exact h g c' w' hown' hg
theorem owns_put {w : World} {base g n cap k : Nat} {e : TypeId} {xs : List Value} (h : w.ownsRow base e 1 (.slice (some ⟨g, 0, none⟩) n cap) n xs) (hk : k < n) (u : Value) : (w.setCell ⟨g, k, none⟩ u).ownsRow base e 1 (.slice (some ⟨g, 0, none⟩) n cap) n (xs.set k u) := by
  have hl : xs.length = n := by simpa using h.1
  rcases h.2 with ⟨e', _⟩ | ⟨g', cap', cur, e', hg, hr, h1, h2, hs, ht⟩
  · cases e'
  · cases e'
    rw [Nat.mul_one] at hs ht
    refine ⟨by simp [hl], .inr ⟨g, cap, cur.setIfInBounds k u, rfl, hg, heap_setCell_self hr u, h1, h2, by simp [hs], ?_⟩⟩
    rw [Nat.mul_one, Array.toList_setIfInBounds, List.take_set, ht]
theorem owns_free {w : World} {base g n cap : Nat} {e : TypeId} {xs : List Value} (h : w.ownsRow base e 1 (.slice (some ⟨g, 0, none⟩) n cap) n xs) (j : Nat) : w.frozen? ⟨g, j, none⟩ = false := by
  rcases h.2 with ⟨e', _⟩ | ⟨g', cap', cur, e', hg, hr, _⟩
  · cases e'
  · cases e'; exact row_free hr j

/-- What is replaced, number by number. -/
def mixN (q p : List Nat) (k : Nat) : List Nat := q.take k ++ p.drop k
theorem mixN_set {q p : List Nat} {k : Nat} (hq : k < q.length) (hp : k < p.length) : (mixN q p k).set k (q[k]?.getD 0) = mixN q p (k + 1) := by
  unfold mixN
  have e : q.take (k + 1) = q.take k ++ [q[k]] := by simp
  rw [List.set_append_right _ _ (by simp; omega), show k - (q.take k).length = 0 by simp; omega, List.drop_eq_getElem_cons hp, List.set_cons_zero, e, List.getElem?_eq_getElem hq, Option.getD_some, List.append_assoc]
  rfl
theorem mixN_keep {q p : List Nat} {k : Nat} (hq : k < q.length) (hp : k < p.length) (h : q[k]?.getD 0 = p[k]?.getD 0) : mixN q p k = mixN q p (k + 1) := by
  rw [← mixN_set hq hp, h]
  unfold mixN
  rw [List.set_append_right _ _ (by simp; omega), show k - (q.take k).length = 0 by simp; omega, List.drop_eq_getElem_cons hp, List.set_cons_zero, List.getElem?_eq_getElem hp, Option.getD_some]
theorem exch_get {n i x : Nat} (hi : i + 1 < n) (hx : x < n) : (exchN n (i + 1))[x]?.getD 0 = if x = i then i + 1 else if x = i + 1 then i else x := by
  unfold exchN
  by_cases h1 : x = i + 1
  · subst h1
    rw [if_neg (by omega), if_pos rfl]
    simp [hi]
  · rw [List.getElem?_set_ne (by omega), Nat.add_sub_cancel]
    by_cases h2 : x = i
    · subst h2
      rw [if_pos rfl]
      simp [hx]
    · rw [List.getElem?_set_ne (by omega), if_neg h2, if_neg h1]
      simp [hx]
theorem then_get {n i k : Nat} {p : List Nat} (hp : InN n p) (hi : i + 1 < n) (hk : k < n) : (thenN p (exchN n (i + 1)))[k]?.getD 0 = if p[k]?.getD 0 = i then i + 1 else if p[k]?.getD 0 = i + 1 then i else p[k]?.getD 0 := by
  rw [← exch_get hi (hp.at hk)]
  have : k < p.length := by rw [hp.1]; exact hk
  simp [thenN, this]

set_option maxRecDepth 100000 in
set_option maxHeartbeats 1000000 in
theorem refThen_any (a : Option Addr) (n cp i : Nat) (p : List Nat) (w : World) (hp : InN n p) (hi : i + 1 < n) (hn : n ≤ 1000) (hz : Nats w a p) :
    Calls Try.prog 58 #[.slice a n cp, .int .i64 (i : Int)] w fun e w' => ∃ g c, e = .returned (.slice (some ⟨g, 0, none⟩) n c) ∧ Nats w' (some ⟨g, 0, none⟩) (thenN p (exchN n (i + 1))) ∧ Below w.heap.size w w' := by
  rcases hz.at with h | ⟨b, off, rfl, hc⟩
  · have := hp.1; rw [h] at this; simp at this; omega
  have hql : (thenN p (exchN n (i + 1))).length = n := by rw [thenN, List.length_map, hp.1]
  have HG := Lib.hid (fun k (hk : k < n) => then_get (k := k) hp hi hk)
  obtain ⟨q, hq⟩ : ∃ q, thenN p (exchN n (i + 1)) = q := ⟨_, rfl⟩
  rw [hq] at hql HG ⊢
  have HPL := Lib.hid hp.1
  have HQL := Lib.hid hql
  have HC := Lib.hid hc
  have HA : Hid (∀ j u, ((castI p).map (Value.int .i64))[j]? = some u → (w.alloc (.cells #[] 3)).cell? ((⟨b, off, none⟩ : Addr).add j) = some u) := Lib.hid (fun j u hj => by
    have hjl : j < p.length := by have := (List.getElem?_eq_some_iff.1 hj).1; simpa [castI] using this
    have hadd : (⟨b, off, none⟩ : Addr).add j = ⟨b, off + j, none⟩ := by unfold Addr.add; split <;> simp_all
    rw [hadd, ((Below.refl _ w).alloc (Nat.le_refl _) (.cells #[] 3)).cell (p := ⟨b, off + j, none⟩) (World.block_lt_of_cell? w _ (hc j hjl)), hc j hjl]
    rw [← hj]
    simp [castI, hjl])
  have HLE : Hid (((castI p).map (Value.int .i64)).length = n) := Lib.hid (by simp [castI, hp.1])
  have HE0 : Hid ((w.alloc (.cells #[] 3)).ownsRow w.heap.size 3 1 (.slice (some ⟨w.heap.size, 0, none⟩) 0 0) 0 []) := Lib.hid (CollI.start w).owns
  have hw1 : IntKind.i64.wrap ((i : Int) + 1) = (i : Int) + 1 := by rw [IntKind.wrap_i64]; omega
  have hni : ¬ ((i : Int) = (i : Int) + 1) := by omega
  clear hz hc hp hq hql
  go_enter Try.func58, Try.ntmps58
  go_wp2_with (at_builtin; refine wpList_app_intsN rfl (.tmp 7) (.tmp 8) rfl w.heap.size _ 0 [] rfl ⟨b, off, none⟩ n cp ((castI p).map (Value.int .i64)) rfl HLE.out HA.out (by simp [castI, Value.oneCell']) HE0.out (fun e => by cases e) n (by omega) (by omega) (by simp) ?_; intro g c2 w2 hr2 hg2; have H2 := Lib.hid (And.intro hr2 hg2); clear hr2 hg2)
  have HB2 : Hid (Below w.heap.size w w2) := Lib.hid (((Below.refl _ w).alloc (Nat.le_refl _) (.cells #[] 3)).grown H2.out.2 (by simp) (fun k hk => by cases hk; exact Nat.le_refl _))
  have hge : w.heap.size ≤ g := (H2.out.1.lt g rfl).1
  have HI : Hid (w2.ownsRow w.heap.size 3 1 (.slice (some ⟨g, 0, none⟩) n c2) n ((castI (mixN q p 0)).map (Value.int .i64)) ∧ Below w.heap.size w w2) := Lib.hid ⟨by have := H2.out.1; simpa [mixN] using this, HB2.out⟩
  clear HA HLE HE0 H2 HB2
  go_loopw [6] (fun v wr => ∃ k : Nat, k ≤ n ∧ v = .int .i64 k ∧ Hid (wr.ownsRow w.heap.size 3 1 (.slice (some ⟨g, 0, none⟩) n c2) n ((castI (mixN q p k)).map (Value.int .i64)) ∧ Below w.heap.size w wr)) (fun v _ => n - (intOf v).toNat)
  case atStart => exact ⟨0, Nat.zero_le _, rfl, HI⟩
  case round =>
    clear HI
    obtain ⟨k, hk, rfl, HR⟩ := hrel
    by_cases hlt : k < n
    · have hkI : (k : Int) < (n : Int) := by omega
      have hck := HC.out k (by rw [HPL.out]; exact hlt)
      have hbl := World.block_lt_of_cell? w _ hck
      have c0 := (HR.out.2.cell (p := ⟨b, off + k, none⟩) hbl).trans hck
      have hbg : b ≠ g := by have : b < w.heap.size := hbl; omega
      have hlen : ((castI (mixN q p k)).map (Value.int .i64)).length = n := by have := HR.out.1.1; simpa using this
      obtain ⟨old, c1⟩ : ∃ old, wr.cell? ⟨g, k, none⟩ = some old := ⟨_, by rw [HR.out.1.cellAt k (by omega)]; exact List.getElem?_eq_getElem (by rw [hlen]; exact hlt)⟩
      have f1 := owns_free HR.out.1 k
      have hgt := HG.out k hlt
      obtain ⟨x, hx⟩ : ∃ x, p[k]?.getD 0 = x := ⟨_, rfl⟩
      rw [hx] at c0 hgt
      have HX := Lib.hid hx
      have hset : ∀ y : Nat, q[k]?.getD 0 = y → ((castI (mixN q p k)).map (Value.int .i64)).set k (.int .i64 (y : Int)) = (castI (mixN q p (k + 1))).map (Value.int .i64) := fun y hy => by
        rw [← mixN_set (by rw [HQL.out]; exact hlt) (by rw [HPL.out]; exact hlt), hy, castI, castI]
        simp [List.map_set]
      have HS := Lib.hid hset
      by_cases h1 : x = i
      · subst h1
        rw [if_pos rfl] at hgt
        have HGT := Lib.hid hgt
        have c0' := fun (v : Value) => (cell_other (w := wr) (i := k) (y := v) (k := off + k) hbg).trans c0
        clear hck hbl hx hset hgt hlen
        go_wp2_with (fail)
        refine ⟨⟨k + 1, by omega, by go_num, Lib.hid ⟨by rw [← HS.out _ HGT.out]; exact owns_put HR.out.1 hlt _, HR.out.2.setCell (p := ⟨g, k, none⟩) hge _⟩⟩, by simp [intOf]; omega⟩
      · rw [if_neg h1] at hgt
        have hne1 : ¬ ((x : Int) = (i : Int)) := by omega
        by_cases h2 : x = i + 1
        · subst h2
          rw [if_pos rfl] at hgt
          have HGT := Lib.hid hgt
          clear hck hbl hx hset hgt hlen h1
          go_wp2_with (fail)
          exact ⟨⟨k + 1, by omega, by go_num, Lib.hid ⟨by rw [← HS.out _ HGT.out]; exact owns_put HR.out.1 hlt _, HR.out.2.setCell (p := ⟨g, k, none⟩) hge _⟩⟩, by simp [intOf]; omega⟩
        · rw [if_neg h2] at hgt
          have hne2 : ¬ ((x : Int) = (i : Int) + 1) := by omega
          have HKP := Lib.hid (mixN_keep (q := q) (p := p) (k := k) (by rw [HQL.out]; exact hlt) (by rw [HPL.out]; exact hlt) (by rw [hgt, hx]))
          clear hck hbl hx hset hgt hlen h1 h2
          go_wp2_with (fail)
          exact ⟨⟨k + 1, by omega, by go_num, Lib.hid ⟨by rw [← HKP.out]; exact HR.out.1, HR.out.2⟩⟩, by simp [intOf]; omega⟩
    · obtain rfl : k = n := by omega
      have hmx : mixN q p k = q := by rw [mixN, List.take_of_length_le (by rw [HQL.out]; exact Nat.le_refl _), List.drop_of_length_le (by rw [HPL.out]; exact Nat.le_refl _), List.append_nil]
      have HMX := Lib.hid hmx
      clear hmx
      go_wp2_with (fail)
      go_ret
      have h := HR.out.1
      rw [HMX.out] at h
      exact ⟨g, c2, rfl, Nats.of_ints (Ints.of_owns h), HR.out.2⟩

end Go.Proofs.Ytbcggbmjbljnfaa
