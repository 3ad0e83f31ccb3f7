/-
  The walks of 'strip', 'reversed', 'exchanged'.
-/
import Derived.Test.YteankhgikpejhaaFy
namespace Go.Proofs.Yteankhgikpejhaa
open Go.RowKit Go.Sort

/-- A slice of integers of the call's own. -/
def IntsV (w w' : World) (l : List Int) (v : Value) : Prop := ∃ g cap, v = .slice (some ⟨g, 0, none⟩) l.length cap ∧ w.heap.size ≤ g ∧ w'.ownsRow w.heap.size 3 1 v l.length (l.map (Value.int .i64))
theorem IntsV.ints {w w' : World} {l : List Int} {v : Value} (h : IntsV w w' l v) : ∃ g cap, v = .slice (some ⟨g, 0, none⟩) l.length cap ∧ Ints w' (some ⟨g, 0, none⟩) l := by
  obtain ⟨g, cap, rfl, _, hr⟩ := h
  exact ⟨g, cap, rfl, Ints.of_owns hr⟩
theorem IntsV.mk {w w' : World} {l : List Int} {g cap : Nat} (h : w'.ownsRow w.heap.size 3 1 (.slice (some ⟨g, 0, none⟩) l.length cap) l.length (l.map (Value.int .i64))) : IntsV w w' l (.slice (some ⟨g, 0, none⟩) l.length cap) :=
  ⟨g, cap, rfl, (h.lt g rfl).1, h⟩

/-- The word of a loop that collects integers. -/
def CollI (w : World) (l : List Int) (k : Nat) (v : Value) (wr : World) : Prop := Below w.heap.size w wr ∧ l.length = k ∧ ∃ g cap, v = .slice (some ⟨g, 0, none⟩) k cap ∧ wr.ownsRow w.heap.size 3 1 v k (l.map (Value.int .i64))
theorem CollI.start (w : World) : CollI w [] 0 (.slice (some ⟨w.heap.size, 0, none⟩) 0 0) (w.alloc (.cells #[] 3)) :=
  ⟨(Below.refl _ w).alloc (Nat.le_refl _) _, rfl, w.heap.size, 0, rfl, rfl, .inr ⟨w.heap.size, 0, #[], rfl, Nat.le_refl _, heap_alloc_new w _, Nat.le_refl _, by unfold maxLen; omega, rfl, rfl⟩⟩
theorem CollI.next {w wr w2 : World} {l : List Int} {k : Nat} {v : Value} {z : Int} {g cap : Nat} (h : CollI w l k v wr) (hr : w2.ownsRow w.heap.size 3 1 (.slice (some ⟨g, 0, none⟩) (k + 1) cap) (k + 1) (l.map (Value.int .i64) ++ [.int .i64 z])) (hg : wr.grownBy w2 v.ownBlock) : CollI w (l ++ [z]) (k + 1) (.slice (some ⟨g, 0, none⟩) (k + 1) cap) w2 := by
  obtain ⟨hb, hl, g0, c0, rfl, h0⟩ := h
  exact ⟨hb.grown hg hb.size (fun q hq => (h0.lt q hq).1), by simp [hl], g, cap, rfl, by simpa using hr⟩
theorem CollI.owns {w wr : World} {l : List Int} {k : Nat} {v : Value} (h : CollI w l k v wr) : wr.ownsRow w.heap.size 3 1 v k (l.map (Value.int .i64)) := by
  obtain ⟨_, _, _, _, _, h0⟩ := h; exact h0
theorem CollI.gives {w wr : World} {l : List Int} {k : Nat} {v : Value} (h : CollI w l k v wr) : IntsV w wr l v := by
  obtain ⟨_, rfl, g, c, rfl, h0⟩ := h; exact IntsV.mk h0

set_option maxRecDepth 100000 in
set_option maxHeartbeats 2000000 in
theorem reversed_any (a : Option Addr) (n cap : Nat) (zs : List Int) (w : World) (hn : zs.length = n) (hm : n ≤ 1000000) (hz : Ints w a zs) :
    Calls Try.prog 44 #[.slice a n cap] w (Gives (fun v w' => IntsV w w' zs.reverse v) w) := by
  have HX := Lib.hid hz.at
  have HN := Lib.hid hn
  clear hz hn
  go_enter Try.func44, Try.ntmps44
  go_wp2
  go_loopw [3, 4] (fun v i wr => ∃ k : Nat, k ≤ n ∧ i = .int .i64 ((k : Int) - 1) ∧ CollI w (zs.drop k).reverse (n - k) v wr) (fun _ i _ => (intOf i + 1).toNat)
  case atStart => exact ⟨n, Nat.le_refl _, rfl, by rw [List.drop_of_length_le (by rw [HN.out]; exact Nat.le_refl _), Nat.sub_self]; exact CollI.start w⟩
  case round =>
    obtain ⟨k, hk, rfl, hC⟩ := hrel
    by_cases hlt : 0 < k
    · obtain ⟨j, rfl⟩ : ∃ j, k = j + 1 := ⟨k - 1, by omega⟩
      rcases HX.out with h | ⟨b, off, rfl, hc⟩
      · have := HN.out; subst h; simp at this; omega
      have hj : j < zs.length := by rw [HN.out]; omega
      have c0 := (hC.1.cell (p := ⟨b, off + j, none⟩) (World.block_lt_of_cell? w _ (hc j hj))).trans (hc j hj)
      have HD : Hid ((zs.drop j).reverse = (zs.drop (j + 1)).reverse ++ [zs[j]?.getD 0]) := Lib.hid (by rw [List.drop_eq_getElem_cons hj]; simp [hj])
      obtain ⟨q, hq⟩ : ∃ q, n - (j + 1) = q := ⟨_, rfl⟩
      rw [hq] at hC
      have HQ := Lib.hid (show n - j = q + 1 by omega)
      have hql : q ≤ 1000000 := by omega
      clear hq
      have e : (((j + 1 : Nat) : Int) - 1) = j := by omega
      simp only [e]
      generalize zs[j]?.getD 0 = z at *
      have hsz := hC.1.size
      have HC := Lib.hid hC
      clear hc hC e
      obtain ⟨_, _, g0, cp0, rfl, _⟩ := HC.out
      go_wp2_with (at_builtin; refine wpList_app_int rfl (.tmp 13) (.tmp 18) rfl w.heap.size _ _ _ rfl z _ rfl rfl HC.out.owns hql hsz ?_; intro g cp w2 hr2 hg2 hat2 _; have H2 := Lib.hid (HC.out.next hr2 hg2); clear hr2 hg2 hat2)
      go_roundw
      case rel =>
        refine ⟨j, by omega, rfl, ?_⟩
        rw [HD.out, HQ.out]
        exact H2.out
      case measure => simp [intOf]
    · obtain rfl : k = 0 := by omega
      have HC := Lib.hid hC
      clear hC
      go_wp2
      go_ret
      exact ⟨_, rfl, by have := HC.out.gives; simpa using this, HC.out.1⟩

/-- A valid strip made of any numbers. -/
def stripOf (zs : List Int) (most : Nat) (size : Int) : List Int := if (zs.take most).isEmpty = true then [1] else (zs.take most).map (f1Z · size)

set_option maxRecDepth 100000 in
set_option maxHeartbeats 2000000 in
theorem strip_any' (a : Option Addr) (n cap most : Nat) (size : Int) (zs : List Int) (w : World) (hn : zs.length = n) (hm : n ≤ 9223372036854775807) (hz : Ints w a zs) (hi : ∀ z ∈ zs, -9223372036854775808 ≤ z ∧ z ≤ 9223372036854775807)
    (h1 : 1 ≤ most) (h9 : most ≤ 9) (hs : 1 ≤ size) (hs2 : size ≤ 1000) :
    Calls Try.prog 40 #[.slice a n cap, .int .i64 most, .int .i64 size] w (Gives (fun v w' => IntsV w w' (stripOf zs most size) v) w) := by
  have HX := Lib.hid hz.at
  have HN := Lib.hid hn
  have HF := Lib.hid (fun (z : Int) (hb : -9223372036854775808 ≤ z ∧ z ≤ 9223372036854775807) wx => fold1_any z size wx hs hs2 hb.1 hb.2)
  have HI := Lib.hid hi
  clear hz hn hi
  go_enter Try.func40, Try.ntmps40
  go_wp2
  go_loopw [7, 8] (fun v i wr => ∃ k : Nat, k ≤ n ∧ k ≤ most ∧ i = .int .i64 k ∧ CollI w ((zs.take k).map (f1Z · size)) k v wr) (fun _ i _ => most - (intOf i).toNat)
  case atStart => exact ⟨0, Nat.zero_le _, Nat.zero_le _, rfl, CollI.start w⟩
  case round =>
    obtain ⟨k, hk, hkm, rfl, hC⟩ := hrel
    by_cases hlt : k < n
    · by_cases hlt2 : k < most
      · rcases HX.out with h | ⟨b, off, rfl, hc⟩
        · have := HN.out; subst h; simp at this; omega
        have hj : k < zs.length := by rw [HN.out]; omega
        have c0 := (hC.1.cell (p := ⟨b, off + k, none⟩) (World.block_lt_of_cell? w _ (hc k hj))).trans (hc k hj)
        have hzb := HI.out (zs[k]?.getD 0) (by simp [hj])
        have HD : Hid ((zs.take (k + 1)).map (f1Z · size) = (zs.take k).map (f1Z · size) ++ [f1Z (zs[k]?.getD 0) size]) := Lib.hid (by rw [List.take_succ_eq_append_getElem hj, List.map_append, List.getElem?_eq_getElem hj]; rfl)
        generalize zs[k]?.getD 0 = z at *
        have hFz := Lib.hid (HF.out z hzb)
        have hsz := hC.1.size
        have HC := Lib.hid hC
        clear hc hC
        obtain ⟨_, _, g0, cp0, rfl, _⟩ := HC.out
        go_wp2_with (first
          | (go_at_call 42; refine (hFz.out _).mono ?_; rintro e w' ⟨rfl, rfl⟩)
          | (at_builtin; refine wpList_app_int rfl (.tmp 21) (.tmp 28) rfl w.heap.size _ _ _ rfl (f1Z z size) _ rfl rfl HC.out.owns (by omega) hsz ?_; intro g cp w2 hr2 hg2 hat2 _; have H2 := Lib.hid (HC.out.next hr2 hg2); clear hr2 hg2 hat2))
        go_roundw
        case rel =>
          refine ⟨k + 1, by omega, by omega, by go_num, ?_⟩
          rw [HD.out]
          exact H2.out
        case measure => simp [intOf]; omega
      · obtain rfl : k = most := by omega
        have HC := Lib.hid hC
        have HS := Lib.hid (show stripOf zs k size = (zs.take k).map (f1Z · size) by
          rw [stripOf, if_neg]
          rw [List.isEmpty_iff, List.take_eq_nil_iff]
          have := HN.out
          rintro (h | h)
          · omega
          · subst h; simp at this; omega)
        clear hC
        obtain ⟨_, _, g0, cp0, rfl, _⟩ := HC.out
        go_wp2
        go_ret
        exact ⟨_, rfl, by rw [HS.out]; exact HC.out.gives, HC.out.1⟩
    · obtain rfl : k = n := by omega
      have ht : zs.take most = zs.take k := by rw [List.take_of_length_le (by rw [HN.out]; exact hkm), List.take_of_length_le (by rw [HN.out]; exact Nat.le_refl _)]
      have HT := Lib.hid ht
      have HC := Lib.hid hC
      clear hC ht
      by_cases h0 : k = 0
      · subst h0
        obtain ⟨_, _, g0, cp0, rfl, _⟩ := HC.out
        have hsz := HC.out.1.size
        go_wp2_with (at_builtin; refine wpList_app_int rfl (.tmp 33) (.tmp 34) rfl w.heap.size _ _ _ rfl 1 _ rfl rfl HC.out.owns (by omega) hsz ?_; intro g cp w2 hr2 hg2 hat2 _; have H2 := Lib.hid (HC.out.next hr2 hg2); clear hr2 hg2 hat2)
        go_ret
        have HS := (show stripOf zs most size = [1] by rw [stripOf, HT.out]; rfl)
        exact ⟨_, rfl, by rw [HS]; have := H2.out.gives; simpa using this, H2.out.1⟩
      · have HS := Lib.hid (show stripOf zs most size = (zs.take k).map (f1Z · size) by
          rw [stripOf, HT.out, if_neg]
          rw [List.isEmpty_iff, List.take_eq_nil_iff]
          have := HN.out
          rintro (h | h)
          · omega
          · subst h; simp at this; omega)
        obtain ⟨_, _, g0, cp0, rfl, _⟩ := HC.out
        go_wp2
        go_ret
        exact ⟨_, rfl, by rw [HS.out]; exact HC.out.gives, HC.out.1⟩

theorem stripOf_good (zs : List Int) (most : Nat) (size : Int) (h1 : 1 ≤ most) (h9 : most ≤ 9) (hs : 1 ≤ size) (hs2 : size ≤ 1000) : stripB (stripOf zs most size) = true ∧ (stripOf zs most size).length ≤ most := by
  unfold stripOf
  split
  · exact ⟨rfl, by simpa using h1⟩
  · rename_i h
    rw [List.isEmpty_iff] at h
    have hl : (zs.take most).length ≤ most := by simp; omega
    have hp : 0 < (zs.take most).length := List.length_pos_iff.2 h
    refine ⟨?_, by simpa using hl⟩
    rw [stripB, sizesB, List.length_map]
    simp only [Bool.and_eq_true, decide_eq_true_eq, List.all_eq_true, List.mem_map, forall_exists_index, and_imp, forall_apply_eq_imp_iff₂]
    refine ⟨⟨hp, by omega⟩, fun z _ => ?_⟩
    have := f1Z_bd z size hs
    simp [sizeB]; omega

/-- A pattern with M and V exchanged. -/
def exchZ (l : List UInt8) : List UInt8 := l.map fun c => if c = 86 then 77 else 86
def exchS (s : ByteArray) : ByteArray := ⟨(exchZ s.data.toList).toArray⟩

theorem bytes_push (q : ByteArray) (c : UInt8) (l : List UInt8) (k : Nat) (h1 : q.size = k) (h2 : q.data.toList = l) : (q ++ (⟨#[c]⟩ : ByteArray)).size = k + 1 ∧ (q ++ (⟨#[c]⟩ : ByteArray)).data.toList = l ++ [c] := by
  subst h1 h2
  constructor
  · rw [ByteArray.size_append]; rfl
  · rw [ByteArray.data_append, Array.toList_append]
theorem bytes_eq {q : ByteArray} {l : List UInt8} (h : q.data.toList = l) : q = ⟨l.toArray⟩ := by
  subst h
  cases q; simp

set_option maxHeartbeats 1000000 in
theorem exchanged_any (s : ByteArray) (w : World) (hs : s.size ≤ 1000) :
    Calls Try.prog 45 #[.string s] w fun e w' => e = .returned (.string (exchS s)) ∧ w = w' := by
  go_enter Try.func45, Try.ntmps45
  go_wp2
  go_loop [3, 4] (fun t i => ∃ k : Nat, k ≤ s.size ∧ i = .int .i64 k ∧ ∃ q : ByteArray, t = .string q ∧ Hid (q.size = k) ∧ Hid (q.data.toList = exchZ (s.data.toList.take k))) (fun _ i => s.size - (intOf i).toNat)
  case atStart => exact ⟨0, Nat.zero_le _, rfl, _, rfl, Lib.hid rfl, Lib.hid rfl⟩
  case round =>
    obtain ⟨k, hk, rfl, q, rfl, hq1, hq2⟩ := hrel
    have hq3 : q.size ≤ 1000 := by rw [hq1.out]; omega
    by_cases hlt : k < s.size
    · have HT : Hid (∀ c : UInt8, c = (if s[k] = 86 then 77 else 86) → exchZ (s.data.toList.take (k + 1)) = exchZ (s.data.toList.take k) ++ [c]) := Lib.hid fun c hc => by
        rw [List.take_succ_eq_append_getElem (by simpa using hlt), exchZ, List.map_append, hc]; rfl
      by_cases h : s[k] = 86
      · have hb : ((s[k].toNat : Int) == 86) = true := by rw [h]; rfl
        have HH := Lib.hid h
        clear h
        go_wp2
        go_round
        case rel =>
          obtain ⟨p1, p2⟩ := bytes_push q 77 _ _ hq1.out hq2.out
          exact ⟨k + 1, by omega, by go_num, _, rfl, Lib.hid p1, Lib.hid (p2.trans (HT.out 77 (by rw [HH.out]; rfl)).symm)⟩
        case measure => simp [intOf]; omega
      · have hb : ((s[k].toNat : Int) == 86) = false := by
          rw [beq_eq_false_iff_ne]
          intro e
          exact h (UInt8.toNat_inj.1 (by have : s[k].toNat = 86 := by omega
                                         rw [this]; rfl))
        have HH := Lib.hid h
        clear h
        go_wp2
        go_round
        case rel =>
          obtain ⟨p1, p2⟩ := bytes_push q 86 _ _ hq1.out hq2.out
          exact ⟨k + 1, by omega, by go_num, _, rfl, Lib.hid p1, Lib.hid (p2.trans (HT.out 86 (by rw [if_neg HH.out])).symm)⟩
        case measure => simp [intOf]; omega
    · go_wp2
      go_ret
      have e : k = s.size := by omega
      have h2 := hq2.out
      rw [List.take_of_length_le (by simp; omega)] at h2
      exact ⟨by rw [bytes_eq h2]; rfl, rfl⟩

end Go.Proofs.Yteankhgikpejhaa
