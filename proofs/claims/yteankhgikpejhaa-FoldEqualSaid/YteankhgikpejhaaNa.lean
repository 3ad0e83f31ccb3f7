/-
  Vertices: whether one is valid; its cloth; the walk of slices.Insert of one crease at the front.
-/
import Derived.Test.YteankhgikpejhaaFt
import Derived.Test.YteankhgikpejhaaHc
import Derived.Test.YteankhgikpejhaaJc
import Derived.Lib.Overlaps
import Derived.Lib.AppendZerosOnto
namespace Go.Proofs.Yteankhgikpejhaa
open Go.RowKit Go.Sort

def vertexB (zs : List Int) : Bool := decide (2 ≤ zs.length) && decide (zs.length ≤ 8) && sizesB zs
theorem vertex_parts {zs : List Int} (h : vertexB zs = true) : 2 ≤ zs.length ∧ zs.length ≤ 8 ∧ sizesB zs = true := by
  simp [vertexB] at h
  exact ⟨h.1.1, h.1.2, h.2⟩

theorem isVertex_any (a : Option Addr) (n cap : Nat) (zs : List Int) (w : World) (hn : zs.length = n) (hm : n ≤ 9223372036854775807) (hz : Ints w a zs) :
    Calls Try.prog 65 #[.slice a n cap] w fun e w' => e = .returned (.bool (vertexB zs)) ∧ w = w' := by
  have hs := areSizes_any a n cap zs w hn hm hz
  have Hs := Lib.hid hs
  clear hs hz
  rcases (by omega : n < 2 ∨ (2 ≤ n ∧ n ≤ 8) ∨ (2 ≤ n ∧ 8 < n)) with h | ⟨h, h'⟩ | ⟨h, h'⟩
  all_goals
    have Hn := Lib.hid hn; clear hn
    go_enter Try.func65, Try.ntmps65
    go_wp2_with (go_at_call 69; refine Hs.out.mono ?_; rintro e w' ⟨rfl, rfl⟩)
    all_goals
      go_ret
      exact ⟨ret_bool (by rw [vertexB, Hn.out]; simp; omega), rfl⟩

theorem Vertex_any (a : Option Addr) (n cap : Nat) (zs : List Int) (w : World) (hn : zs.length = n) (hm : n ≤ 9223372036854775807) (hz : Ints w a zs) :
    Calls Try.prog 35 #[.slice a n cap] w fun e w' => e = .returned (.bool (vertexB zs)) ∧ w = w' := by
  have HS := Lib.hid (Sizes_any a n cap 2 8 zs w hn hm hz)
  have HE : Hid (vertexB zs = (sizesB zs && inB n 2 8)) := Lib.hid (by
    rw [vertexB, inB, hn, Bool.and_comm]
    congr 1
    rw [Bool.eq_iff_iff]
    simp only [Bool.and_eq_true, decide_eq_true_eq]
    omega)
  clear hz hn
  go_enter Try.func35, Try.ntmps35
  go_wp2_with (go_at_call 54; refine HS.out.mono ?_; rintro e w' ⟨rfl, rfl⟩)
  go_ret
  exact ⟨ret_bool HE.out.symm, rfl⟩

/-- Whether a vertex closes. -/
def closesB (zs : List Int) : Bool := decide (zs.length % 2 = 0) && decide (posAt zs zs.length = 0)
/-- What a vertex that closes has: crease 0 joins the last segment and the first one. -/
def vtxCl (zs : List Int) : Cl := ⟨(layCl zs).low, (layCl zs).high, ⟨zs.length - 1, 0, 0⟩ :: (layCl zs).crs⟩
theorem mem_vtx {zs : List Int} {f : Cr} (h : f ∈ (vtxCl zs).crs) : f = ⟨zs.length - 1, 0, 0⟩ ∨ ∃ i, i + 1 < zs.length ∧ f = ⟨i, i + 1, posAt zs (i + 1)⟩ := by
  rcases List.mem_cons.1 h with h | h
  · exact .inl h
  · exact .inr (mem_crs h)
theorem vtx_fair {zs : List Int} (h2 : 2 ≤ zs.length) (hc : posAt zs zs.length = 0) : Fair zs.length (posAt zs) (vtxCl zs) rightS where
  low := (strip_fair zs).low
  high := (strip_fair zs).high
  ends := fun f hf => by
    rcases mem_vtx hf with rfl | ⟨i, hi, rfl⟩
    · exact ⟨by show zs.length - 1 < zs.length; omega, by show 0 < zs.length; omega, by show zs.length - 1 ≠ 0; omega⟩
    · exact ⟨by show i < _; omega, hi, by show i ≠ i + 1; omega⟩
  at1 := fun f hf => by
    rcases mem_vtx hf with rfl | ⟨i, hi, rfl⟩
    · right; show (0 : Int) = posAt zs (zs.length - 1 + 1); rw [show zs.length - 1 + 1 = zs.length by omega, hc]
    · exact .inr rfl
  at2 := fun f hf => by
    rcases mem_vtx hf with rfl | ⟨i, hi, rfl⟩
    · left; rfl
    · exact .inl rfl
  side := fun f _ g _ => by
    simp only [Cr.beside, rightS, Bool.and_eq_true, decide_eq_true_eq, decide_eq_decide]
    omega

/-- copy within rows of elements of any size. -/
theorem run_copy_rows {P : Program} (w : World) (dT sT ty elem : TypeId) (g o dLen dCap k : Nat) (a : Addr) (sLen sCap : Nat) (cur : Array Value) (t : TypeId) (cs : List Value)
    (hu : P.underlying dT = some (.slice elem)) (hs : (P.info? elem).map (·.size) = some k)
    (hg : w.heap[g]? = some (.cells cur t (0, 0))) (hn : cs.length = Nat.min sLen dLen * k)
    (hsrc : ∀ j v, cs[j]? = some v → w.cell? (a.add j) = some v) (hfit : o + cs.length ≤ cur.size) (h1 : ∀ v ∈ cs, v.oneCell' = true) :
    (Builtin.copy_ #[dT, sT] ty #[.slice (some ⟨g, o, none⟩) dLen dCap, .slice (some a) sLen sCap]).run P w =
      .ok (goInt (Nat.min sLen dLen)) (w.setRow g (cur.toList.take o ++ cs ++ cur.toList.drop (o + cs.length)).toArray) := by
  have hl := run_loadCells_list (P := P) w a cs hsrc
  have hst := run_storeCells_at P g o t cs 0 cur w hg (by simpa using hfit) h1
  cases hq : P.info? elem with
  | none => simp [hq] at hs
  | some i =>
    have hi : i.size = k := by simpa [hq] using hs
    simp [Builtin.copy_, run_underlying hu, Builtin.lenOf, Builtin.firstCells, sizeOf, typeInfo, hq, hi, ← hn, hl, hst]

end Go.Proofs.Yteankhgikpejhaa
