/-
  Proved: FoldVertices returns true for every two lists: FoldsVertex and CreasesVertex answer what the reference says of every order of a vertex, crease by crease, or the errors of the document. No condition.
-/
import Derived.Test.YteankhgikpejhaaHd
import Derived.Test.YteankhgikpejhaaJe
import Derived.Test.YteankhgikpejhaaOg
namespace Go.Proofs.Yteankhgikpejhaa
open Go.ChangeShapes Go.WideShapes Go.ChangeAt Go.RowKit

namespace foldVertices
set_option maxRecDepth 100000 in
theorem lifted (os : Os) (started : os.Started) (H : Type) (enc : TypeId × Value → H) :
    ReturnsInHanded {} Try.checked os 6 .any (Rows.foldVerticesSpec.pre6 enc Try.prog Try.f6 Rows.foldVerticesRow.domain false) (Rows.foldVerticesSpec.post enc Try.prog Try.f6 false true false false) := by
  refine returnsInHanded_of_change (C := Try.checked) own_knob started (by kernel_rfl) Try.func6
    (ChangeSpec.witness6 (enc := enc) (C := Try.checked) false ⟨#[], #[.slice none 0 0, .slice none 0 0], []⟩ 8 (by kernel_rfl) (by kernel_rfl) (by kernel_rfl) (by kernel_rfl)) ?_
  intro W base args ds gs before hval0 hW hcnd _
  have hval : ∀ (j : Nat) t v, Try.f6.params[j]? = some t → args[j]? = some v → Value.okWide Try.prog W .any base t v := hval0
  have hW' := hW
  obtain ⟨p, q, hA0, hV, rfl, hfz, hnd⟩ := hW
  have hA : DataW.TrodAll enc Try.prog W 0 (fun _ => true) true Try.f6.params.toList args.toList ds p := hA0
  rw [Try.params6] at hA hval
  obtain ⟨v0, vs0, d0, ds0, p0, q0, hargs, rfl, rfl, h0, r0⟩ := trodAll_cons hA
  obtain ⟨v1, vs1, d1, ds1, p1, q1, rfl, rfl, rfl, h1, r1⟩ := trodAll_cons r0
  obtain ⟨rfl, rfl, rfl⟩ := trodAll_nil r1
  obtain rfl : args = #[v0, v1] := by cases args; simp_all
  obtain ⟨rfl, rfl⟩ := trodVars_none hV
  obtain ⟨a, n, cap, zs, rfl, hn, hm, hz, hi, hkeep⟩ := arg_ints (hval 0 22 v0 rfl rfl) h0
  obtain ⟨a', n', cap', zs', rfl, hn', hm', hz', hi', hkeep'⟩ := arg_ints (hval 1 22 v1 rfl rfl) h1
  obtain ⟨k0, k1⟩ := arg_cap (hval 0 22 _ rfl rfl) h0
  obtain ⟨k2, k3⟩ := arg_cap (hval 1 22 _ rfl rfl) h1
  clear hA0 hval0
  refine (FoldVertices_any n cap n' cap' a a' zs zs' W hn hm k0 k1 hz hn' hm' k2 k3 hz').mono fun e W' ⟨he, hg⟩ => ?_
  subst he
  exact ⟨_, rfl, law_post (pv := []) hW' (fun _ _ _ => trodAll_cons_mk (shut_bool Try.underlying4 _) trodAll_mk0) (trodAll_cons_mk (hkeep W' hg) (trodAll_cons_mk (hkeep' W' hg) trodAll_mk0)) rfl rfl hg⟩

theorem proved : Rows.FoldVerticesSaid :=
  OpenClaim.holds_of_wide 6 Try.f6 rfl rfl rfl rfl rfl rfl rfl ⟨rfl, rfl, rfl, rfl, rfl⟩ rfl rfl rfl rfl rfl (by kernel_rfl) Try.func6 (by kernel_rfl)
    (of_decide_eq_true (by kernel_rfl)) (by unfold Func.isWrapper; first | (rw [if_pos (by decide +kernel)]; kernel_rfl) | (rw [if_neg (by decide +kernel)]; exact ⟨rfl, rfl⟩))
    (fun os started H enc _ => lifted os started H enc)
#print axioms proved
end foldVertices
end Go.Proofs.Yteankhgikpejhaa
