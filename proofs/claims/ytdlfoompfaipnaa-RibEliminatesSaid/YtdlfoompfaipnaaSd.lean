/-
  Proved: RibEliminates returns true for every graph and every two lists: Eliminates reports whether an order is an elimination order, and IsRing whether nodes are a ring, or the errors that the document names. No condition.
-/
import Derived.Test.YtdlfoompfaipnaaSc
namespace Go.Proofs.Ytdlfoompfaipnaa
open Go.ChangeShapes Go.WideShapes Go.ChangeAt Go.RowKit

namespace ribEliminates
set_option maxRecDepth 100000 in
theorem lifted (os : Os) (started : os.Started) (H : Type) (enc : TypeId × Value → H) :
    ReturnsInHanded {} Try.checked os 3 .any (Rows.ribEliminatesSpec.pre6 enc Try.prog Try.f3 Rows.ribEliminatesRow.domain false) (Rows.ribEliminatesSpec.post enc Try.prog Try.f3 false true false false) := by
  refine returnsInHanded_of_change (C := Try.checked) own_knob started (by kernel_rfl) Try.func3
    (ChangeSpec.witness6 (enc := enc) (C := Try.checked) false ⟨#[], #[.agg #[.int .i64 0, .slice none 0 0], .slice none 0 0, .slice none 0 0], []⟩ 8 (by kernel_rfl) (by kernel_rfl) (by kernel_rfl) (by kernel_rfl)) ?_
  intro W base args ds gs before hval0 hW hcnd _
  have hval : ∀ (j : Nat) t v, Try.f3.params[j]? = some t → args[j]? = some v → Value.okWide Try.prog W .any base t v := hval0
  have hW' := hW
  obtain ⟨p, q, hA0, hV, rfl, hfz, hnd⟩ := hW
  have hA : DataW.TrodAll enc Try.prog W 0 (fun _ => true) true Try.f3.params.toList args.toList ds p := hA0
  have hlt := hA.lt
  rw [Try.params3] at hA hval
  obtain ⟨v0, vs0, d0, ds0, p0, q0, hargs, rfl, rfl, h0, r0⟩ := trodAll_cons hA
  obtain ⟨v1, vs1, d1, ds1, p1, q1, rfl, rfl, rfl, h1, r1⟩ := trodAll_cons r0
  obtain ⟨v2, vs2, d2, ds2, p2, q2, rfl, rfl, rfl, h2, r2⟩ := trodAll_cons r1
  obtain ⟨rfl, rfl, rfl⟩ := trodAll_nil r2
  obtain rfl : args = #[v0, v1, v2] := by cases args; simp_all
  obtain ⟨rfl, rfl⟩ := trodVars_none hV
  have l0 : ∀ x ∈ p0, x.block < W.heap.size := fun x hx => hlt x (by simp [hx])
  have l1 : ∀ x ∈ p1, x.block < W.heap.size := fun x hx => hlt x (by simp [hx])
  have l2 : ∀ x ∈ p2, x.block < W.heap.size := fun x hx => hlt x (by simp [hx])
  have t0 := h0
  have t1 := h1
  have t2 := h2
  obtain ⟨N, a, n, cap, es, rfl, n1, n2, n3, n4, n5⟩ := arg_net (hval 0 24 v0 rfl rfl) h0
  obtain ⟨aY, nY, cY, ys, rfl, y1, y2, y3, _, _⟩ := arg_ints (hval 1 25 v1 rfl rfl) h1
  obtain ⟨aZ, nZ, cZ, zs, rfl, z1, z2, z3, _, _⟩ := arg_ints (hval 2 25 v2 rfl rfl) h2
  obtain ⟨ky0, ky1⟩ := arg_cap (hval 1 25 _ rfl rfl) h1
  obtain ⟨kz0, kz1⟩ := arg_cap (hval 2 25 _ rfl rfl) h2
  clear hA0 hval0
  refine (RibEliminates_any N a aY aZ n cap nY cY nZ cZ es ys zs W n1 n2 n3 n4 n5 y1 y2 ky0 ky1 y3 z1 z2 kz0 kz1 z3).mono fun e W' ⟨he, hg⟩ => ?_
  subst he
  exact ⟨_, rfl, law_post (pv := []) hW' (fun _ _ _ => trodAll_cons_mk (shut_bool Try.underlying4 _) trodAll_mk0)
    (trodAll_cons_mk (arg_kept (by kernel_rfl) (of_decide_eq_true (by kernel_rfl)) t0 l0 hg) (trodAll_cons_mk (arg_kept (by kernel_rfl) (of_decide_eq_true (by kernel_rfl)) t1 l1 hg) (trodAll_cons_mk (arg_kept (by kernel_rfl) (of_decide_eq_true (by kernel_rfl)) t2 l2 hg) trodAll_mk0))) rfl rfl hg⟩

theorem proved : Rows.RibEliminatesSaid :=
  OpenClaim.holds_of_wide 3 Try.f3 rfl rfl rfl rfl rfl rfl rfl ⟨rfl, rfl, rfl, rfl, rfl⟩ rfl rfl rfl rfl rfl (by kernel_rfl) Try.func3 (by kernel_rfl)
    (of_decide_eq_true (by kernel_rfl)) (by unfold Func.isWrapper; first | (rw [if_pos (by decide +kernel)]; kernel_rfl) | (rw [if_neg (by decide +kernel)]; exact ⟨rfl, rfl⟩))
    (fun os started H enc _ => lifted os started H enc)
#print axioms proved
end ribEliminates
end Go.Proofs.Ytdlfoompfaipnaa
