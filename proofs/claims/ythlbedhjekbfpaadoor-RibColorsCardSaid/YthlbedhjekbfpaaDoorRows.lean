/-
  NARROWER THAN 'FOR EVERY INPUT', by the rows' own cells (each row's printed sentence says how): RibOrders: laid · RibColors: laid · RibOverlaps: laid · RibBranches: laid.
  DERIVED. THE GIVEN ROWS OF THIS SEAT. 4 by the template 'for every input the law returns true; each argument reads behind the call as it read before'; 0 by the template 'total and deterministic' (their statements: YthlbedhjekbfpaaDoorTotals.lean).
  GIVEN WITH THE SEED: the statements are not yours to turn. If you find one false, say at which input.
  Laid BY PROGRAM, IN A SANDBOX (cutbox-rows.mjs): the forced cells as the released guide's own fill.sh prints them over the translation 181d847b526b3e04… (all of the seat's roots in one cut). By AI agents, Wed Nov 11 2026. No macro, syntax, notation, axiom, sorry.
-/
import Derived.Test.YthlbedhjekbfpaaDoorChecked
import GoSem.Claim
import GoSem.ClaimJoined
import GoSem.ClaimMapViews
import Derived.JoinedTies
import Derived.KernelRfl
namespace Go.Proofs.YthlbedhjekbfpaaDoor
/- THE CELL 'sum', in the pinned program and in every row, IS THE sha256 OF THE DUMP (.gsa) THAT YthlbedhjekbfpaaDoorProg.lean LOADS. Nothing in Lean hashes anything: it is a label: what it is worth is what the hold of that sum in a sandbox is worth. -/
noncomputable def Tryd.pinned : Pinned := { name := "ythlbedhjekbfpaadoor", sum := "181d847b526b3e045ba80059ab8eb6e9099ebf69ee3fa2cb15a27fe5fb89448a", checked := Tryd.checked }
namespace Rows
def none {H : Type} : Left H := { results := [], args := [] }

/- WHAT THE LISTED PACKAGE-LEVEL VARIABLES READ AS WHEN THE CALL BEGINS. Each datum BY PROGRAM (the guide's laid-datum.mjs) off the statement by which the dump's own 'gosem.cut.vars' lays the variable. In a bare row this is a premise. The card (YthlbedhjekbfpaaDoorCards.lean) ties it to the program's text. -/
def laid_math_bits_deBruijn32tab {H : Type} : DataW H := .agg [.lit (.int .u8 0), .lit (.int .u8 1), .lit (.int .u8 28), .lit (.int .u8 2), .lit (.int .u8 29), .lit (.int .u8 14), .lit (.int .u8 24), .lit (.int .u8 3), .lit (.int .u8 30), .lit (.int .u8 22), .lit (.int .u8 20), .lit (.int .u8 15), .lit (.int .u8 25), .lit (.int .u8 17), .lit (.int .u8 4), .lit (.int .u8 8), .lit (.int .u8 31), .lit (.int .u8 27), .lit (.int .u8 13), .lit (.int .u8 23), .lit (.int .u8 21), .lit (.int .u8 19), .lit (.int .u8 16), .lit (.int .u8 7), .lit (.int .u8 26), .lit (.int .u8 12), .lit (.int .u8 18), .lit (.int .u8 6), .lit (.int .u8 11), .lit (.int .u8 5), .lit (.int .u8 10), .lit (.int .u8 9)]

/-- 'gamplaw04.RibOrders': WHATEVER THE INPUT: true; the input reads as it did. -/
def ribOrdersSpec : ChangeSpec := { name := "ribOrders", fn := fun _ => fun
  | [d] => { results := [.lit (.bool true)], args := [d] }
  | _ => none }
def ribOrdersRow : OpenClaim := { program := "ythlbedhjekbfpaadoor", sum := "181d847b526b3e045ba80059ab8eb6e9099ebf69ee3fa2cb15a27fe5fb89448a", func := "gamp/gamplaw04.RibOrders", spec := "ribOrders", unfollowed := true, recurses := true, named := ["math/bits.deBruijn32tab"], apart := false, laid := [("math/bits.deBruijn32tab", laid_math_bits_deBruijn32tab)] }
def RibOrdersSaid : Prop := ribOrdersRow.holds Tryd.pinned (OpenSpec.ofChange ribOrdersSpec)

/-- ITS FALSE NEIGHBOUR: 'it returns false'. Refute it at one input. -/
def ribOrdersWrong : ChangeSpec := { name := "ribOrders", fn := fun _ => fun
  | [d] => { results := [.lit (.bool false)], args := [d] }
  | _ => none }
def RibOrdersWrongFalsely : Prop := ribOrdersRow.holds Tryd.pinned (OpenSpec.ofChange ribOrdersWrong)

/-- 'gamplaw04.RibColors': WHATEVER THE INPUT: true; the input reads as it did. -/
def ribColorsSpec : ChangeSpec := { name := "ribColors", fn := fun _ => fun
  | [d] => { results := [.lit (.bool true)], args := [d] }
  | _ => none }
def ribColorsRow : OpenClaim := { program := "ythlbedhjekbfpaadoor", sum := "181d847b526b3e045ba80059ab8eb6e9099ebf69ee3fa2cb15a27fe5fb89448a", func := "gamp/gamplaw04.RibColors", spec := "ribColors", unfollowed := true, recurses := true, named := ["math/bits.deBruijn32tab"], apart := false, laid := [("math/bits.deBruijn32tab", laid_math_bits_deBruijn32tab)] }
def RibColorsSaid : Prop := ribColorsRow.holds Tryd.pinned (OpenSpec.ofChange ribColorsSpec)

/-- ITS FALSE NEIGHBOUR: 'it returns false'. Refute it at one input. -/
def ribColorsWrong : ChangeSpec := { name := "ribColors", fn := fun _ => fun
  | [d] => { results := [.lit (.bool false)], args := [d] }
  | _ => none }
def RibColorsWrongFalsely : Prop := ribColorsRow.holds Tryd.pinned (OpenSpec.ofChange ribColorsWrong)

/-- 'gamplaw04.RibOverlaps': WHATEVER THE INPUT: true; the input reads as it did. -/
def ribOverlapsSpec : ChangeSpec := { name := "ribOverlaps", fn := fun _ => fun
  | [d] => { results := [.lit (.bool true)], args := [d] }
  | _ => none }
def ribOverlapsRow : OpenClaim := { program := "ythlbedhjekbfpaadoor", sum := "181d847b526b3e045ba80059ab8eb6e9099ebf69ee3fa2cb15a27fe5fb89448a", func := "gamp/gamplaw04.RibOverlaps", spec := "ribOverlaps", unfollowed := true, recurses := true, named := ["math/bits.deBruijn32tab"], apart := false, laid := [("math/bits.deBruijn32tab", laid_math_bits_deBruijn32tab)] }
def RibOverlapsSaid : Prop := ribOverlapsRow.holds Tryd.pinned (OpenSpec.ofChange ribOverlapsSpec)

/-- ITS FALSE NEIGHBOUR: 'it returns false'. Refute it at one input. -/
def ribOverlapsWrong : ChangeSpec := { name := "ribOverlaps", fn := fun _ => fun
  | [d] => { results := [.lit (.bool false)], args := [d] }
  | _ => none }
def RibOverlapsWrongFalsely : Prop := ribOverlapsRow.holds Tryd.pinned (OpenSpec.ofChange ribOverlapsWrong)

/-- 'gamplaw04.RibBranches': WHATEVER THE INPUT: true; the input reads as it did. -/
def ribBranchesSpec : ChangeSpec := { name := "ribBranches", fn := fun _ => fun
  | [d1, d2] => { results := [.lit (.bool true)], args := [d1, d2] }
  | _ => none }
def ribBranchesRow : OpenClaim := { program := "ythlbedhjekbfpaadoor", sum := "181d847b526b3e045ba80059ab8eb6e9099ebf69ee3fa2cb15a27fe5fb89448a", func := "gamp/gamplaw04.RibBranches", spec := "ribBranches", unfollowed := true, recurses := true, named := ["math/bits.deBruijn32tab"], apart := false, laid := [("math/bits.deBruijn32tab", laid_math_bits_deBruijn32tab)] }
def RibBranchesSaid : Prop := ribBranchesRow.holds Tryd.pinned (OpenSpec.ofChange ribBranchesSpec)

/-- ITS FALSE NEIGHBOUR: 'it returns false'. Refute it at one input. -/
def ribBranchesWrong : ChangeSpec := { name := "ribBranches", fn := fun _ => fun
  | [d1, d2] => { results := [.lit (.bool false)], args := [d1, d2] }
  | _ => none }
def RibBranchesWrongFalsely : Prop := ribBranchesRow.holds Tryd.pinned (OpenSpec.ofChange ribBranchesWrong)

/- THE SECOND FORM. 'bulk': how many values and letters a reading holds, each counted each time it is reached (what is shared counts as often as it is met; a slice's spare places count too). A statement '..UptoSaid' is the law's where the arguments, and the package variables that the reading takes, are together of bulk at most 1048576: NARROWER than '..Said'. Prove '..Said' where nothing that the law and all that it calls make is longer than what came in: it says more and counts as full. Else prove '..UptoSaid'. A law counts once. -/
mutual
def uptoBulk {H : Type} : DataW H → Nat
  | .lit (.string bytes) => bytes.length + 1
  | .lit _ => 1
  | .nil => 1
  | .ptr d => uptoBulk d + 1
  | .slice elems spare => uptoBulkAll elems + uptoBulkAll spare + 1
  | .agg parts => uptoBulkAll parts + 1
  | .iface _ d => uptoBulk d + 1
  | .map entries => uptoBulkEntries entries + 1
  | .held _ => 1
def uptoBulkAll {H : Type} : List (DataW H) → Nat
  | [] => 0
  | d :: r => uptoBulk d + uptoBulkAll r
def uptoBulkEntries {H : Type} : List (Lit × DataW H) → Nat
  | [] => 0
  | x :: r => uptoBulkEntry x + uptoBulkEntries r
def uptoBulkEntry {H : Type} : Lit × DataW H → Nat
  | (.string bytes, d) => bytes.length + uptoBulk d + 1
  | (_, d) => uptoBulk d + 1
 end
def uptoSmall : (H : Type) → List (DataW H) → Bool := fun _ ds => decide (uptoBulkAll ds ≤ 1048576)
def OpenSpec.upto (s : _root_.Go.ChangeSpec) : _root_.Go.OpenSpec := { _root_.Go.OpenSpec.ofChange s with cond := some uptoSmall }

/-- 'gamplaw04.RibOrders', WHERE WHAT IT READS IS OF BULK AT MOST 1048576: true; the input reads as it did. -/
def ribOrdersUptoRow : OpenClaim := { program := "ythlbedhjekbfpaadoor", sum := "181d847b526b3e045ba80059ab8eb6e9099ebf69ee3fa2cb15a27fe5fb89448a", func := "gamp/gamplaw04.RibOrders", spec := "ribOrders", unfollowed := true, recurses := true, named := ["math/bits.deBruijn32tab"], apart := false, laid := [("math/bits.deBruijn32tab", laid_math_bits_deBruijn32tab)], narrowed := true }
def RibOrdersUptoSaid : Prop := ribOrdersUptoRow.holds Tryd.pinned (OpenSpec.upto ribOrdersSpec)

/-- 'gamplaw04.RibColors', WHERE WHAT IT READS IS OF BULK AT MOST 1048576: true; the input reads as it did. -/
def ribColorsUptoRow : OpenClaim := { program := "ythlbedhjekbfpaadoor", sum := "181d847b526b3e045ba80059ab8eb6e9099ebf69ee3fa2cb15a27fe5fb89448a", func := "gamp/gamplaw04.RibColors", spec := "ribColors", unfollowed := true, recurses := true, named := ["math/bits.deBruijn32tab"], apart := false, laid := [("math/bits.deBruijn32tab", laid_math_bits_deBruijn32tab)], narrowed := true }
def RibColorsUptoSaid : Prop := ribColorsUptoRow.holds Tryd.pinned (OpenSpec.upto ribColorsSpec)

/-- 'gamplaw04.RibOverlaps', WHERE WHAT IT READS IS OF BULK AT MOST 1048576: true; the input reads as it did. -/
def ribOverlapsUptoRow : OpenClaim := { program := "ythlbedhjekbfpaadoor", sum := "181d847b526b3e045ba80059ab8eb6e9099ebf69ee3fa2cb15a27fe5fb89448a", func := "gamp/gamplaw04.RibOverlaps", spec := "ribOverlaps", unfollowed := true, recurses := true, named := ["math/bits.deBruijn32tab"], apart := false, laid := [("math/bits.deBruijn32tab", laid_math_bits_deBruijn32tab)], narrowed := true }
def RibOverlapsUptoSaid : Prop := ribOverlapsUptoRow.holds Tryd.pinned (OpenSpec.upto ribOverlapsSpec)

/-- 'gamplaw04.RibBranches', WHERE WHAT IT READS IS OF BULK AT MOST 1048576: true; the input reads as it did. -/
def ribBranchesUptoRow : OpenClaim := { program := "ythlbedhjekbfpaadoor", sum := "181d847b526b3e045ba80059ab8eb6e9099ebf69ee3fa2cb15a27fe5fb89448a", func := "gamp/gamplaw04.RibBranches", spec := "ribBranches", unfollowed := true, recurses := true, named := ["math/bits.deBruijn32tab"], apart := false, laid := [("math/bits.deBruijn32tab", laid_math_bits_deBruijn32tab)], narrowed := true }
def RibBranchesUptoSaid : Prop := ribBranchesUptoRow.holds Tryd.pinned (OpenSpec.upto ribBranchesSpec)

end Rows
end Go.Proofs.YthlbedhjekbfpaaDoor
