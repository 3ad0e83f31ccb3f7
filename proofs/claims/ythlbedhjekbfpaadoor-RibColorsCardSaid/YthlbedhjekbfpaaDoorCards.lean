/-
  DERIVED. GIVEN WITH THE SEED: THE CARDS: each row of YthlbedhjekbfpaaDoorRows.lean that lists a variable, with what it lists TIED to the program's text (the seventh form; the later family's looks); each row that meets fmt, with fmt's text TOLD by the authors' own Lean function (tested against real Go, not proved from fmt's source: count such statements apart). THE CARD IS WHAT COUNTS. Prove the row's statement (the work); the ties are given (YthlbedhjekbfpaaDoorTie.lean); close each card by the builder's one call (the guide's Derived/Test/ToyasCard.lean, 'card_holds'). Laid BY PROGRAM, IN A SANDBOX (cutbox-door.mjs). By AI agents, Wed Nov 11 2026. No macro, syntax, notation, axiom, sorry.
-/
import Derived.Test.YthlbedhjekbfpaaDoorRows
import GoSem.ClaimSeven
namespace Go.Proofs.YthlbedhjekbfpaaDoor
namespace Rows

/-- THE TIED CARD OF 'gamplaw04.RibOrders'. -/
def ribOrdersCard : Claim7 := { stood := { row := ribOrdersRow, standIns := [], harness := (true, "bfd173335889f248dba8ae764bd58c85469798f4f7f3bf120e84e79c94d65cf0"), looks := false }, kinds := [], alts := [], laidByText := true, laidKinds := [.data], laidTests := true, laidLooks := .later }
def RibOrdersCardSaid : Prop := Claim7.holds Tryd.pinned (.plain (OpenSpec.ofChange ribOrdersSpec)) ribOrdersCard

/-- THE TIED CARD OF 'gamplaw04.RibColors'. -/
def ribColorsCard : Claim7 := { stood := { row := ribColorsRow, standIns := [], harness := (true, "bfd173335889f248dba8ae764bd58c85469798f4f7f3bf120e84e79c94d65cf0"), looks := false }, kinds := [], alts := [], laidByText := true, laidKinds := [.data], laidTests := true, laidLooks := .later }
def RibColorsCardSaid : Prop := Claim7.holds Tryd.pinned (.plain (OpenSpec.ofChange ribColorsSpec)) ribColorsCard

/-- THE TIED CARD OF 'gamplaw04.RibOverlaps'. -/
def ribOverlapsCard : Claim7 := { stood := { row := ribOverlapsRow, standIns := [], harness := (true, "bfd173335889f248dba8ae764bd58c85469798f4f7f3bf120e84e79c94d65cf0"), looks := false }, kinds := [], alts := [], laidByText := true, laidKinds := [.data], laidTests := true, laidLooks := .later }
def RibOverlapsCardSaid : Prop := Claim7.holds Tryd.pinned (.plain (OpenSpec.ofChange ribOverlapsSpec)) ribOverlapsCard

/-- THE TIED CARD OF 'gamplaw04.RibBranches'. -/
def ribBranchesCard : Claim7 := { stood := { row := ribBranchesRow, standIns := [], harness := (true, "bfd173335889f248dba8ae764bd58c85469798f4f7f3bf120e84e79c94d65cf0"), looks := false }, kinds := [], alts := [], laidByText := true, laidKinds := [.data], laidTests := true, laidLooks := .later }
def RibBranchesCardSaid : Prop := Claim7.holds Tryd.pinned (.plain (OpenSpec.ofChange ribBranchesSpec)) ribBranchesCard

/-- THE SECOND FORM's CARD OF 'gamplaw04.RibOrders'. -/
def ribOrdersUptoCard : Claim7 := { stood := { row := ribOrdersUptoRow, standIns := [], harness := (true, "bfd173335889f248dba8ae764bd58c85469798f4f7f3bf120e84e79c94d65cf0"), looks := false }, kinds := [], alts := [], laidByText := true, laidKinds := [.data], laidTests := true, laidLooks := .later }
def RibOrdersUptoCardSaid : Prop := Claim7.holds Tryd.pinned (.plain (OpenSpec.upto ribOrdersSpec)) ribOrdersUptoCard

/-- THE SECOND FORM's CARD OF 'gamplaw04.RibColors'. -/
def ribColorsUptoCard : Claim7 := { stood := { row := ribColorsUptoRow, standIns := [], harness := (true, "bfd173335889f248dba8ae764bd58c85469798f4f7f3bf120e84e79c94d65cf0"), looks := false }, kinds := [], alts := [], laidByText := true, laidKinds := [.data], laidTests := true, laidLooks := .later }
def RibColorsUptoCardSaid : Prop := Claim7.holds Tryd.pinned (.plain (OpenSpec.upto ribColorsSpec)) ribColorsUptoCard

/-- THE SECOND FORM's CARD OF 'gamplaw04.RibOverlaps'. -/
def ribOverlapsUptoCard : Claim7 := { stood := { row := ribOverlapsUptoRow, standIns := [], harness := (true, "bfd173335889f248dba8ae764bd58c85469798f4f7f3bf120e84e79c94d65cf0"), looks := false }, kinds := [], alts := [], laidByText := true, laidKinds := [.data], laidTests := true, laidLooks := .later }
def RibOverlapsUptoCardSaid : Prop := Claim7.holds Tryd.pinned (.plain (OpenSpec.upto ribOverlapsSpec)) ribOverlapsUptoCard

/-- THE SECOND FORM's CARD OF 'gamplaw04.RibBranches'. -/
def ribBranchesUptoCard : Claim7 := { stood := { row := ribBranchesUptoRow, standIns := [], harness := (true, "bfd173335889f248dba8ae764bd58c85469798f4f7f3bf120e84e79c94d65cf0"), looks := false }, kinds := [], alts := [], laidByText := true, laidKinds := [.data], laidTests := true, laidLooks := .later }
def RibBranchesUptoCardSaid : Prop := Claim7.holds Tryd.pinned (.plain (OpenSpec.upto ribBranchesSpec)) ribBranchesUptoCard
end Rows
end Go.Proofs.YthlbedhjekbfpaaDoor
