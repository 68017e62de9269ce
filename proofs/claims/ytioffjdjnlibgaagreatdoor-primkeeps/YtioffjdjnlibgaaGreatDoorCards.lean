/-
  DERIVED. GIVEN WITH THE SEED: THE CARDS: each row of YtioffjdjnlibgaaGreatDoorRows.lean that lists a variable, with what it lists TIED to the program's text (the seventh form; the later family's looks); each row that meets fmt, with fmt's text TOLD by the authors' own Lean function (tested against real Go, not proved from fmt's source: count such statements apart). THE CARD IS WHAT COUNTS. Prove the row's statement (the work); the ties are given (YtioffjdjnlibgaaGreatDoorTie.lean); close each card by the builder's one call (the guide's Derived/Test/ToyasCard.lean, 'card_holds'). Laid BY PROGRAM, IN A SANDBOX (cutbox-door.mjs). By AI agents, Wed Nov 11 2026. No macro, syntax, notation, axiom, sorry.
-/
import Derived.Test.YtioffjdjnlibgaaGreatDoorRows
import GoSem.ClaimSeven
namespace Go.Proofs.YtioffjdjnlibgaaGreatDoor
namespace Rows

/-- THE TIED CARD OF 'quirelaw12.PrimKeeps'. -/
def primKeepsCard : Claim7 := { stood := { row := primKeepsRow, standIns := [], harness := (true, "eebb42e9ea3b3b1428b85ec23fe627969301b5a7fc8aa9ee52961d9501e825c0"), looks := true }, kinds := [], alts := [], laidByText := true, laidKinds := [.data, .data, .data, .data, .listed, .data, .data, .pinned], laidTests := true, laidLooks := .later }
def PrimKeepsCardSaid : Prop := Claim7.holds Tryz.pinned (.plain (OpenSpec.ofChange primKeepsSpec)) primKeepsCard

/-- THE SECOND FORM's CARD OF 'quirelaw12.PrimKeeps'. -/
def primKeepsUptoCard : Claim7 := { stood := { row := primKeepsUptoRow, standIns := [], harness := (true, "eebb42e9ea3b3b1428b85ec23fe627969301b5a7fc8aa9ee52961d9501e825c0"), looks := true }, kinds := [], alts := [], laidByText := true, laidKinds := [.data, .data, .data, .data, .listed, .data, .data, .pinned], laidTests := true, laidLooks := .later }
def PrimKeepsUptoCardSaid : Prop := Claim7.holds Tryz.pinned (.plain (OpenSpec.upto primKeepsSpec)) primKeepsUptoCard
end Rows
end Go.Proofs.YtioffjdjnlibgaaGreatDoor
