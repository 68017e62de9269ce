/-
  DERIVED. GIVEN WITH THE SEED: THE CARDS: each row of YtpphabkjnfgcmaaDoorRows.lean that lists a variable, with what it lists TIED to the program's text (the seventh form; the later family's looks); each row that meets fmt, with fmt's text TOLD by the authors' own Lean function (tested against real Go, not proved from fmt's source: count such statements apart). THE CARD IS WHAT COUNTS. Prove the row's statement (the work); the ties are given (YtpphabkjnfgcmaaDoorTie.lean); close each card by the builder's one call (the guide's Derived/Test/ToyasCard.lean, 'card_holds'). Laid BY PROGRAM, IN A SANDBOX (cutbox-door.mjs). By AI agents, Wed Nov 11 2026. No macro, syntax, notation, axiom, sorry.
-/
import Derived.Test.YtpphabkjnfgcmaaDoorRows
import GoSem.ClaimSeven
namespace Go.Proofs.YtpphabkjnfgcmaaDoor
namespace Rows

/-- THE TIED CARD OF 'quirelaw08.ValuePointers'. -/
def valuePointersCard : Claim7 := { stood := { row := valuePointersRow, standIns := [], harness := (true, "8cac5f5f0ff79c99419c0d4fe2f89bff3ac224c01d9e9d9cc4b244b276400ca4"), looks := true }, kinds := [], alts := [], laidByText := true, laidKinds := [.data, .data, .data, .data, .data, .pinned], laidTests := true, laidLooks := .later }
def ValuePointersCardSaid : Prop := Claim7.holds Tryd.pinned (.plain (OpenSpec.ofChange valuePointersSpec)) valuePointersCard

/-- THE SECOND FORM's CARD OF 'quirelaw08.ValuePointers'. -/
def valuePointersUptoCard : Claim7 := { stood := { row := valuePointersUptoRow, standIns := [], harness := (true, "8cac5f5f0ff79c99419c0d4fe2f89bff3ac224c01d9e9d9cc4b244b276400ca4"), looks := true }, kinds := [], alts := [], laidByText := true, laidKinds := [.data, .data, .data, .data, .data, .pinned], laidTests := true, laidLooks := .later }
def ValuePointersUptoCardSaid : Prop := Claim7.holds Tryd.pinned (.plain (OpenSpec.upto valuePointersSpec)) valuePointersUptoCard
end Rows
end Go.Proofs.YtpphabkjnfgcmaaDoor
