/-
  DERIVED. GIVEN WITH THE SEED: THE CARDS: each row of YtmmggnmgimgdfaaDoorRows.lean that lists a variable, with what it lists TIED to the program's text (the seventh form; the later family's looks); each row that meets fmt, with fmt's text TOLD by the authors' own Lean function (tested against real Go, not proved from fmt's source: count such statements apart). THE CARD IS WHAT COUNTS. Prove the row's statement (the work); the ties are given (YtmmggnmgimgdfaaDoorTie.lean); close each card by the builder's one call (the guide's Derived/Test/ToyasCard.lean, 'card_holds'). Laid BY PROGRAM, IN A SANDBOX (cutbox-door.mjs). By AI agents, Wed Nov 11 2026. No macro, syntax, notation, axiom, sorry.
-/
import Derived.Test.YtmmggnmgimgdfaaDoorRows
import GoSem.ClaimSeven
namespace Go.Proofs.YtmmggnmgimgdfaaDoor
namespace Rows

/-- THE TIED CARD OF 'quirelaw16.ManifestJoins'. -/
def manifestJoinsCard : Claim7 := { stood := { row := manifestJoinsRow, standIns := [], harness := (true, "11d762c690069410896e75a2e3101d387866345063bafe2a7e6f1f2826d41996"), looks := true }, kinds := [], alts := [], laidByText := true, laidKinds := [.data, .data, .pinned], laidTests := true, laidLooks := .later }
def ManifestJoinsCardSaid : Prop := Claim7.holds Tryd.pinned (.plain (OpenSpec.ofChange manifestJoinsSpec)) manifestJoinsCard

/-- THE SECOND FORM's CARD OF 'quirelaw16.ManifestJoins'. -/
def manifestJoinsUptoCard : Claim7 := { stood := { row := manifestJoinsUptoRow, standIns := [], harness := (true, "11d762c690069410896e75a2e3101d387866345063bafe2a7e6f1f2826d41996"), looks := true }, kinds := [], alts := [], laidByText := true, laidKinds := [.data, .data, .pinned], laidTests := true, laidLooks := .later }
def ManifestJoinsUptoCardSaid : Prop := Claim7.holds Tryd.pinned (.plain (OpenSpec.upto manifestJoinsSpec)) manifestJoinsUptoCard
end Rows
end Go.Proofs.YtmmggnmgimgdfaaDoor
