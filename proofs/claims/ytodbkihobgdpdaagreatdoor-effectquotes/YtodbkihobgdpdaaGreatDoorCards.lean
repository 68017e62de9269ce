/-
  DERIVED. GIVEN WITH THE SEED: THE CARDS: each row of YtodbkihobgdpdaaGreatDoorRows.lean that lists a variable, with what it lists TIED to the program's text (the seventh form; the later family's looks); each row that meets fmt, with fmt's text TOLD by the authors' own Lean function (tested against real Go, not proved from fmt's source: count such statements apart). THE CARD IS WHAT COUNTS. Prove the row's statement (the work); the ties are given (YtodbkihobgdpdaaGreatDoorTie.lean); close each card by the builder's one call (the guide's Derived/Test/ToyasCard.lean, 'card_holds'). Laid BY PROGRAM, IN A SANDBOX (cutbox-door.mjs). By AI agents, Wed Nov 11 2026. No macro, syntax, notation, axiom, sorry.
-/
import Derived.Test.YtodbkihobgdpdaaGreatDoorRows
import GoSem.ClaimSeven
namespace Go.Proofs.YtodbkihobgdpdaaGreatDoor
namespace Rows

/-- THE TIED CARD OF 'quirelaw09.EffectJoins'. -/
def effectJoinsCard : Claim7 := { stood := { row := effectJoinsRow, standIns := [], harness := (true, "dd89c310e04050fb659cae812112b11866ab16e7c24461ea54ef0cf332388f49"), looks := true }, kinds := [], alts := [], laidByText := true, laidKinds := [.data, .data, .data, .data, .data, .pinned], laidTests := true, laidLooks := .later }
def EffectJoinsCardSaid : Prop := Claim7.holds Tryz.pinned (.plain (OpenSpec.ofChange effectJoinsSpec)) effectJoinsCard

/-- THE TIED CARD OF 'quirelaw09.EffectQuotes'. -/
def effectQuotesCard : Claim7 := { stood := { row := effectQuotesRow, standIns := [], harness := (true, "dd89c310e04050fb659cae812112b11866ab16e7c24461ea54ef0cf332388f49"), looks := true }, kinds := [], alts := [], laidByText := true, laidKinds := [.data, .data, .data, .data, .data, .pinned], laidTests := true, laidLooks := .later }
def EffectQuotesCardSaid : Prop := Claim7.holds Tryz.pinned (.plain (OpenSpec.ofChange effectQuotesSpec)) effectQuotesCard

/-- THE TIED CARD OF 'quirelaw09.EffectKeeps'. -/
def effectKeepsCard : Claim7 := { stood := { row := effectKeepsRow, standIns := [], harness := (true, "dd89c310e04050fb659cae812112b11866ab16e7c24461ea54ef0cf332388f49"), looks := true }, kinds := [], alts := [], laidByText := true, laidKinds := [.data, .data, .data, .data, .data, .pinned], laidTests := true, laidLooks := .later }
def EffectKeepsCardSaid : Prop := Claim7.holds Tryz.pinned (.plain (OpenSpec.ofChange effectKeepsSpec)) effectKeepsCard

/-- THE SECOND FORM's CARD OF 'quirelaw09.EffectJoins'. -/
def effectJoinsUptoCard : Claim7 := { stood := { row := effectJoinsUptoRow, standIns := [], harness := (true, "dd89c310e04050fb659cae812112b11866ab16e7c24461ea54ef0cf332388f49"), looks := true }, kinds := [], alts := [], laidByText := true, laidKinds := [.data, .data, .data, .data, .data, .pinned], laidTests := true, laidLooks := .later }
def EffectJoinsUptoCardSaid : Prop := Claim7.holds Tryz.pinned (.plain (OpenSpec.upto effectJoinsSpec)) effectJoinsUptoCard

/-- THE SECOND FORM's CARD OF 'quirelaw09.EffectQuotes'. -/
def effectQuotesUptoCard : Claim7 := { stood := { row := effectQuotesUptoRow, standIns := [], harness := (true, "dd89c310e04050fb659cae812112b11866ab16e7c24461ea54ef0cf332388f49"), looks := true }, kinds := [], alts := [], laidByText := true, laidKinds := [.data, .data, .data, .data, .data, .pinned], laidTests := true, laidLooks := .later }
def EffectQuotesUptoCardSaid : Prop := Claim7.holds Tryz.pinned (.plain (OpenSpec.upto effectQuotesSpec)) effectQuotesUptoCard

/-- THE SECOND FORM's CARD OF 'quirelaw09.EffectKeeps'. -/
def effectKeepsUptoCard : Claim7 := { stood := { row := effectKeepsUptoRow, standIns := [], harness := (true, "dd89c310e04050fb659cae812112b11866ab16e7c24461ea54ef0cf332388f49"), looks := true }, kinds := [], alts := [], laidByText := true, laidKinds := [.data, .data, .data, .data, .data, .pinned], laidTests := true, laidLooks := .later }
def EffectKeepsUptoCardSaid : Prop := Claim7.holds Tryz.pinned (.plain (OpenSpec.upto effectKeepsSpec)) effectKeepsUptoCard
end Rows
end Go.Proofs.YtodbkihobgdpdaaGreatDoor
