/-
  NARROWER THAN 'FOR EVERY INPUT', by the rows' own cells (each row's printed sentence says how): LexPlays: laid · LexQuotes: laid · LexJoins: laid · LexPlaces: laid · LexNumbers: laid · LexComments: laid.
  DERIVED. THE GIVEN ROWS OF THIS SEAT. 6 by the template 'for every input the law returns true; each argument reads behind the call as it read before'; 0 by the template 'total and deterministic' (their statements: YtbijiigobbjlcaaDoorTotals.lean).
  GIVEN WITH THE SEED: the statements are not yours to turn. If you find one false, say at which input.
  Laid BY PROGRAM, IN A SANDBOX (cutbox-rows.mjs): the forced cells as the released guide's own fill.sh prints them over the translation d799e2e22c142490… (all of the seat's roots in one cut). By AI agents, Wed Nov 11 2026. No macro, syntax, notation, axiom, sorry.
-/
import Derived.Test.YtbijiigobbjlcaaDoorChecked
import GoSem.Claim
import GoSem.ClaimJoined
import GoSem.ClaimMapViews
import Derived.JoinedTies
import Derived.KernelRfl
namespace Go.Proofs.YtbijiigobbjlcaaDoor
/- THE CELL 'sum', in the pinned program and in every row, IS THE sha256 OF THE DUMP (.gsa) THAT YtbijiigobbjlcaaDoorProg.lean LOADS. Nothing in Lean hashes anything: it is a label: what it is worth is what the hold of that sum in a sandbox is worth. -/
noncomputable def Tryd.pinned : Pinned := { name := "ytbijiigobbjlcaadoor", sum := "d799e2e22c142490f49a67248d60881f5d8653a18ef7f6d6f3d9846bc240a060", checked := Tryd.checked }
namespace Rows
def none {H : Type} : Left H := { results := [], args := [] }

/- WHAT THE LISTED PACKAGE-LEVEL VARIABLES READ AS WHEN THE CALL BEGINS. Each datum BY PROGRAM (the guide's laid-datum.mjs) off the statement by which the dump's own 'gosem.cut.vars' lays the variable. In a bare row this is a premise. The card (YtbijiigobbjlcaaDoorCards.lean) ties it to the program's text. -/
def laid_quire_lex_noughts {H : Type} : DataW H := .agg [.lit (.int .i32 48), .lit (.int .i32 1632), .lit (.int .i32 65296)]

/-- 'quirelaw06.LexPlays': WHATEVER THE INPUT: true; the input reads as it did. -/
def lexPlaysSpec : ChangeSpec := { name := "lexPlays", fn := fun _ => fun
  | [d1, d2] => { results := [.lit (.bool true)], args := [d1, d2] }
  | _ => none }
def lexPlaysRow : OpenClaim := { program := "ytbijiigobbjlcaadoor", sum := "d799e2e22c142490f49a67248d60881f5d8653a18ef7f6d6f3d9846bc240a060", func := "quire/quirelaw06.LexPlays", spec := "lexPlays", inPlace := ["internal/abi.NoEscape"], unfollowed := true, recurses := true, named := ["quire/lex.noughts"], apart := false, laid := [("quire/lex.noughts", laid_quire_lex_noughts)] }
def LexPlaysSaid : Prop := lexPlaysRow.holds Tryd.pinned (OpenSpec.ofChange lexPlaysSpec)

/-- ITS FALSE NEIGHBOUR: 'it returns false'. Refute it at one input. -/
def lexPlaysWrong : ChangeSpec := { name := "lexPlays", fn := fun _ => fun
  | [d1, d2] => { results := [.lit (.bool false)], args := [d1, d2] }
  | _ => none }
def LexPlaysWrongFalsely : Prop := lexPlaysRow.holds Tryd.pinned (OpenSpec.ofChange lexPlaysWrong)

/-- 'quirelaw06.LexQuotes': WHATEVER THE INPUT: true; the input reads as it did. -/
def lexQuotesSpec : ChangeSpec := { name := "lexQuotes", fn := fun _ => fun
  | [d1, d2] => { results := [.lit (.bool true)], args := [d1, d2] }
  | _ => none }
def lexQuotesRow : OpenClaim := { program := "ytbijiigobbjlcaadoor", sum := "d799e2e22c142490f49a67248d60881f5d8653a18ef7f6d6f3d9846bc240a060", func := "quire/quirelaw06.LexQuotes", spec := "lexQuotes", inPlace := ["internal/abi.NoEscape"], unfollowed := true, recurses := true, named := ["quire/lex.noughts"], apart := false, laid := [("quire/lex.noughts", laid_quire_lex_noughts)] }
def LexQuotesSaid : Prop := lexQuotesRow.holds Tryd.pinned (OpenSpec.ofChange lexQuotesSpec)

/-- ITS FALSE NEIGHBOUR: 'it returns false'. Refute it at one input. -/
def lexQuotesWrong : ChangeSpec := { name := "lexQuotes", fn := fun _ => fun
  | [d1, d2] => { results := [.lit (.bool false)], args := [d1, d2] }
  | _ => none }
def LexQuotesWrongFalsely : Prop := lexQuotesRow.holds Tryd.pinned (OpenSpec.ofChange lexQuotesWrong)

/-- 'quirelaw06.LexJoins': WHATEVER THE INPUT: true; the input reads as it did. -/
def lexJoinsSpec : ChangeSpec := { name := "lexJoins", fn := fun _ => fun
  | [d1, d2] => { results := [.lit (.bool true)], args := [d1, d2] }
  | _ => none }
def lexJoinsRow : OpenClaim := { program := "ytbijiigobbjlcaadoor", sum := "d799e2e22c142490f49a67248d60881f5d8653a18ef7f6d6f3d9846bc240a060", func := "quire/quirelaw06.LexJoins", spec := "lexJoins", inPlace := ["internal/abi.NoEscape"], unfollowed := true, recurses := true, named := ["quire/lex.noughts"], apart := false, laid := [("quire/lex.noughts", laid_quire_lex_noughts)] }
def LexJoinsSaid : Prop := lexJoinsRow.holds Tryd.pinned (OpenSpec.ofChange lexJoinsSpec)

/-- ITS FALSE NEIGHBOUR: 'it returns false'. Refute it at one input. -/
def lexJoinsWrong : ChangeSpec := { name := "lexJoins", fn := fun _ => fun
  | [d1, d2] => { results := [.lit (.bool false)], args := [d1, d2] }
  | _ => none }
def LexJoinsWrongFalsely : Prop := lexJoinsRow.holds Tryd.pinned (OpenSpec.ofChange lexJoinsWrong)

/-- 'quirelaw06.LexPlaces': WHATEVER THE INPUT: true; the input reads as it did. -/
def lexPlacesSpec : ChangeSpec := { name := "lexPlaces", fn := fun _ => fun
  | [d] => { results := [.lit (.bool true)], args := [d] }
  | _ => none }
def lexPlacesRow : OpenClaim := { program := "ytbijiigobbjlcaadoor", sum := "d799e2e22c142490f49a67248d60881f5d8653a18ef7f6d6f3d9846bc240a060", func := "quire/quirelaw06.LexPlaces", spec := "lexPlaces", inPlace := ["internal/abi.NoEscape"], unfollowed := true, recurses := true, named := ["quire/lex.noughts"], apart := false, laid := [("quire/lex.noughts", laid_quire_lex_noughts)] }
def LexPlacesSaid : Prop := lexPlacesRow.holds Tryd.pinned (OpenSpec.ofChange lexPlacesSpec)

/-- ITS FALSE NEIGHBOUR: 'it returns false'. Refute it at one input. -/
def lexPlacesWrong : ChangeSpec := { name := "lexPlaces", fn := fun _ => fun
  | [d] => { results := [.lit (.bool false)], args := [d] }
  | _ => none }
def LexPlacesWrongFalsely : Prop := lexPlacesRow.holds Tryd.pinned (OpenSpec.ofChange lexPlacesWrong)

/-- 'quirelaw06.LexNumbers': WHATEVER THE INPUT: true; the input reads as it did. -/
def lexNumbersSpec : ChangeSpec := { name := "lexNumbers", fn := fun _ => fun
  | [d1, d2] => { results := [.lit (.bool true)], args := [d1, d2] }
  | _ => none }
def lexNumbersRow : OpenClaim := { program := "ytbijiigobbjlcaadoor", sum := "d799e2e22c142490f49a67248d60881f5d8653a18ef7f6d6f3d9846bc240a060", func := "quire/quirelaw06.LexNumbers", spec := "lexNumbers", named := ["quire/lex.noughts"], apart := false, laid := [("quire/lex.noughts", laid_quire_lex_noughts)] }
def LexNumbersSaid : Prop := lexNumbersRow.holds Tryd.pinned (OpenSpec.ofChange lexNumbersSpec)

/-- ITS FALSE NEIGHBOUR: 'it returns false'. Refute it at one input. -/
def lexNumbersWrong : ChangeSpec := { name := "lexNumbers", fn := fun _ => fun
  | [d1, d2] => { results := [.lit (.bool false)], args := [d1, d2] }
  | _ => none }
def LexNumbersWrongFalsely : Prop := lexNumbersRow.holds Tryd.pinned (OpenSpec.ofChange lexNumbersWrong)

/-- 'quirelaw06.LexComments': WHATEVER THE INPUT: true; the input reads as it did. -/
def lexCommentsSpec : ChangeSpec := { name := "lexComments", fn := fun _ => fun
  | [d1, d2] => { results := [.lit (.bool true)], args := [d1, d2] }
  | _ => none }
def lexCommentsRow : OpenClaim := { program := "ytbijiigobbjlcaadoor", sum := "d799e2e22c142490f49a67248d60881f5d8653a18ef7f6d6f3d9846bc240a060", func := "quire/quirelaw06.LexComments", spec := "lexComments", inPlace := ["internal/abi.NoEscape"], unfollowed := true, recurses := true, named := ["quire/lex.noughts"], apart := false, laid := [("quire/lex.noughts", laid_quire_lex_noughts)] }
def LexCommentsSaid : Prop := lexCommentsRow.holds Tryd.pinned (OpenSpec.ofChange lexCommentsSpec)

/-- ITS FALSE NEIGHBOUR: 'it returns false'. Refute it at one input. -/
def lexCommentsWrong : ChangeSpec := { name := "lexComments", fn := fun _ => fun
  | [d1, d2] => { results := [.lit (.bool false)], args := [d1, d2] }
  | _ => none }
def LexCommentsWrongFalsely : Prop := lexCommentsRow.holds Tryd.pinned (OpenSpec.ofChange lexCommentsWrong)

/- THE SECOND FORM. 'bulk': how many values and letters a reading holds, each counted each time it is reached (what is shared counts as often as it is met; a slice's spare places count too). A statement '..UptoSaid' is the law's where the arguments, and the package variables that the reading takes, are together of bulk at most 1048576: NARROWER than '..Said'. Prove '..Said' where nothing that the law and all that it calls make is longer than what came in: it says more and counts as full. Else prove '..UptoSaid'. A law counts once. -/
mutual
def uptoBulk {H : Type} : DataW H → Nat
  | .lit (.string bytes) => bytes.length + 1
  | .lit _ => 1
  | .nil => 1
  | .ptr d => uptoBulk d + 1
  | .slice elems spare => uptoBulkAll elems + uptoBulkAll spare + 1
  | .agg parts => uptoBulkAll parts + 1
  | .iface _ d => uptoBulk d + 1
  | .map entries => uptoBulkEntries entries + 1
  | .held _ => 1
def uptoBulkAll {H : Type} : List (DataW H) → Nat
  | [] => 0
  | d :: r => uptoBulk d + uptoBulkAll r
def uptoBulkEntries {H : Type} : List (Lit × DataW H) → Nat
  | [] => 0
  | x :: r => uptoBulkEntry x + uptoBulkEntries r
def uptoBulkEntry {H : Type} : Lit × DataW H → Nat
  | (.string bytes, d) => bytes.length + uptoBulk d + 1
  | (_, d) => uptoBulk d + 1
 end
def uptoSmall : (H : Type) → List (DataW H) → Bool := fun _ ds => decide (uptoBulkAll ds ≤ 1048576)
def OpenSpec.upto (s : _root_.Go.ChangeSpec) : _root_.Go.OpenSpec := { _root_.Go.OpenSpec.ofChange s with cond := some uptoSmall }

/-- 'quirelaw06.LexPlays', WHERE WHAT IT READS IS OF BULK AT MOST 1048576: true; the input reads as it did. -/
def lexPlaysUptoRow : OpenClaim := { program := "ytbijiigobbjlcaadoor", sum := "d799e2e22c142490f49a67248d60881f5d8653a18ef7f6d6f3d9846bc240a060", func := "quire/quirelaw06.LexPlays", spec := "lexPlays", inPlace := ["internal/abi.NoEscape"], unfollowed := true, recurses := true, named := ["quire/lex.noughts"], apart := false, laid := [("quire/lex.noughts", laid_quire_lex_noughts)], narrowed := true }
def LexPlaysUptoSaid : Prop := lexPlaysUptoRow.holds Tryd.pinned (OpenSpec.upto lexPlaysSpec)

/-- 'quirelaw06.LexQuotes', WHERE WHAT IT READS IS OF BULK AT MOST 1048576: true; the input reads as it did. -/
def lexQuotesUptoRow : OpenClaim := { program := "ytbijiigobbjlcaadoor", sum := "d799e2e22c142490f49a67248d60881f5d8653a18ef7f6d6f3d9846bc240a060", func := "quire/quirelaw06.LexQuotes", spec := "lexQuotes", inPlace := ["internal/abi.NoEscape"], unfollowed := true, recurses := true, named := ["quire/lex.noughts"], apart := false, laid := [("quire/lex.noughts", laid_quire_lex_noughts)], narrowed := true }
def LexQuotesUptoSaid : Prop := lexQuotesUptoRow.holds Tryd.pinned (OpenSpec.upto lexQuotesSpec)

/-- 'quirelaw06.LexJoins', WHERE WHAT IT READS IS OF BULK AT MOST 1048576: true; the input reads as it did. -/
def lexJoinsUptoRow : OpenClaim := { program := "ytbijiigobbjlcaadoor", sum := "d799e2e22c142490f49a67248d60881f5d8653a18ef7f6d6f3d9846bc240a060", func := "quire/quirelaw06.LexJoins", spec := "lexJoins", inPlace := ["internal/abi.NoEscape"], unfollowed := true, recurses := true, named := ["quire/lex.noughts"], apart := false, laid := [("quire/lex.noughts", laid_quire_lex_noughts)], narrowed := true }
def LexJoinsUptoSaid : Prop := lexJoinsUptoRow.holds Tryd.pinned (OpenSpec.upto lexJoinsSpec)

/-- 'quirelaw06.LexPlaces', WHERE WHAT IT READS IS OF BULK AT MOST 1048576: true; the input reads as it did. -/
def lexPlacesUptoRow : OpenClaim := { program := "ytbijiigobbjlcaadoor", sum := "d799e2e22c142490f49a67248d60881f5d8653a18ef7f6d6f3d9846bc240a060", func := "quire/quirelaw06.LexPlaces", spec := "lexPlaces", inPlace := ["internal/abi.NoEscape"], unfollowed := true, recurses := true, named := ["quire/lex.noughts"], apart := false, laid := [("quire/lex.noughts", laid_quire_lex_noughts)], narrowed := true }
def LexPlacesUptoSaid : Prop := lexPlacesUptoRow.holds Tryd.pinned (OpenSpec.upto lexPlacesSpec)

/-- 'quirelaw06.LexNumbers', WHERE WHAT IT READS IS OF BULK AT MOST 1048576: true; the input reads as it did. -/
def lexNumbersUptoRow : OpenClaim := { program := "ytbijiigobbjlcaadoor", sum := "d799e2e22c142490f49a67248d60881f5d8653a18ef7f6d6f3d9846bc240a060", func := "quire/quirelaw06.LexNumbers", spec := "lexNumbers", named := ["quire/lex.noughts"], apart := false, laid := [("quire/lex.noughts", laid_quire_lex_noughts)], narrowed := true }
def LexNumbersUptoSaid : Prop := lexNumbersUptoRow.holds Tryd.pinned (OpenSpec.upto lexNumbersSpec)

/-- 'quirelaw06.LexComments', WHERE WHAT IT READS IS OF BULK AT MOST 1048576: true; the input reads as it did. -/
def lexCommentsUptoRow : OpenClaim := { program := "ytbijiigobbjlcaadoor", sum := "d799e2e22c142490f49a67248d60881f5d8653a18ef7f6d6f3d9846bc240a060", func := "quire/quirelaw06.LexComments", spec := "lexComments", inPlace := ["internal/abi.NoEscape"], unfollowed := true, recurses := true, named := ["quire/lex.noughts"], apart := false, laid := [("quire/lex.noughts", laid_quire_lex_noughts)], narrowed := true }
def LexCommentsUptoSaid : Prop := lexCommentsUptoRow.holds Tryd.pinned (OpenSpec.upto lexCommentsSpec)

end Rows
end Go.Proofs.YtbijiigobbjlcaaDoor
