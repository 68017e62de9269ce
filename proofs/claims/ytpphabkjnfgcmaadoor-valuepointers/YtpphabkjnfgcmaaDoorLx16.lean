/- unescape. -/
import Derived.Test.YtpphabkjnfgcmaaDoorLx15
namespace Go.Proofs.YtpphabkjnfgcmaaDoor
open Go.RowKit
set_option linter.unusedSimpArgs false
set_option linter.unusedVariables false
/-- What a sign behind a backslash means. -/
def une (c : Nat) : Option Nat := if c = 110 then some 10 else if c = 34 ∨ c = 92 then some c else none
def uneV (o : Option Nat) : Value := match o with
  | some c => .tuple #[.int .i32 (c : Int), .bool true]
  | none => .tuple #[.int .i32 0, .bool false]
end Go.Proofs.YtpphabkjnfgcmaaDoor
