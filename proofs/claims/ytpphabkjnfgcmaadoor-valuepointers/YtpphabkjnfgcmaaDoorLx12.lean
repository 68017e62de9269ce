/- The first character that is wanted: find. -/
import Derived.Test.YtpphabkjnfgcmaaDoorLx11
namespace Go.Proofs.YtpphabkjnfgcmaaDoor
open Go.RowKit
set_option linter.unusedSimpArgs false
set_option linter.unusedVariables false
def fndL (p : Nat → Bool) (a n : Nat) : List (Nat × Nat) → Nat
  | [] => n
  | (i, c) :: l => if p c = true then a + i else fndL p a n l
/-- The place of the first character that p wants, from a on, or the text's length. -/
def fnd (p : Nat → Bool) (s : ByteArray) (a : Nat) : Nat := fndL p a s.size (crs (s.extract a s.size) (s.extract a s.size).size 0)
end Go.Proofs.YtpphabkjnfgcmaaDoor
