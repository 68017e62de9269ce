/- Blanks, and the first character that is wanted: blank, begin's two functions, find, wordEnd. -/
import Derived.Test.YtpphabkjnfgcmaaDoorLx10
namespace Go.Proofs.YtpphabkjnfgcmaaDoor
open Go.RowKit
set_option linter.unusedSimpArgs false
set_option linter.unusedVariables false
end Go.Proofs.YtpphabkjnfgcmaaDoor
