/- Blanks, and the first character that is wanted: blank, begin's two functions, find, wordEnd. -/
import Derived.Test.YtkliickohokemaaDoorLx10
namespace Go.Proofs.YtkliickohokemaaDoor
open Go.RowKit
set_option linter.unusedSimpArgs false
set_option linter.unusedVariables false
end Go.Proofs.YtkliickohokemaaDoor
