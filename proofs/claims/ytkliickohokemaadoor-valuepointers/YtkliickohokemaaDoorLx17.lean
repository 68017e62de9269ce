/- strings.Clone. -/
import Derived.Test.YtkliickohokemaaDoorLx16
import Derived.Test.YtkliickohokemaaDoorShelf
namespace Go.Proofs.YtkliickohokemaaDoor
open Go.RowKit
set_option linter.unusedSimpArgs false
set_option linter.unusedVariables false
end Go.Proofs.YtkliickohokemaaDoor
