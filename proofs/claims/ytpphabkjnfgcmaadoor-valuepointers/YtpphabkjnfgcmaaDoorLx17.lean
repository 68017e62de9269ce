/- strings.Clone. -/
import Derived.Test.YtpphabkjnfgcmaaDoorLx16
import Derived.Test.YtpphabkjnfgcmaaDoorShelf
namespace Go.Proofs.YtpphabkjnfgcmaaDoor
open Go.RowKit
set_option linter.unusedSimpArgs false
set_option linter.unusedVariables false
end Go.Proofs.YtpphabkjnfgcmaaDoor
