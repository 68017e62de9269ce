import Derived.Test.YtlcglapcmdpkfaaGreatA9
namespace Go.Proofs.YtlcglapcmdpkfaaGreat
open Go.RowKit Go.Maps Go.Shelf
set_option linter.unusedSimpArgs false
set_option linter.unusedVariables false
end Go.Proofs.YtlcglapcmdpkfaaGreat
