/- Awake. -/
import Derived.Test.YtpphabkjnfgcmaaDoorLx6
namespace Go.Proofs.YtpphabkjnfgcmaaDoor
open Go.RowKit
set_option linter.unusedSimpArgs false
set_option linter.unusedVariables false
theorem name_dup : nameB ⟨#[100, 117, 112]⟩ = true := by kernel_rfl
theorem name_7 : nameB ⟨#[55]⟩ = false := by kernel_rfl
end Go.Proofs.YtpphabkjnfgcmaaDoor
