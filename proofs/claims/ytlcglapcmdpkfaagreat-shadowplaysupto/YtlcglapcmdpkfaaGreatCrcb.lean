import Derived.Test.YtlcglapcmdpkfaaGreatCrc
namespace Go.Proofs.YtlcglapcmdpkfaaGreat
set_option linter.unusedVariables false
def byteOf (x i : Nat) : Nat := x / 2 ^ (8 * i) % 256
def turned (b : Nat → Nat) (x p k : Nat) : Nat → Nat := fun j => if p ≤ j ∧ j < p + k then b j ^^^ byteOf x (j - p) else b j
end Go.Proofs.YtlcglapcmdpkfaaGreat
