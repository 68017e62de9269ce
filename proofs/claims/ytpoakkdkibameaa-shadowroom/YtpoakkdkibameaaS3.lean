/- What the document's Sum answers: the same. -/
import Derived.Test.YtpoakkdkibameaaS2
namespace Go.Proofs.Ytpoakkdkibameaa
open Go.RowKit
set_option linter.unusedSimpArgs false
set_option linter.unusedVariables false

/-- The register that takes the bits of c one by one. -/
def rr (k r c : Nat) : Nat := it k (r ^^^ c) ^^^ c / 2 ^ k
theorem rr_zero (r c : Nat) : rr 0 r c = r := by simp [rr, it, Nat.xor_assoc]
theorem rr_bit (k r c : Nat) : (rr k r c ^^^ c / 2 ^ k) = it k (r ^^^ c) := by simp [rr, Nat.xor_assoc]
theorem rr_succ (k r c : Nat) : rr (k + 1) r c = if (rr k r c ^^^ c / 2 ^ k) % 2 = 1 then rr k r c / 2 ^^^ 3988292384 else rr k r c / 2 := by
  rw [rr_bit]
  have e1 : rr k r c / 2 = it k (r ^^^ c) / 2 ^^^ c / 2 ^ (k + 1) := by
    unfold rr
    rw [xor_half, Nat.div_div_eq_div_mul, ← Nat.pow_succ]
  rw [e1]
  show st (it k (r ^^^ c)) ^^^ c / 2 ^ (k + 1) = _
  unfold st
  split
  · rw [Nat.xor_assoc, Nat.xor_assoc, Nat.xor_comm 3988292384]
  · rfl
theorem rr_eight (r c : Nat) (h : c < 256) : rr 8 r c = eat r c := by
  have : c / 2 ^ 8 = 0 := by omega
  simp [rr, this, eat]
theorem half_le (c k : Nat) : c / 2 ^ k ≤ c := Nat.div_le_self _ _
theorem rr_lt (k r c : Nat) (hr : r < 4294967296) (hc : c < 256) : rr k r c < 4294967296 :=
  Nat.xor_lt_two_pow (n := 32) (it_lt (Nat.xor_lt_two_pow (n := 32) hr (by omega)) k) (by have := half_le c k; omega)

end Go.Proofs.Ytpoakkdkibameaa
