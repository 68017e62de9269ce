/- Numbers as bytes: what a number's bytes are, that they are at most nine. -/
import Derived.WalkKit
namespace Go.Proofs.Ytpoakkdkibameaa
set_option linter.unusedVariables false

/-- A number's bytes. -/
def num (n : Nat) : List Nat := if h : n < 128 then [n] else (n % 128 + 128) :: num (n / 128)
  termination_by n
  decreasing_by omega
theorem num_small {n : Nat} (h : n < 128) : num n = [n] := by rw [num, dif_pos h]
theorem num_big {n : Nat} (h : ¬ n < 128) : num n = (n % 128 + 128) :: num (n / 128) := by rw [num, dif_neg h]
theorem num_len : ∀ (k n : Nat), n < 128 ^ (k + 1) → (num n).length ≤ k + 1
  | 0, n, h => by rw [num_small (by omega)]; simp
  | k + 1, n, h => by
    by_cases e : n < 128
    · rw [num_small e]; simp
    · rw [num_big e]
      have : n / 128 < 128 ^ (k + 1) := Nat.div_lt_of_lt_mul (by rw [Nat.pow_succ] at h; omega)
      have := num_len k (n / 128) this
      simp; omega
theorem num_pos (n : Nat) : 0 < (num n).length := by
  by_cases e : n < 128
  · rw [num_small e]; simp
  · rw [num_big e]; simp
theorem num_nine {n : Nat} (h : n < 9223372036854775808) : (num n).length ≤ 9 := num_len 8 n (by omega)
theorem num_byte : ∀ (n : Nat), ∀ z ∈ num n, z < 256 := by
  intro n
  induction n using Nat.strongRecOn with
  | ind n ih =>
    by_cases e : n < 128
    · rw [num_small e]; intro z hz; simp at hz; omega
    · rw [num_big e]
      intro z hz
      rcases List.mem_cons.1 hz with rfl | hz
      · omega
      · exact ih (n / 128) (by omega) z hz
end Go.Proofs.Ytpoakkdkibameaa
