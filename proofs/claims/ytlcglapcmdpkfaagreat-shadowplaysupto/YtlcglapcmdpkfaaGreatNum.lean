import Derived.WalkKit
namespace Go.Proofs.YtlcglapcmdpkfaaGreat
set_option linter.unusedVariables false
def numF : Nat → Nat → List Nat
 | 0, n => [n]
 | f + 1, n => if n < 128 then [n] else (n % 128 + 128) :: numF f (n / 128)
def num (n : Nat) : List Nat := numF n n
theorem numF_same : ∀ (f g n : Nat), n ≤ f → n ≤ g → numF f n = numF g n
 | 0, 0, n, _, _ => rfl
 | 0, g + 1, n, h1, h2 => by
   have : n = 0 := by omega
   subst this
   rfl
 | f + 1, 0, n, h1, h2 => by
   have : n = 0 := by omega
   subst this
   rfl
 | f + 1, g + 1, n, h1, h2 => by
   simp only [numF]
   by_cases e : n < 128
   ·rw [if_pos e, if_pos e]
   ·rw [if_neg e, if_neg e, numF_same f g (n / 128) (by omega) (by omega)]
theorem num_small {n : Nat} (h : n < 128) : num n = [n] := by
 unfold num
 cases n with
 | zero => rfl
 | succ k => simp only [numF]; rw [if_pos h]
theorem num_big {n : Nat} (h : ¬ n < 128) : num n = (n % 128 + 128) :: num (n / 128) := by
 unfold num
 cases n with
 | zero => omega
 | succ k =>
   have e : numF (k + 1) (k + 1) = ((k + 1) % 128 + 128) :: numF k ((k + 1) / 128) := by
    simp only [numF]
    rw [if_neg h]
   rw [e, numF_same k ((k + 1) / 128) ((k + 1) / 128) (by omega) (Nat.le_refl _)]
theorem num_len : ∀ (k n : Nat), n < 128 ^ (k + 1) → (num n).length ≤ k + 1
 | 0, n, h => by rw [num_small (by omega)]; simp
 | k + 1, n, h => by
   by_cases e : n < 128
   ·rw [num_small e]; simp
   ·rw [num_big e]
    have : n / 128 < 128 ^ (k + 1) := Nat.div_lt_of_lt_mul (by rw [Nat.pow_succ] at h; omega)
    have := num_len k (n / 128) this
    simp; omega
theorem num_pos (n : Nat) : 0 < (num n).length := by
 by_cases e : n < 128
 ·rw [num_small e]; simp
 ·rw [num_big e]; simp
theorem num_nine {n : Nat} (h : n < 9223372036854775808) : (num n).length ≤ 9 := num_len 8 n (by omega)
theorem num_byte : ∀ (n : Nat), ∀ z ∈ num n, z < 256 := by
 intro n
 induction n using Nat.strongRecOn with
 | ind n ih =>
   by_cases e : n < 128
   ·rw [num_small e]; intro z hz; simp at hz; omega
   ·rw [num_big e]
    intro z hz
    rcases List.mem_cons.1 hz with rfl | hz
    ·omega
    ·exact ih (n / 128) (by omega) z hz
end Go.Proofs.YtlcglapcmdpkfaaGreat
