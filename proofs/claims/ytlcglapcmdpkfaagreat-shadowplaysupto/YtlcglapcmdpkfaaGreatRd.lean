import Derived.Test.YtlcglapcmdpkfaaGreatNum
namespace Go.Proofs.YtlcglapcmdpkfaaGreat
set_option linter.unusedVariables false
def rdF (zs : List Nat) (p : Nat) : Nat → Nat → Nat → Option (Nat × Nat)
 | 0, _, _ => none
 | f + 1, i, n =>
   match zs[p + i]? with
   | none => none
   | some c => if c < 128 then (if c = 0 ∧ 0 < i then none else some (n + c % 128 * 2 ^ (7 * i), p + i + 1)) else rdF zs p f (i + 1) (n + c % 128 * 2 ^ (7 * i))
def rd (zs : List Nat) (p i n : Nat) : Option (Nat × Nat) := rdF zs p (9 - i) i n
theorem rd_open {zs : List Nat} {p i n : Nat} (h : i < 9) : rd zs p i n = match zs[p + i]? with
  | none => none
  | some c => if c < 128 then (if c = 0 ∧ 0 < i then none else some (n + c % 128 * 2 ^ (7 * i), p + i + 1)) else rd zs p (i + 1) (n + c % 128 * 2 ^ (7 * i)) := by
 unfold rd
 rw [show 9 - i = (9 - (i + 1)) + 1 by omega]
 rfl
theorem rd_nine {zs : List Nat} {p i n : Nat} (h : ¬ i < 9) : rd zs p i n = none := by
 unfold rd
 rw [show 9 - i = 0 by omega]
 rfl
theorem rd_end {zs : List Nat} {p i n : Nat} (h : i < 9) (hz : zs.length ≤ p + i) : rd zs p i n = none := by rw [rd_open h, List.getElem?_eq_none hz]
theorem rd_last {zs : List Nat} {p i n c : Nat} (h : i < 9) (hz : p + i < zs.length) (hc : zs.getD (p + i) 0 = c) (hc2 : c < 128) : rd zs p i n = if c = 0 ∧ 0 < i then none else some (n + c % 128 * 2 ^ (7 * i), p + i + 1) := by
 have : zs[p + i]? = some c := by
  rw [← hc]; simp [List.getD, hz]
 rw [rd_open h, this]
 simp only
 rw [if_pos hc2]
theorem rd_more {zs : List Nat} {p i n c : Nat} (h : i < 9) (hz : p + i < zs.length) (hc : zs.getD (p + i) 0 = c) (hc2 : ¬ c < 128) : rd zs p i n = rd zs p (i + 1) (n + c % 128 * 2 ^ (7 * i)) := by
 have : zs[p + i]? = some c := by
  rw [← hc]; simp [List.getD, hz]
 rw [rd_open h, this]
 simp only
 rw [if_neg hc2]
theorem step_lt {n c i : Nat} (h : n < 2 ^ (7 * i)) : n + c % 128 * 2 ^ (7 * i) < 2 ^ (7 * (i + 1)) := by
 have e : 2 ^ (7 * (i + 1)) = 128 * 2 ^ (7 * i) := by rw [show 7 * (i + 1) = 7 * i + 7 by omega, Nat.pow_add]; omega
 have h2 : c % 128 + 1 ≤ 128 := by omega
 have h3 := Nat.mul_le_mul_right (2 ^ (7 * i)) h2
 rw [Nat.add_mul, Nat.one_mul] at h3
 omega
theorem pow_le {i : Nat} (h : i ≤ 9) : 2 ^ (7 * i) ≤ 9223372036854775808 := by
 have : 2 ^ (7 * i) ≤ 2 ^ 63 := Nat.pow_le_pow_right (by decide) (by omega)
 omega
theorem rd_some {zs : List Nat} {p : Nat} : ∀ (f i n : Nat) {m q : Nat}, f + i = 9 → n < 2 ^ (7 * i) → rd zs p i n = some (m, q) → m < 9223372036854775808 ∧ p < q ∧ q ≤ zs.length
 | 0, i, n, m, q, hf, hn, h => by rw [rd_nine (by omega)] at h; cases h
 | f + 1, i, n, m, q, hf, hn, h => by
   by_cases hz : p + i < zs.length
   ·have hs := step_lt (c := zs.getD (p + i) 0) hn
    have hp := pow_le (i := i + 1) (by omega)
    by_cases hc : zs.getD (p + i) 0 < 128
    ·rw [rd_last (by omega) hz rfl hc] at h
     split at h
     ·cases h
     ·simp only [Option.some.injEq, Prod.mk.injEq] at h
      obtain ⟨rfl, rfl⟩ := h
      exact ⟨by omega, by omega, by omega⟩
    ·rw [rd_more (by omega) hz rfl hc] at h
     exact rd_some f (i + 1) _ (by omega) hs h
   ·rw [rd_end (by omega) (by omega)] at h; cases h
end Go.Proofs.YtlcglapcmdpkfaaGreat
