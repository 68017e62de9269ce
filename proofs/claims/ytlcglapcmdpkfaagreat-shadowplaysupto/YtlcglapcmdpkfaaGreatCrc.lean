import Derived.WalkKit
namespace Go.Proofs.YtlcglapcmdpkfaaGreat
def st (r : Nat) : Nat := if r % 2 = 1 then (r / 2) ^^^ 3988292384 else r / 2
def it : Nat → Nat → Nat
 | 0, r => r
 | k + 1, r => st (it k r)
def eat (r c : Nat) : Nat := it 8 (r ^^^ c)
def reg (l : List Nat) : Nat := l.foldl eat 4294967295
def sumN (l : List Nat) : Nat := reg l ^^^ 4294967295
theorem st_lt {r : Nat} (h : r < 4294967296) : st r < 4294967296 := by
 unfold st
 split
 ·exact Nat.xor_lt_two_pow (n := 32) (by omega) (by omega)
 ·omega
theorem it_lt {r : Nat} (h : r < 4294967296) : ∀ k, it k r < 4294967296
 | 0 => h
 | k + 1 => st_lt (it_lt h k)
theorem eat_lt {r c : Nat} (h : r < 4294967296) (hc : c < 256) : eat r c < 4294967296 := it_lt (Nat.xor_lt_two_pow (n := 32) (by omega) (by omega)) 8
theorem fold_lt : ∀ (l : List Nat) (r : Nat), r < 4294967296 → (∀ z ∈ l, z < 256) → l.foldl eat r < 4294967296
 | [], _, h, _ => h
 | c :: l, _, h, hl => fold_lt l _ (eat_lt h (hl c List.mem_cons_self)) (fun z hz => hl z (List.mem_cons_of_mem _ hz))
theorem reg_lt (l : List Nat) (hl : ∀ z ∈ l, z < 256) : reg l < 4294967296 := fold_lt l _ (by omega) hl
theorem sumN_lt (l : List Nat) (hl : ∀ z ∈ l, z < 256) : sumN l < 4294967296 := Nat.xor_lt_two_pow (n := 32) (reg_lt l hl) (by omega)
theorem xor_half (a b : Nat) : (a ^^^ b) / 2 = a / 2 ^^^ b / 2 := by
 have := Nat.shiftRight_xor_distrib (a := a) (b := b) (i := 1)
 simpa [Nat.shiftRight_eq_div_pow] using this
end Go.Proofs.YtlcglapcmdpkfaaGreat
