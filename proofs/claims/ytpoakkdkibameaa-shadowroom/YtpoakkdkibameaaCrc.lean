/- The sum of bytes as numbers: one step of the register, that it is linear and that nothing but 0 comes to 0. -/
import Derived.WalkKit
namespace Go.Proofs.Ytpoakkdkibameaa

/-- One step of the register. -/
def st (r : Nat) : Nat := if r % 2 = 1 then (r / 2) ^^^ 3988292384 else r / 2
/-- k steps. -/
def it : Nat → Nat → Nat
  | 0, r => r
  | k + 1, r => st (it k r)
/-- One byte. -/
def eat (r c : Nat) : Nat := it 8 (r ^^^ c)
/-- The register behind the bytes. -/
def reg (l : List Nat) : Nat := l.foldl eat 4294967295
def sumN (l : List Nat) : Nat := reg l ^^^ 4294967295

theorem st_lt {r : Nat} (h : r < 4294967296) : st r < 4294967296 := by
  unfold st
  split
  · exact Nat.xor_lt_two_pow (n := 32) (by omega) (by omega)
  · omega
theorem it_lt {r : Nat} (h : r < 4294967296) : ∀ k, it k r < 4294967296
  | 0 => h
  | k + 1 => st_lt (it_lt h k)
theorem eat_lt {r c : Nat} (h : r < 4294967296) (hc : c < 256) : eat r c < 4294967296 := it_lt (Nat.xor_lt_two_pow (n := 32) (by omega) (by omega)) 8
theorem fold_lt : ∀ (l : List Nat) (r : Nat), r < 4294967296 → (∀ z ∈ l, z < 256) → l.foldl eat r < 4294967296
  | [], _, h, _ => h
  | c :: l, _, h, hl => fold_lt l _ (eat_lt h (hl c List.mem_cons_self)) (fun z hz => hl z (List.mem_cons_of_mem _ hz))
theorem reg_lt (l : List Nat) (hl : ∀ z ∈ l, z < 256) : reg l < 4294967296 := fold_lt l _ (by omega) hl
theorem sumN_lt (l : List Nat) (hl : ∀ z ∈ l, z < 256) : sumN l < 4294967296 := Nat.xor_lt_two_pow (n := 32) (reg_lt l hl) (by omega)

theorem xor_half (a b : Nat) : (a ^^^ b) / 2 = a / 2 ^^^ b / 2 := by
  have := Nat.shiftRight_xor_distrib (a := a) (b := b) (i := 1)
  simpa [Nat.shiftRight_eq_div_pow] using this
theorem xor_par (a b : Nat) : (a ^^^ b) % 2 = (a + b) % 2 := by
  have h := Nat.xor_mod_two_pow (a := a) (b := b) (n := 1)
  rw [Nat.pow_one] at h
  have k : ∀ x, x < 2 → ∀ y, y < 2 → x ^^^ y = (x + y) % 2 := by decide
  rw [h, k _ (by omega) _ (by omega)]
  omega
theorem xor_eq {a b : Nat} (h : a ^^^ b = 0) : a = b := by
  have : a ^^^ b ^^^ b = a := by rw [Nat.xor_assoc, Nat.xor_self, Nat.xor_zero]
  rw [← this, h, Nat.zero_xor]
theorem st_xor (a b : Nat) : st (a ^^^ b) = st a ^^^ st b := by
  have hp := xor_par a b
  have hx : ∀ x y z : Nat, x ^^^ y ^^^ (z ^^^ y) = x ^^^ z := fun x y z => by
    rw [Nat.xor_comm z y, ← Nat.xor_assoc, Nat.xor_assoc x y y, Nat.xor_self, Nat.xor_zero]
  unfold st
  rw [xor_half]
  by_cases h1 : a % 2 = 1 <;> by_cases h2 : b % 2 = 1
  · rw [if_neg (by omega), if_pos h1, if_pos h2, hx]
  · rw [if_pos (by omega), if_pos h1, if_neg h2, Nat.xor_assoc, Nat.xor_assoc, Nat.xor_comm (b / 2)]
  · rw [if_pos (by omega), if_neg h1, if_pos h2, Nat.xor_assoc]
  · rw [if_neg (by omega), if_neg h1, if_neg h2]
theorem it_xor (a b : Nat) : ∀ k, it k (a ^^^ b) = it k a ^^^ it k b
  | 0 => rfl
  | k + 1 => by simp only [it]; rw [it_xor a b k, st_xor]
theorem st_zero : st 0 = 0 := by decide
theorem it_zero : ∀ k, it k 0 = 0
  | 0 => rfl
  | k + 1 => by simp only [it]; rw [it_zero k, st_zero]
theorem st_ker {r : Nat} (h : r < 4294967296) (h0 : st r = 0) : r = 0 := by
  unfold st at h0
  split at h0
  · have := xor_eq h0
    omega
  · omega
theorem it_ker {r : Nat} (h : r < 4294967296) : ∀ k, it k r = 0 → r = 0
  | 0, h0 => h0
  | k + 1, h0 => it_ker h k (st_ker (it_lt h k) h0)
theorem it_add (j r : Nat) : ∀ k, it (j + k) r = it k (it j r)
  | 0 => rfl
  | k + 1 => by show st (it (j + k) r) = st (it k (it j r)); rw [it_add j r k]
theorem it_pow (d : Nat) : ∀ k, it k (d * 2 ^ k) = d
  | 0 => by simp [it]
  | k + 1 => by
    rw [show k + 1 = 1 + k by omega, it_add]
    have : it 1 (d * 2 ^ (1 + k)) = d * 2 ^ k := by
      have e : d * 2 ^ (1 + k) = 2 * (d * 2 ^ k) := by rw [Nat.pow_add]; simp [Nat.mul_left_comm]
      show st (d * 2 ^ (1 + k)) = _
      rw [e]
      unfold st
      rw [if_neg (by omega)]
      omega
    rw [this, it_pow d k]

/-- Four registers whose xor is 0 stay so. -/
theorem eat4 {a b c d w x y z : Nat} (hr : a ^^^ b ^^^ c ^^^ d = 0) (hc : w ^^^ x ^^^ y ^^^ z = 0) : eat a w ^^^ eat b x ^^^ eat c y ^^^ eat d z = 0 := by
  unfold eat
  rw [← it_xor, ← it_xor, ← it_xor]
  have : a ^^^ w ^^^ (b ^^^ x) ^^^ (c ^^^ y) ^^^ (d ^^^ z) = (a ^^^ b ^^^ c ^^^ d) ^^^ (w ^^^ x ^^^ y ^^^ z) := by ac_rfl
  rw [this, hr, hc]
  exact it_zero 8
theorem sum_xor4 (f g h : Nat → Nat) : ∀ n, reg ((List.range n).map f) ^^^ reg ((List.range n).map g) ^^^ reg ((List.range n).map h) ^^^ reg ((List.range n).map fun i => f i ^^^ g i ^^^ h i) = 0
  | 0 => by simp [reg]
  | n + 1 => by
    unfold reg
    simp only [List.range_succ, List.map_append, List.map_cons, List.map_nil, List.foldl_append, List.foldl_cons, List.foldl_nil]
    exact eat4 (sum_xor4 f g h n) (by rw [Nat.xor_self])
theorem sumN_xor4 (f g h : Nat → Nat) (n : Nat) : sumN ((List.range n).map f) ^^^ sumN ((List.range n).map g) ^^^ sumN ((List.range n).map h) ^^^ sumN ((List.range n).map fun i => f i ^^^ g i ^^^ h i) = 0 := by
  have := sum_xor4 f g h n
  unfold sumN
  have e : ∀ a b c d o : Nat, a ^^^ o ^^^ (b ^^^ o) ^^^ (c ^^^ o) ^^^ (d ^^^ o) = (a ^^^ b ^^^ c ^^^ d) ^^^ ((o ^^^ o) ^^^ (o ^^^ o)) := fun a b c d o => by ac_rfl
  rw [e, this]
  simp
end Go.Proofs.Ytpoakkdkibameaa
