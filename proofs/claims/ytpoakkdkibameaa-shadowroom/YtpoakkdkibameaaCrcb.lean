/- Two lists of bytes that differ within four bytes side by side have different sums. -/
import Derived.Test.YtpoakkdkibameaaCrc
namespace Go.Proofs.Ytpoakkdkibameaa
set_option linter.unusedVariables false

theorem eat_xor (r s c d : Nat) : eat r c ^^^ eat s d = eat (r ^^^ s) (c ^^^ d) := by
  unfold eat
  rw [← it_xor]
  congr 1
  ac_rfl
/-- What two registers differ by. -/
theorem fold_xor : ∀ (l l' : List Nat) (r s : Nat), l.length = l'.length → l.foldl eat r ^^^ l'.foldl eat s = (List.zipWith (· ^^^ ·) l l').foldl eat (r ^^^ s)
  | [], [], r, s, _ => rfl
  | c :: l, d :: l', r, s, h => by
    simp only [List.foldl_cons, List.zipWith_cons_cons]
    rw [fold_xor l l' _ _ (by simpa using h), eat_xor]
  | [], _ :: _, _, _, h => by simp at h
  | _ :: _, [], _, _, h => by simp at h
theorem fold_nil : ∀ (l : List Nat) (r : Nat), (∀ z ∈ l, z = 0) → l.foldl eat r = it (8 * l.length) r
  | [], _, _ => rfl
  | c :: l, r, h => by
    rw [List.foldl_cons, fold_nil l _ (fun z hz => h z (List.mem_cons_of_mem _ hz)), h c List.mem_cons_self, List.length_cons]
    unfold eat
    rw [Nat.xor_zero, ← it_add]
    congr 1
    omega
theorem xor_add (a d k : Nat) (h : a < 2 ^ k) : a ^^^ (d * 2 ^ k) = a + 2 ^ k * d := by
  have h1 : (a ^^^ (d * 2 ^ k)) % 2 ^ k = a := by
    rw [Nat.xor_mod_two_pow, Nat.mul_mod_left, Nat.xor_zero, Nat.mod_eq_of_lt h]
  have h2 : (a ^^^ (d * 2 ^ k)) / 2 ^ k = d := by
    have := Nat.shiftRight_xor_distrib (a := a) (b := d * 2 ^ k) (i := k)
    rw [Nat.shiftRight_eq_div_pow, Nat.shiftRight_eq_div_pow, Nat.shiftRight_eq_div_pow, Nat.div_eq_of_lt h, Nat.mul_div_cancel _ (Nat.two_pow_pos k), Nat.zero_xor] at this
    exact this
  have := Nat.mod_add_div (a ^^^ (d * 2 ^ k)) (2 ^ k)
  rw [h1, h2] at this
  exact this.symm
/-- The byte number i of x. -/
def byteOf (x i : Nat) : Nat := x / 2 ^ (8 * i) % 256
theorem byteOf_lt (x i : Nat) : byteOf x i < 256 := Nat.mod_lt _ (by decide)
theorem low_succ (x m : Nat) : x % 2 ^ (8 * (m + 1)) = x % 2 ^ (8 * m) + 2 ^ (8 * m) * byteOf x m := by
  rw [show 8 * (m + 1) = 8 * m + 8 by omega, Nat.pow_add, Nat.mod_mul]
  rfl
theorem low_zero (x m : Nat) : x % 2 ^ (8 * (m + 1)) = 0 ↔ x % 2 ^ (8 * m) = 0 ∧ byteOf x m = 0 := by
  rw [low_succ]
  have := Nat.two_pow_pos (8 * m)
  constructor
  · intro h
    refine ⟨by omega, ?_⟩
    have h2 : 2 ^ (8 * m) * byteOf x m = 0 := by omega
    rcases Nat.mul_eq_zero.1 h2 with h2 | h2
    · omega
    · exact h2
  · rintro ⟨h1, h2⟩
    rw [h1, h2]; rfl
theorem fold_bytes (x : Nat) : ∀ m, ((List.range m).map (byteOf x)).foldl eat 0 = it (8 * m) (x % 2 ^ (8 * m))
  | 0 => by simp [it, Nat.mod_one]
  | m + 1 => by
    rw [List.range_succ, List.map_append, List.foldl_append, fold_bytes x m]
    simp only [List.map_cons, List.map_nil, List.foldl_cons, List.foldl_nil]
    unfold eat
    have e : byteOf x m = it (8 * m) (byteOf x m * 2 ^ (8 * m)) := (it_pow _ _).symm
    rw [e, ← it_xor, xor_add _ _ _ (Nat.mod_lt _ (Nat.two_pow_pos _)), ← low_succ, ← it_add]
    congr 1
/-- b with k bytes from p on xored with those of x. -/
def turned (b : Nat → Nat) (x p k : Nat) : Nat → Nat := fun j => if p ≤ j ∧ j < p + k then b j ^^^ byteOf x (j - p) else b j
theorem sum_turned (b : Nat → Nat) (x p k n : Nat) (hk : k ≤ 4) (hn : p + k ≤ n) : sumN ((List.range n).map b) = sumN ((List.range n).map (turned b x p k)) ↔ x % 2 ^ (8 * k) = 0 := by
  have hlt : x % 2 ^ (8 * k) < 4294967296 := by
    have h1 := Nat.mod_lt x (Nat.two_pow_pos (8 * k))
    have h2 : 2 ^ (8 * k) ≤ 2 ^ 32 := Nat.pow_le_pow_right (by decide) (by omega)
    omega
  have hx : sumN ((List.range n).map b) ^^^ sumN ((List.range n).map (turned b x p k)) = it (8 * (n - (p + k))) (it (8 * k) (x % 2 ^ (8 * k))) := by
    unfold sumN
    have e : ∀ a c o : Nat, a ^^^ o ^^^ (c ^^^ o) = a ^^^ c ^^^ (o ^^^ o) := fun a c o => by ac_rfl
    rw [e, Nat.xor_self, Nat.xor_zero]
    unfold reg
    rw [fold_xor _ _ _ _ (by simp), Nat.xor_self]
    have z : List.zipWith (· ^^^ ·) ((List.range n).map b) ((List.range n).map (turned b x p k)) = List.replicate p 0 ++ (List.range k).map (byteOf x) ++ List.replicate (n - (p + k)) 0 := by
      apply List.ext_getElem
      · simp; omega
      · intro i h1 h2
        simp at h1
        simp only [List.getElem_zipWith, List.getElem_map, List.getElem_range]
        unfold turned
        by_cases c1 : i < p
        · rw [if_neg (by omega), Nat.xor_self, List.getElem_append_left (by simp; omega), List.getElem_append_left (by simpa using c1), List.getElem_replicate]
        · by_cases c2 : i < p + k
          · rw [if_pos (by omega), List.getElem_append_left (by simp; omega), List.getElem_append_right (by simp; omega)]
            simp [← Nat.xor_assoc]
          · rw [if_neg (by omega), Nat.xor_self, List.getElem_append_right (by simp; omega), List.getElem_replicate]
    rw [z, List.foldl_append, List.foldl_append, fold_nil (List.replicate p 0) 0 (fun z hz => List.eq_of_mem_replicate hz), it_zero, fold_bytes, fold_nil _ _ (fun z hz => List.eq_of_mem_replicate hz), List.length_replicate]
  constructor
  · intro h
    rw [h, Nat.xor_self] at hx
    exact it_ker hlt (8 * k) (it_ker (it_lt hlt _) _ hx.symm)
  · intro h
    rw [h, it_zero, it_zero] at hx
    exact xor_eq hx
end Go.Proofs.Ytpoakkdkibameaa
