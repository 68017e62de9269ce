/-          -/
import Derived.Test.YtlcglapcmdpkfaaGreatGaa
import Derived.WalkKit
import Derived.Test.YtlcglapcmdpkfaaGreatRows
import Derived.WalkSpells
import Derived.WalkLawsBesides
import Derived.Deep.RegionHeld3
import Derived.Deep.MidRow
import Derived.Deep.AppendLies
import Derived.Deep.DrawnRows
import Derived.Deep.WholeRow
namespace Go.Proofs.YtlcglapcmdpkfaaGreat
open Go.RowKit
set_option linter.unusedSimpArgs false
set_option linter.unusedVariables false
set_option maxRecDepth 100000
set_option maxHeartbeats 16000000
theorem bor32 (m e s : Nat) (hm : m < 2 ^ s) (hb : m + e * 2 ^ s < 4294967296) : bits .or .u32 (m : Int) ((e * 2 ^ s : Nat) : Int) = ((m + e * 2 ^ s : Nat) : Int) := by
 have e1 : m % 2 ^ IntKind.u32.bits = m := Nat.mod_eq_of_lt (show m < 4294967296 by omega)
 have e2 : (e * 2 ^ s) % 2 ^ IntKind.u32.bits = e * 2 ^ s := Nat.mod_eq_of_lt (show e * 2 ^ s < 4294967296 by omega)
 simp only [bits, BitVec.ofInt_natCast, BitVec.toNat_or, BitVec.toNat_ofNat, e1, e2]
 rw [Nat.or_comm, Nat.mul_comm e, ← Nat.two_pow_add_eq_or_of_lt hm, Nat.add_comm, IntKind.wrap_u32, Nat.mul_comm (2 ^ s)]
 omega
def acc4 (zs : List Nat) (p : Nat) : Nat → Nat
 | 0 => 0
 | k + 1 => acc4 zs p k + zs.getD (p + k) 0 * 2 ^ (8 * k)
theorem acc4_lt {zs : List Nat} (h : ∀ z ∈ zs, z < 256) (p : Nat) : ∀ k, acc4 zs p k < 2 ^ (8 * k)
 | 0 => by simp [acc4]
 | k + 1 => by
   have h1 := acc4_lt h p k
   have h2 := getD_lt h (p + k)
   have h3 : zs.getD (p + k) 0 * 2 ^ (8 * k) ≤ 255 * 2 ^ (8 * k) := Nat.mul_le_mul_right _ (by omega)
   have h4 : 2 ^ (8 * (k + 1)) = 256 * 2 ^ (8 * k) := by rw [show 8 * (k + 1) = 8 * k + 8 by omega, Nat.pow_add]; omega
   simp only [acc4]
   omega
theorem acc4_four (zs : List Nat) (p : Nat) : acc4 zs p 4 = val4 zs p := by
 simp only [acc4, val4, Nat.add_zero]
 omega
theorem numat_any (v : Value) (zs : List Nat) (p : Nat) (w : World) (h : BytesAt w v zs) (hp : p + 4 ≤ zs.length) :
  Calls Tryz.prog 148 #[v, .int .i64 p] w fun e w' => e = .returned (.int .u32 (val4 zs p : Nat)) ∧ w' = w := by
 obtain ⟨a, c, rfl, hcap, hc⟩ := h.form
 have HL : Hid (∀ z ∈ zs, z < 256) := h.2.2
 have HC : Hid _ := hc
 obtain ⟨n, hn⟩ : ∃ m, m = zs.length := ⟨_, rfl⟩
 have HM : Hid (n = zs.length) := hn
 have hn2 : n ≤ 140737488355328 := hn ▸ h.2.1
 rw [← hn]
 rw [← hn] at hp
 clear h hc hn hcap
 go_enter Tryz.func148, Tryz.ntmps148
 go_wp2
 go_loopw [5, 7] (fun r t wr => ∃ k : Nat, k ≤ 4 ∧ t = .int .i64 k ∧ r = .int .u32 (acc4 zs p k : Nat) ∧ w = wr) (fun _ t _ => 4 - (intOf t).toNat)
 case atStart => exact ⟨0, by omega, rfl, rfl, rfl⟩
 case round =>
  obtain ⟨k, hk, rfl, rfl, rfl⟩ := hrel
  by_cases hlt : k < 4
  ·have k1 : (k : Int) < 4 := by omega
   have hwp : IntKind.i64.wrap ((p : Int) + (k : Int)) = (p : Int) + (k : Int) := by rw [IntKind.wrap_i64]; omega
   have hz2 : (p : Int) + (k : Int) < (n : Int) := by omega
   have hz3 : (0 : Int) ≤ (p : Int) + (k : Int) := by omega
   have htn : ((p : Int) + (k : Int)).toNat = p + k := by omega
   have hm8 : IntKind.i64.wrap (8 * (k : Int)) = 8 * (k : Int) := by rw [IntKind.wrap_i64]; omega
   obtain ⟨s, hs⟩ : ∃ s, s = 8 * k := ⟨_, rfl⟩
   have hs8 : 8 * (k : Int) = (s : Int) := by omega
   rw [hs8] at hm8
   have HS8 : Hid (8 * (k : Int) = (s : Int)) := hs8
   have s1 : (s : Int) < 32 := by omega
   have s0 : (0 : Int) ≤ (s : Int) := by omega
   obtain ⟨g, o, rfl, hcell⟩ := HC.out (p + k) (by have := HM.out; omega)
   have hx := acc4_lt HL.out p k
   have hx1 := acc4_lt HL.out p (k + 1)
   have hpw : 2 ^ (8 * (k + 1)) ≤ 4294967296 := Nat.le_trans (Nat.pow_le_pow_right (by omega) (show 8 * (k + 1) ≤ 32 by omega)) (by decide)
   have HS : Hid (acc4 zs p (k + 1) = acc4 zs p k + zs.getD (p + k) 0 * 2 ^ (8 * k)) := rfl
   rw [HS.out] at hx1
   have hz := getD_lt HL.out (p + k)
   rw [← hs] at hx hx1 HS
   obtain ⟨x, hxx⟩ : ∃ x, x = acc4 zs p k := ⟨_, rfl⟩
   obtain ⟨z, hzz⟩ : ∃ z, z = zs.getD (p + k) 0 := ⟨_, rfl⟩
   rw [← hxx, ← hzz] at HS hx1
   rw [← hxx] at hx
   rw [← hzz] at hz hcell
   rw [← hxx]
   have hb := bor32 x z s hx (by omega)
   obtain ⟨d, hd⟩ : ∃ d, d = z * 2 ^ s := ⟨_, rfl⟩
   rw [← hd] at hb HS hx1
   have hd2 : (z : Int) * 2 ^ s = (d : Int) := by rw [hd]; simp
   have hdl : d < 4294967296 := by omega
   have hwr : IntKind.u32.wrap (d : Int) = (d : Int) := by rw [IntKind.wrap_u32]; omega
   clear hxx hzz hd hpw hx hx1 hs
   go_wp2
   go_roundw
   case rel => exact ⟨k + 1, by omega, by go_num, by rw [HS.out]; simp, trivial⟩
   case measure => simp [intOf]; omega
  ·obtain rfl : k = 4 := by omega
   go_wp2
   go_ret
   exact ⟨by rw [← acc4_four]; rfl, rfl⟩
theorem all_take (zs : List Nat) (k : Nat) (h : k < zs.length) : (zs.take (k + 1)).all (· == 0) = ((zs.take k).all (· == 0) && zs.getD k 0 == 0) := by
 rw [List.take_succ_eq_append_getElem h, List.all_append]
 simp [List.getD, h]
theorem allzero_any (v : Value) (zs : List Nat) (w : World) (h : BytesAt w v zs) :
  Calls Tryz.prog 149 #[v] w fun e w' => e = .returned (.bool (zs.all (· == 0))) ∧ w' = w := by
 obtain ⟨a, c, rfl, hcap, hc⟩ := h.form
 have HC : Hid _ := hc
 obtain ⟨n, hn⟩ : ∃ m, m = zs.length := ⟨_, rfl⟩
 have HM : Hid (n = zs.length) := hn
 have hn2 : n ≤ 140737488355328 := hn ▸ h.2.1
 rw [← hn]
 clear h hc hn hcap
 go_enter Tryz.func149, Tryz.ntmps149
 go_wp2
 go_loopw [7] (fun t wr => ∃ k : Nat, k ≤ n ∧ t = .int .i64 k ∧ (zs.take k).all (· == 0) = true ∧ w = wr) (fun t _ => n - (intOf t).toNat)
 case atStart => exact ⟨0, by omega, rfl, by simp, rfl⟩
 case round =>
  obtain ⟨k, hk, rfl, hal, rfl⟩ := hrel
  have HAL : Hid ((zs.take k).all (· == 0) = true) := hal
  clear hal
  by_cases hlt : k < n
  ·have k1 : (k : Int) < (n : Int) := by omega
   have k0 : (0 : Int) ≤ (k : Int) := by omega
   obtain ⟨g, o, rfl, hcell⟩ := HC.out k (by have := HM.out; omega)
   have HT : Hid _ := all_take zs k (by have := HM.out; omega)
   obtain ⟨z, hzz⟩ : ∃ z, z = zs.getD k 0 := ⟨_, rfl⟩
   rw [← hzz] at hcell HT
   by_cases hz0 : z = 0
   ·have zz : ((z : Int) != 0) = false := by simp [hz0]
    have HZ0 : Hid (z = 0) := hz0
    clear hz0 hzz
    go_wp2
    go_roundw
    case rel => exact ⟨k + 1, by omega, by go_num, by rw [HT.out, HAL.out, HZ0.out]; rfl, trivial⟩
    case measure => simp [intOf]; omega
   ·have zz : ((z : Int) != 0) = true := by simp [hz0]
    have HZ0 : Hid (zs.all (· == 0) = false) := by
     show _ = _
     have : ¬ zs.all (· == 0) = true := fun e => by
      have := List.all_eq_true.1 e (zs.getD k 0) (by
       have hk2 : k < zs.length := by have := HM.out; omega
       simp [List.getD, hk2])
      rw [← hzz] at this
      simp [hz0] at this
     simpa using this
    clear hz0 hzz
    go_wp2
    go_ret
    exact ⟨by rw [HZ0.out]; rfl, rfl⟩
  ·obtain rfl : k = n := by omega
   go_wp2
   go_ret
   refine ⟨?_, rfl⟩
   have := HAL.out
   rw [HM.out, List.take_length] at this
   rw [this]; rfl
end Go.Proofs.YtlcglapcmdpkfaaGreat
namespace Go.Proofs.YtlcglapcmdpkfaaGreat
set_option linter.unusedSimpArgs false
set_option linter.unusedVariables false
set_option maxRecDepth 100000
set_option maxHeartbeats 16000000
def numF : Nat → Nat → List Nat
 | 0, n => [n]
 | f + 1, n => if n < 128 then [n] else (n % 128 + 128) :: numF f (n / 128)
def num (n : Nat) : List Nat := numF n n
theorem numF_same : ∀ (f g n : Nat), n ≤ f → n ≤ g → numF f n = numF g n
 | 0, 0, n, _, _ => rfl
 | 0, g + 1, n, h1, h2 => by
   have : n = 0 := by omega
   subst this
   rfl
 | f + 1, 0, n, h1, h2 => by
   have : n = 0 := by omega
   subst this
   rfl
 | f + 1, g + 1, n, h1, h2 => by
   simp only [numF]
   by_cases e : n < 128
   ·rw [if_pos e, if_pos e]
   ·rw [if_neg e, if_neg e, numF_same f g (n / 128) (by omega) (by omega)]
theorem num_small {n : Nat} (h : n < 128) : num n = [n] := by
 unfold num
 cases n with
 | zero => rfl
 | succ k => simp only [numF]; rw [if_pos h]
theorem num_big {n : Nat} (h : ¬ n < 128) : num n = (n % 128 + 128) :: num (n / 128) := by
 unfold num
 cases n with
 | zero => omega
 | succ k =>
   have e : numF (k + 1) (k + 1) = ((k + 1) % 128 + 128) :: numF k ((k + 1) / 128) := by
    simp only [numF]
    rw [if_neg h]
   rw [e, numF_same k ((k + 1) / 128) ((k + 1) / 128) (by omega) (Nat.le_refl _)]
theorem num_len : ∀ (k n : Nat), n < 128 ^ (k + 1) → (num n).length ≤ k + 1
 | 0, n, h => by rw [num_small (by omega)]; simp
 | k + 1, n, h => by
   by_cases e : n < 128
   ·rw [num_small e]; simp
   ·rw [num_big e]
    have : n / 128 < 128 ^ (k + 1) := Nat.div_lt_of_lt_mul (by rw [Nat.pow_succ] at h; omega)
    have := num_len k (n / 128) this
    simp; omega
theorem num_pos (n : Nat) : 0 < (num n).length := by
 by_cases e : n < 128
 ·rw [num_small e]; simp
 ·rw [num_big e]; simp
theorem num_nine {n : Nat} (h : n < 9223372036854775808) : (num n).length ≤ 9 := num_len 8 n (by omega)
theorem num_byte : ∀ (n : Nat), ∀ z ∈ num n, z < 256 := by
 intro n
 induction n using Nat.strongRecOn with
 | ind n ih =>
   by_cases e : n < 128
   ·rw [num_small e]; intro z hz; simp at hz; omega
   ·rw [num_big e]
    intro z hz
    rcases List.mem_cons.1 hz with rfl | hz
    ·omega
    ·exact ih (n / 128) (by omega) z hz
def rdF (zs : List Nat) (p : Nat) : Nat → Nat → Nat → Option (Nat × Nat)
 | 0, _, _ => none
 | f + 1, i, n =>
   match zs[p + i]? with
   | none => none
   | some c => if c < 128 then (if c = 0 ∧ 0 < i then none else some (n + c % 128 * 2 ^ (7 * i), p + i + 1)) else rdF zs p f (i + 1) (n + c % 128 * 2 ^ (7 * i))
def rd (zs : List Nat) (p i n : Nat) : Option (Nat × Nat) := rdF zs p (9 - i) i n
theorem rd_open {zs : List Nat} {p i n : Nat} (h : i < 9) : rd zs p i n = match zs[p + i]? with
  | none => none
  | some c => if c < 128 then (if c = 0 ∧ 0 < i then none else some (n + c % 128 * 2 ^ (7 * i), p + i + 1)) else rd zs p (i + 1) (n + c % 128 * 2 ^ (7 * i)) := by
 unfold rd
 rw [show 9 - i = (9 - (i + 1)) + 1 by omega]
 rfl
theorem rd_nine {zs : List Nat} {p i n : Nat} (h : ¬ i < 9) : rd zs p i n = none := by
 unfold rd
 rw [show 9 - i = 0 by omega]
 rfl
theorem rd_end {zs : List Nat} {p i n : Nat} (h : i < 9) (hz : zs.length ≤ p + i) : rd zs p i n = none := by rw [rd_open h, List.getElem?_eq_none hz]
theorem rd_last {zs : List Nat} {p i n c : Nat} (h : i < 9) (hz : p + i < zs.length) (hc : zs.getD (p + i) 0 = c) (hc2 : c < 128) : rd zs p i n = if c = 0 ∧ 0 < i then none else some (n + c % 128 * 2 ^ (7 * i), p + i + 1) := by
 have : zs[p + i]? = some c := by
  rw [← hc]; simp [List.getD, hz]
 rw [rd_open h, this]
 simp only
 rw [if_pos hc2]
theorem rd_more {zs : List Nat} {p i n c : Nat} (h : i < 9) (hz : p + i < zs.length) (hc : zs.getD (p + i) 0 = c) (hc2 : ¬ c < 128) : rd zs p i n = rd zs p (i + 1) (n + c % 128 * 2 ^ (7 * i)) := by
 have : zs[p + i]? = some c := by
  rw [← hc]; simp [List.getD, hz]
 rw [rd_open h, this]
 simp only
 rw [if_neg hc2]
theorem step_lt {n c i : Nat} (h : n < 2 ^ (7 * i)) : n + c % 128 * 2 ^ (7 * i) < 2 ^ (7 * (i + 1)) := by
 have e : 2 ^ (7 * (i + 1)) = 128 * 2 ^ (7 * i) := by rw [show 7 * (i + 1) = 7 * i + 7 by omega, Nat.pow_add]; omega
 have h2 : c % 128 + 1 ≤ 128 := by omega
 have h3 := Nat.mul_le_mul_right (2 ^ (7 * i)) h2
 rw [Nat.add_mul, Nat.one_mul] at h3
 omega
theorem pow_le {i : Nat} (h : i ≤ 9) : 2 ^ (7 * i) ≤ 9223372036854775808 := by
 have : 2 ^ (7 * i) ≤ 2 ^ 63 := Nat.pow_le_pow_right (by decide) (by omega)
 omega
theorem rd_some {zs : List Nat} {p : Nat} : ∀ (f i n : Nat) {m q : Nat}, f + i = 9 → n < 2 ^ (7 * i) → rd zs p i n = some (m, q) → m < 9223372036854775808 ∧ p < q ∧ q ≤ zs.length
 | 0, i, n, m, q, hf, hn, h => by rw [rd_nine (by omega)] at h; cases h
 | f + 1, i, n, m, q, hf, hn, h => by
   by_cases hz : p + i < zs.length
   ·have hs := step_lt (c := zs.getD (p + i) 0) hn
    have hp := pow_le (i := i + 1) (by omega)
    by_cases hc : zs.getD (p + i) 0 < 128
    ·rw [rd_last (by omega) hz rfl hc] at h
     split at h
     ·cases h
     ·simp only [Option.some.injEq, Prod.mk.injEq] at h
      obtain ⟨rfl, rfl⟩ := h
      exact ⟨by omega, by omega, by omega⟩
    ·rw [rd_more (by omega) hz rfl hc] at h
     exact rd_some f (i + 1) _ (by omega) hs h
   ·rw [rd_end (by omega) (by omega)] at h; cases h
end Go.Proofs.YtlcglapcmdpkfaaGreat
namespace Go.Proofs.YtlcglapcmdpkfaaGreat
open Go.RowKit
set_option linter.unusedSimpArgs false
set_option linter.unusedVariables false
set_option maxRecDepth 100000
set_option maxHeartbeats 16000000
theorem bandn8 (c : Nat) (h : c < 256) : bits .andNot .u8 (c : Int) 128 = ((c % 128 : Nat) : Int) := by
 have k : ∀ c : Fin 256, bits .andNot .u8 ((c.val : Nat) : Int) 128 = ((c.val % 128 : Nat) : Int) := by decide +kernel
 exact k ⟨c, h⟩
theorem bor64 (m e s : Nat) (hm : m < 2 ^ s) (hb : m + e * 2 ^ s < 18446744073709551616) : bits .or .u64 (m : Int) ((e * 2 ^ s : Nat) : Int) = ((m + e * 2 ^ s : Nat) : Int) := by
 rw [bits_or_u64_nat m (e * 2 ^ s) (by omega) (by omega)]
 rw [Nat.or_comm, Nat.mul_comm e, ← Nat.two_pow_add_eq_or_of_lt hm, Nat.add_comm]
theorem take_end (N Bb : Nat) (a : Option Addr) (n c : Nat) (w : World) (h0 : w.cell? ⟨N, 0, none⟩ = some (.int .i64 n)) (h1 : w.cell? ⟨Bb, 0, none⟩ = some (.slice a n c)) :
  Calls Tryz.prog 131 #[.pointer (some ⟨N, 0, none⟩), .pointer (some ⟨Bb, 0, none⟩)] w fun e w' => e = .returned (.tuple #[.int .u8 0, .bool false]) ∧ w' = w := by
 go_enter Tryz.func131, Tryz.ntmps131
 go_wp2
 go_ret2
 exact ⟨rfl, rfl⟩
theorem take_more (N Bb g o n c k : Nat) (z : Int) (w : World) (hk : (k : Int) < n) (hn : n ≤ 140737488355328) (h0 : w.cell? ⟨N, 0, none⟩ = some (.int .i64 k)) (hf : w.frozen? ⟨N, 0, none⟩ = false) (h1 : w.cell? ⟨Bb, 0, none⟩ = some (.slice (some ⟨g, o, none⟩) n c)) (h2 : w.cell? ⟨g, o + k, none⟩ = some (.int .u8 z)) (hN : Bb ≠ N) (hg : g ≠ N) :
  Calls Tryz.prog 131 #[.pointer (some ⟨N, 0, none⟩), .pointer (some ⟨Bb, 0, none⟩)] w fun e w' => e = .returned (.tuple #[.int .u8 z, .bool true]) ∧ w' = w.setCell ⟨N, 0, none⟩ (.int .i64 ((k : Int) + 1)) := by
 have hne : ((k : Int) == (n : Int)) = false := by simp; omega
 have e1 : (w.setCell ⟨N, 0, none⟩ (.int .i64 ((k : Int) + 1))).cell? ⟨N, 0, none⟩ = some (.int .i64 ((k : Int) + 1)) := World.cell?_setCell_same _ _ _ h0
 have e2 : (w.setCell ⟨N, 0, none⟩ (.int .i64 ((k : Int) + 1))).cell? ⟨Bb, 0, none⟩ = some (.slice (some ⟨g, o, none⟩) n c) := by rw [World.cell?_setCell_other _ _ _ _ (by simp [hN])]; exact h1
 have e3 : (w.setCell ⟨N, 0, none⟩ (.int .i64 ((k : Int) + 1))).cell? ⟨g, o + k, none⟩ = some (.int .u8 z) := by rw [World.cell?_setCell_other _ _ _ _ (by simp [hg])]; exact h2
 have k0 : (0 : Int) ≤ (k : Int) := by omega
 clear h2 hN hg
 go_enter Tryz.func131, Tryz.ntmps131
 go_wp2
 go_ret2
 exact ⟨rfl, rfl⟩
def NumIs (r : Option (Nat × Nat)) (N : Nat) (e : Ending) (w' : World) : Prop :=
 (∃ m q, r = some (m, q) ∧ e = .returned (.tuple #[.int .u64 (m : Nat), .bool true]) ∧ w'.cell? ⟨N, 0, none⟩ = some (.int .i64 (q : Nat))) ∨
 (∃ x y : Int, r = none ∧ e = .returned (.tuple #[.int .u64 x, .bool false]) ∧ w'.cell? ⟨N, 0, none⟩ = some (.int .i64 y))
theorem frozen_set (w : World) (a b : Addr) (u : Value) : (w.setCell a u).frozen? b = w.frozen? b := by simp
theorem numb_any (N Bb p : Nat) (v : Value) (zs : List Nat) (w : World) (h : BytesAt w v zs) (hp : p ≤ zs.length) (h0 : w.cell? ⟨N, 0, none⟩ = some (.int .i64 p)) (hf : w.frozen? ⟨N, 0, none⟩ = false) (h1 : w.cell? ⟨Bb, 0, none⟩ = some v) (hN : Bb ≠ N) (hg : 0 < zs.length → ∀ b, v.ownBlock = some b → b ≠ N) :
  Calls Tryz.prog 130 #[.func (.func 131) #[] #[.pointer (some ⟨N, 0, none⟩), .pointer (some ⟨Bb, 0, none⟩)]] w fun e w' => NumIs (rd zs p 0 0) N e w' ∧ w'.frozen? ⟨N, 0, none⟩ = false ∧ Only (fun i => i = N) w w' := by
 obtain ⟨a, c, rfl, hcap, hc⟩ := h.form
 have hlt := h.2.2
 have HL : Hid (∀ z ∈ zs, z < 256) := hlt
 have HC : Hid _ := hc
 obtain ⟨n, hn⟩ : ∃ m, m = zs.length := ⟨_, rfl⟩
 have HM : Hid (n = zs.length) := hn
 have hn2 : n ≤ 140737488355328 := hn ▸ h.2.1
 rw [← hn] at h1 hp
 have HG : Hid (0 < zs.length → ∀ b, (Value.slice a zs.length c).ownBlock = some b → b ≠ N) := hg
 have H1 : Hid (w.cell? ⟨Bb, 0, none⟩ = some (.slice a n c)) := h1
 have H0 : Hid (w.cell? ⟨N, 0, none⟩ = some (.int .i64 p)) := h0
 have HFZ : Hid (w.frozen? ⟨N, 0, none⟩ = false) := hf
 clear h hc hlt hn hcap hg h1 h0 hf
 go_enter Tryz.func130, Tryz.ntmps130
 go_wp2_with fail
 go_loopw [4, 5] (fun r t wr => ∃ i m : Nat, i ≤ 9 ∧ p + i ≤ n ∧ t = .int .i64 ((7 * i : Nat) : Int) ∧ r = .int .u64 (m : Nat) ∧ m < 2 ^ (7 * i) ∧ rd zs p i m = rd zs p 0 0 ∧ wr.cell? ⟨N, 0, none⟩ = some (.int .i64 ((p + i : Nat) : Int)) ∧ wr.frozen? ⟨N, 0, none⟩ = false ∧ Only (fun i => i = N) w wr) (fun _ t _ => 63 - (intOf t).toNat)
 case atStart => exact ⟨0, 0, by omega, by omega, rfl, rfl, by decide, rfl, H0.out, HFZ.out, Only.refl _ _⟩
 case round =>
  obtain ⟨i, m, hi, hpi, rfl, rfl, hm, hrd, hcN, hfN, ho⟩ := hrel
  obtain ⟨w2, rfl⟩ : ∃ w2, w2 = wr := ⟨_, rfl⟩
  have HRD : Hid (rd zs p i m = rd zs p 0 0) := hrd
  have HO : Hid (Only (fun i => i = N) w w2) := ho
  have hcB := ho.cell H1.out (by simpa using hN)
  have HCN : Hid (w2.cell? ⟨N, 0, none⟩ = some (.int .i64 ((p + i : Nat) : Int))) := hcN
  have HFN : Hid (w2.frozen? ⟨N, 0, none⟩ = false) := hfN
  have HMM : Hid (m < 2 ^ (7 * i)) := hm
  obtain ⟨s, hs⟩ : ∃ s, s = 7 * i := ⟨_, rfl⟩
  obtain ⟨k, hk⟩ : ∃ k, k = p + i := ⟨_, rfl⟩
  rw [← hs]
  rw [← hk] at hcN
  have HS : Hid (s = 7 * i) := hs
  have HK : Hid (k = p + i) := hk
  by_cases hi9 : i < 9
  ·have s0 : (0 : Int) ≤ (s : Int) := by omega
   have s1 : (s : Int) < 63 := by omega
   by_cases hz : p + i < n
   ·obtain ⟨g, o, rfl, hcell⟩ := HC.out k (by have := HM.out; omega)
    have hgN : g ≠ N := HG.out (by have := HM.out; omega) g rfl
    have hcell2 := ho.cell hcell (by simpa using hgN)
    have hc8 := getD_lt HL.out k
    have hkz : zs.getD (p + i) 0 = zs.getD k 0 := by rw [hk]
    obtain ⟨z, hzz⟩ : ∃ z, z = zs.getD k 0 := ⟨_, rfl⟩
    rw [← hzz] at hc8 hcell2 hkz
    have T1 := take_more N Bb g o n c k z w2 (by omega) hn2 hcN hfN hcB hcell2 hN hgN
    have han := bandn8 z hc8
    have hst := step_lt (c := z) hm
    have hpw := pow_le (i := i + 1) (by omega)
    rw [← hs] at hst hm
    obtain ⟨e, he⟩ : ∃ e, e = z % 128 := ⟨_, rfl⟩
    have hbo := bor64 m e s hm (by rw [he]; omega)
    rw [← he] at han hst
    obtain ⟨d, hd⟩ : ∃ d, d = e * 2 ^ s := ⟨_, rfl⟩
    rw [← hd] at hbo hst
    have he8 : e < 128 := by omega
    have hd2 : (e : Int) * 2 ^ s = (d : Int) := by rw [hd]; simp
    have hdlt : d < 9223372036854775808 := by omega
    have hwr : IntKind.u64.wrap (d : Int) = (d : Int) := by simp [IntKind.wrap, IntKind.bits, IntKind.signed]; omega
    have HD : Hid (m + z % 128 * 2 ^ (7 * i) = m + d) := (by rw [hd, he, hs] : m + z % 128 * 2 ^ (7 * i) = m + d)
    have HO2 : Hid (Only (fun i => i = N) w (w2.setCell ⟨N, 0, none⟩ (.int .i64 ((k : Int) + 1)))) := ho.setCell _ _ (fun _ => rfl)
    have HC2 : Hid ((w2.setCell ⟨N, 0, none⟩ (.int .i64 ((k : Int) + 1))).cell? ⟨N, 0, none⟩ = some (.int .i64 ((k : Int) + 1))) := World.cell?_setCell_same _ _ _ hcN
    have HF2 : Hid ((w2.setCell ⟨N, 0, none⟩ (.int .i64 ((k : Int) + 1))).frozen? ⟨N, 0, none⟩ = false) := (frozen_set _ _ _ _).trans hfN
    have HST : Hid (m + d < 2 ^ (7 * (i + 1))) := hst
    have HKZ : Hid (zs.getD (p + i) 0 = z) := hkz
    clear hcell hcell2 hcB hcN hfN ho hrd hzz hd he hst hs hk hkz hpw hm
    by_cases hc1 : z < 128
    ·have z1 : (z : Int) < 128 := by omega
     have HL : Hid _ := rd_last (n := m) hi9 (HM.out ▸ hz) HKZ.out hc1
     by_cases hz0 : z = 0
     ·have zz : ((z : Int) != 0) = false := by simp [hz0]
      have HZ0 : Hid (z = 0) := hz0
      clear hz0
      by_cases hi0 : i = 0
      ·have ss : ((s : Int) == 0) = true := by have := HS.out; simp; omega
       have HI0 : Hid (i = 0) := hi0
       clear hi0
       go_wp2_with (go_at_call 131; refine T1.mono ?_; rintro e' w3 ⟨rfl, rfl⟩)
       go_ret2
       refine ⟨.inl ⟨m + d, p + i + 1, ?_, rfl, ?_⟩, HF2.out, HO2.out⟩
       ·rw [← HRD.out, HL.out, if_neg (by have := HI0.out; omega), HD.out]
       ·rw [HC2.out, HK.out]; rfl
      ·have ss : ((s : Int) == 0) = false := by have := HS.out; simp; omega
       go_wp2_with (go_at_call 131; refine T1.mono ?_; rintro e' w3 ⟨rfl, rfl⟩)
       go_ret2
       refine ⟨.inr ⟨_, _, ?_, rfl, HC2.out⟩, HF2.out, HO2.out⟩
       rw [← HRD.out, HL.out, if_pos ⟨HZ0.out, by omega⟩]
     ·have zz : ((z : Int) != 0) = true := by simp [hz0]
      go_wp2_with (go_at_call 131; refine T1.mono ?_; rintro e' w3 ⟨rfl, rfl⟩)
      go_ret2
      refine ⟨.inl ⟨m + d, p + i + 1, ?_, rfl, ?_⟩, HF2.out, HO2.out⟩
      ·rw [← HRD.out, HL.out, if_neg (by omega), HD.out]
      ·rw [HC2.out, HK.out]; rfl
    ·have z1 : ¬ (z : Int) < 128 := by omega
     go_wp2_with (go_at_call 131; refine T1.mono ?_; rintro e' w3 ⟨rfl, rfl⟩)
     go_roundw
     case rel =>
      refine ⟨i + 1, m + d, by omega, by omega, ?_, rfl, HST.out, ?_, ?_, HF2.out, HO2.out⟩
      ·have := HS.out
       rw [this]
       go_num
      ·rw [← HRD.out, rd_more hi9 (HM.out ▸ hz) HKZ.out hc1, HD.out]
      ·rw [HC2.out, HK.out]; rfl
     case measure => simp [intOf]; have := HS.out; omega
   ·obtain rfl : k = n := by omega
    have T0 := take_end N Bb a k c w2 hcN hcB
    clear hcB hcN hfN ho hrd hs hk hm
    go_wp2_with (go_at_call 131; refine T0.mono ?_; rintro e' w3 ⟨rfl, rfl⟩)
    go_ret2
    refine ⟨.inr ⟨_, _, ?_, rfl, HCN.out⟩, HFN.out, HO.out⟩
    rw [← HRD.out, rd_end hi9 (by have := HM.out; omega)]
  ·obtain rfl : i = 9 := by omega
   obtain rfl : s = 63 := by omega
   clear hcB hcN hfN ho hrd hs hk hm
   go_wp2
   go_ret2
   refine ⟨.inr ⟨_, _, ?_, rfl, HCN.out⟩, HFN.out, HO.out⟩
   rw [← HRD.out, rd_nine (by omega)]
def layB (x k : Nat) : List Nat := (List.range k).map fun j => x / 2 ^ (8 * j) % 256
theorem layB_length (x k : Nat) : (layB x k).length = k := by simp [layB]
theorem layB_lt (x k : Nat) : ∀ z ∈ layB x k, z < 256 := by
 intro z hz
 simp only [layB, List.mem_map] at hz
 obtain ⟨j, _, rfl⟩ := hz
 exact Nat.mod_lt _ (by omega)
theorem layB_succ (x k : Nat) : layB x (k + 1) = layB x k ++ [x / 2 ^ (8 * k) % 256] := by simp [layB, List.range_succ]
theorem Blk.set {w : World} {g : Nat} {zs : List Nat} (h : Blk w g zs) (i q : Nat) (hq : q < 256) : Blk (w.setCell ⟨g, i, none⟩ (.int .u8 (q : Nat))) g (zs.set i q) := by
 refine ⟨?_, by rw [List.length_set]; exact h.2.1, fun z hz => ?_⟩
 ·rw [heap_setCell_same w g i _ _ _ h.1]
  congr 2
  simp [BL, List.map_set]
 ·rcases List.mem_or_eq_of_mem_set hz with hz | rfl
  ·exact h.2.2 z hz
  ·exact hq
theorem splice_snoc (zs ys : List Nat) (o q : Nat) (h : o + ys.length < zs.length) : (splice zs o ys).set (o + ys.length) q = splice zs o (ys ++ [q]) := by
 have e1 : (zs.take o).length = o := by rw [List.length_take]; omega
 have e2 : zs.drop (o + ys.length) = zs.getD (o + ys.length) 0 :: zs.drop (o + (ys ++ [q]).length) := by
  rw [List.drop_eq_getElem_cons h]
  simp [List.getD, h, Nat.add_assoc]
 unfold splice
 rw [e2, List.set_append_right _ _ (by omega), List.set_append_right _ _ (by omega), e1]
 simp
theorem splice_nil (zs : List Nat) (o : Nat) : splice zs o [] = zs := by simp [splice]
theorem slay_any (g o k c x : Nat) (zs : List Nat) (w : World) (h : Blk w g zs) (hp : o + k ≤ zs.length) (hk : k ≤ 8) (hx : x < 18446744073709551616) :
  Calls Tryz.prog 66 #[.slice (some ⟨g, o, none⟩) k c, .int .u64 x] w fun e w' => e = .returned (.tuple #[]) ∧ Blk w' g (splice zs o (layB x k)) ∧ Only (fun i => i = g) w w' ∧ w'.heap.size = w.heap.size := by
 have HP : Hid (Blk w g zs) := h
 go_enter Tryz.func66, Tryz.ntmps66
 clear h
 go_wp2
 go_loopw [7] (fun t wr => ∃ j : Nat, j ≤ k ∧ t = .int .i64 j ∧ Blk wr g (splice zs o (layB x j)) ∧ Only (fun i => i = g) w wr ∧ wr.heap.size = w.heap.size) (fun t _ => k - (intOf t).toNat)
 case atStart => exact ⟨0, by omega, rfl, by rw [show layB x 0 = [] from rfl, splice_nil]; exact HP.out, Only.refl _ _, rfl⟩
 case round =>
  obtain ⟨j, hj, rfl, hb, ho, hsz⟩ := hrel
  obtain ⟨w2, rfl⟩ : ∃ w2, w2 = wr := ⟨_, rfl⟩
  have HO : Hid (Only (fun i => i = g) w w2) := ho
  have HB : Hid (Blk w2 g (splice zs o (layB x j))) := hb
  have HS : Hid (w2.heap.size = w.heap.size) := hsz
  clear HP hb ho hsz
  by_cases hlt : j < k
  ·have k1 : (j : Int) < k := by omega
   have k0 : (0 : Int) ≤ (j : Int) := by omega
   have hm8 : IntKind.i64.wrap (8 * (j : Int)) = 8 * (j : Int) := by rw [IntKind.wrap_i64]; omega
   obtain ⟨s, hs⟩ : ∃ s, s = 8 * j := ⟨_, rfl⟩
   have hs8 : 8 * (j : Int) = (s : Int) := by omega
   rw [hs8] at hm8
   have s1 : (s : Int) < 64 := by omega
   have s0 : (0 : Int) ≤ (s : Int) := by omega
   have HT : Hid _ := layB_succ x j
   rw [← hs] at HT
   obtain ⟨y, hy⟩ : ∃ y, y = x / 2 ^ s := ⟨_, rfl⟩
   have hyi : (x : Int) / 2 ^ s = (y : Nat) := by rw [hy]; simp
   obtain ⟨q, hq⟩ : ∃ q, q = y % 256 := ⟨_, rfl⟩
   have hqi : (y : Int) % 256 = (q : Nat) := by omega
   have hq2 : q < 256 := by omega
   rw [← hy, ← hq] at HT
   have hl : (splice zs o (layB x j)).length = zs.length := length_splice _ _ _ (by rw [layB_length]; omega)
   have hc := HB.out.cell (o + j) (by rw [hl]; omega)
   have hf := HB.out.frozen (o + j)
   have HN : Hid (Blk (w2.setCell ⟨g, o + j, none⟩ (.int .u8 (q : Nat))) g (splice zs o (layB x (j + 1)))) := by
    have := HB.out.set (o + j) q hq2
    have e := splice_snoc zs (layB x j) o q (by rw [layB_length]; omega)
    rw [layB_length] at e
    rw [e, ← HT.out] at this
    exact this
   have HN2 : Hid (Only (fun i => i = g) w (w2.setCell ⟨g, o + j, none⟩ (.int .u8 (q : Nat)))) := HO.out.setCell _ _ (fun _ => rfl)
   have HS2 : Hid ((w2.setCell ⟨g, o + j, none⟩ (.int .u8 (q : Nat))).heap.size = w.heap.size) := (by rw [← HS.out]; simp [World.setCell] : _ = _)
   clear HB HO HS HT hl hy hq hs hj
   go_wp2
   go_roundw
   case rel => exact ⟨j + 1, by omega, by go_num, HN.out, HN2.out, HS2.out⟩
   case measure => simp [intOf]; omega
  ·have e : j = k := by omega
   subst e
   have k1 : ¬ (j : Int) < j := by omega
   go_wp2
   go_end0
   exact ⟨rfl, HB.out, HO.out, HS.out⟩
def nof (zs : List Nat) : Nat := acc4 zs 0 zs.length
theorem nof_lt {zs : List Nat} (h : ∀ z ∈ zs, z < 256) : nof zs < 2 ^ (8 * zs.length) := acc4_lt h 0 _
theorem snum_any (v : Value) (zs : List Nat) (w : World) (h : BytesAt w v zs) (h8 : zs.length ≤ 8) :
  Calls Tryz.prog 114 #[v] w fun e w' => e = .returned (.int .u64 (nof zs : Nat)) ∧ w' = w := by
 obtain ⟨a, c, rfl, hcap, hc⟩ := h.form
 have HL : Hid (∀ z ∈ zs, z < 256) := h.2.2
 have HC : Hid _ := hc
 obtain ⟨n, hn⟩ : ∃ m, m = zs.length := ⟨_, rfl⟩
 have HM : Hid (n = zs.length) := hn
 rw [← hn]
 rw [← hn] at h8
 clear h hc hn hcap
 go_enter Tryz.func114, Tryz.ntmps114
 go_wp2
 go_loopw [3, 8] (fun r t wr => ∃ k : Nat, k ≤ n ∧ t = .int .i64 k ∧ r = .int .u64 (acc4 zs 0 k : Nat) ∧ w = wr) (fun _ t _ => n - (intOf t).toNat)
 case atStart => exact ⟨0, by omega, rfl, rfl, rfl⟩
 case round =>
  obtain ⟨k, hk, rfl, rfl, rfl⟩ := hrel
  by_cases hlt : k < n
  ·have k1 : (k : Int) < (n : Int) := by omega
   have k0 : (0 : Int) ≤ (k : Int) := by omega
   have hm8 : IntKind.i64.wrap (8 * (k : Int)) = 8 * (k : Int) := by rw [IntKind.wrap_i64]; omega
   obtain ⟨s, hs⟩ : ∃ s, s = 8 * k := ⟨_, rfl⟩
   have hs8 : 8 * (k : Int) = (s : Int) := by omega
   rw [hs8] at hm8
   have HS8 : Hid (8 * (k : Int) = (s : Int)) := hs8
   have s1 : (s : Int) < 64 := by omega
   have s0 : (0 : Int) ≤ (s : Int) := by omega
   obtain ⟨g, o, rfl, hcell⟩ := HC.out k (by have := HM.out; omega)
   have hx := acc4_lt HL.out 0 k
   have hx1 := acc4_lt HL.out 0 (k + 1)
   have hpw : 2 ^ (8 * (k + 1)) ≤ 18446744073709551616 := Nat.le_trans (Nat.pow_le_pow_right (by omega) (show 8 * (k + 1) ≤ 64 by omega)) (by decide)
   have HS : Hid (acc4 zs 0 (k + 1) = acc4 zs 0 k + zs.getD (0 + k) 0 * 2 ^ (8 * k)) := rfl
   rw [HS.out] at hx1
   have hz := getD_lt HL.out (0 + k)
   rw [← hs] at hx hx1 HS
   rw [Nat.zero_add] at hz HS hx1
   obtain ⟨x, hxx⟩ : ∃ x, x = acc4 zs 0 k := ⟨_, rfl⟩
   obtain ⟨z, hzz⟩ : ∃ z, z = zs.getD k 0 := ⟨_, rfl⟩
   rw [← hxx, ← hzz] at HS hx1
   rw [← hxx] at hx
   rw [← hzz] at hz hcell
   rw [← hxx]
   have hb := bor64 x z s hx (by omega)
   obtain ⟨d, hd⟩ : ∃ d, d = z * 2 ^ s := ⟨_, rfl⟩
   rw [← hd] at hb HS hx1
   have hd2 : (z : Int) * 2 ^ s = (d : Int) := by rw [hd]; simp
   have hdl : d < 18446744073709551616 := by omega
   have hwr : IntKind.u64.wrap (d : Int) = (d : Int) := by rw [IntKind.wrap_u64]; omega
   clear hxx hzz hd hpw hx hx1 hs
   go_wp2
   go_roundw
   case rel => exact ⟨k + 1, by omega, by go_num, by rw [HS.out]; simp, trivial⟩
   case measure => simp [intOf]; omega
  ·obtain rfl : k = n := by omega
   go_wp2
   go_ret
   exact ⟨by unfold nof; rw [← HM.out]; rfl, rfl⟩
def secL (f : Nat → Int) : List Value := (List.range 32).map fun j => .int .u8 (f j)
def wrL (s : Int) (f g : Nat → Int) : List Value := .int .i64 s :: (secL f ++ secL g)
theorem secL_length (f : Nat → Int) : (secL f).length = 32 := by simp [secL]
theorem wrL_length (s : Int) (f g : Nat → Int) : (wrL s f g).length = 65 := by simp [wrL, secL_length]
theorem secL_one (f : Nat → Int) : ∀ v ∈ secL f, v.oneCell' = true := by
 intro v hv
 simp only [secL, List.mem_map] at hv
 obtain ⟨j, _, rfl⟩ := hv
 rfl
theorem wrL_one (s : Int) (f g : Nat → Int) : ∀ v ∈ wrL s f g, v.oneCell' = true := by
 intro v hv
 simp only [wrL, List.mem_cons, List.mem_append] at hv
 rcases hv with rfl | hv | hv
 ·rfl
 ·exact secL_one f v hv
 ·exact secL_one g v hv
theorem secL_get (f : Nat → Int) (j : Nat) (h : j < 32) : (secL f)[j]? = some (.int .u8 (f j)) := by simp [secL, h]
structure Wr where
 at_ : Nat
 bef : Nat → Int
 aft : Nat → Int
structure DS where
 n : Nat
 sec : Nat → Nat → Int
 pend : List Wr
 life : Int
def Wr.cells (x : Wr) : List Value := wrL x.at_ x.bef x.aft
def wrsL (l : List Wr) : List Value := l.flatMap Wr.cells
theorem wrsL_snoc (l : List Wr) (x : Wr) : wrsL (l ++ [x]) = wrsL l ++ x.cells := by simp [wrsL]
def upd (sec : Nat → Nat → Int) (k : Nat) (f : Nat → Int) : Nat → Nat → Int := fun i => if i = k then f else sec i
structure DiskAt (w : World) (B p S : Nat) (pv : Value) (d : DS) : Prop where
 pB : B ≤ p
 SB : B ≤ S
 pS : p ≠ S
 c0 : ∃ c, w.cell? ⟨p, 0, none⟩ = some (.slice (some ⟨S, 0, none⟩) d.n c)
 c1 : w.cell? ⟨p, 1, none⟩ = some pv
 c2 : w.cell? ⟨p, 2, none⟩ = some (.int .i64 d.life)
 f1 : w.frozen? ⟨p, 1, none⟩ = false
 f2 : w.frozen? ⟨p, 2, none⟩ = false
 secs : ∀ i, i < d.n → w.rangeAt S (i * 32) (secL (d.sec i)) ∧ w.there S (i * 32) 32
 own : w.ownsRow B 119 65 pv d.pend.length (wrsL d.pend)
 hp : pv.ownBlock ≠ some p
 hS : pv.ownBlock ≠ some S
 n1 : 1 ≤ d.n
 n2 : d.n ≤ 8192
 at_ : ∀ x ∈ d.pend, x.at_ < d.n
 l1 : -1 ≤ d.life
 l2 : d.life ≤ 9223372036854775807
def diskB (p S : Nat) (pv : Value) : Nat → Prop := fun k => k = p ∨ k = S ∨ pv.ownBlock = some k
theorem DiskAt.frame {w w' : World} {B p S : Nat} {pv : Value} {d : DS} {bs : Nat → Prop} (h : DiskAt w B p S pv d) (ho : Only bs w w') (hn : ∀ k, diskB p S pv k → ¬ bs k) : DiskAt w' B p S pv d := by
 obtain ⟨c, hc⟩ := h.c0
 have np := hn p (.inl rfl)
 have nS := hn S (.inr (.inl rfl))
 exact { pB := h.pB, SB := h.SB, pS := h.pS, c0 := ⟨c, ho.cell hc np⟩, c1 := ho.cell h.c1 np, c2 := ho.cell h.c2 np,
         f1 := (ho.frozen (World.block_lt_of_cell? w _ h.c1) np).trans h.f1, f2 := (ho.frozen (World.block_lt_of_cell? w _ h.c2) np).trans h.f2,
         secs := fun i hi => ⟨ho.range (h.secs i hi).1 nS, ho.there (h.secs i hi).2 nS⟩,
         own := ho.owns h.own (fun k hk => hn k (.inr (.inr hk))), hp := h.hp, hS := h.hS, n1 := h.n1, n2 := h.n2, at_ := h.at_, l1 := h.l1, l2 := h.l2 }
theorem DiskAt.lt {w : World} {B p S : Nat} {pv : Value} {d : DS} (h : DiskAt w B p S pv d) : ∀ k, diskB p S pv k → B ≤ k ∧ k < w.heap.size := by
 intro k hk
 rcases hk with rfl | rfl | hk
 ·exact ⟨h.pB, World.block_lt_of_cell? w _ h.c1⟩
 ·refine ⟨h.SB, ?_⟩
  have h0 := (h.secs 0 h.n1).1 0 _ (secL_get _ 0 (by omega))
  exact World.block_lt_of_cell? w _ h0
 ·exact h.own.lt k hk
theorem build_wr (s : Int) (f g : Nat → Int) (w : World) : (Instr.build 119 #[(0, .int .i64 s), (1, .agg (secL f).toArray), (2, .agg (secL g).toArray)]).run Tryz.prog w = .ok (.agg (wrL s f g).toArray) w := by kernel_rfl
theorem size68 : (Tryz.prog.info? 67).map (·.size) = some 32 := by kernel_rfl
theorem size71 : (Tryz.prog.info? 119).map (·.size) = some 65 := by kernel_rfl
theorem reach_dead (p : Nat) (k : Int) (w : World) (h2 : w.cell? ⟨p, 2, none⟩ = some (.int .i64 0)) :
  Calls Tryz.prog 27 #[.pointer (some ⟨p, 0, none⟩), .int .i64 k] w fun e w' => e = .returned (.int .i64 3) ∧ w' = w := by
 go_enter Tryz.func27, Tryz.ntmps27
 go_wp2
 go_ret
 exact ⟨rfl, rfl⟩
theorem reach_out (p S n c : Nat) (l : Int) (k : Int) (w : World) (h0 : w.cell? ⟨p, 0, none⟩ = some (.slice (some ⟨S, 0, none⟩) n c)) (h2 : w.cell? ⟨p, 2, none⟩ = some (.int .i64 l)) (hl : (l == 0) = false) (hk : k < 0 ∨ n ≤ k) :
  Calls Tryz.prog 27 #[.pointer (some ⟨p, 0, none⟩), .int .i64 k] w fun e w' => e = .returned (.int .i64 4) ∧ w' = w := by
 rcases hk with hk | hk
 ·go_enter Tryz.func27, Tryz.ntmps27
  go_wp2
  go_ret
  exact ⟨rfl, rfl⟩
 ·have hk' : ¬ k < 0 := by omega
  go_enter Tryz.func27, Tryz.ntmps27
  go_wp2
  go_ret
  exact ⟨rfl, rfl⟩
theorem reach_ok (p S n c : Nat) (l : Int) (k : Int) (w : World) (h0 : w.cell? ⟨p, 0, none⟩ = some (.slice (some ⟨S, 0, none⟩) n c)) (h2 : w.cell? ⟨p, 2, none⟩ = some (.int .i64 l)) (hl : (l == 0) = false) (hk : 0 ≤ k) (hk2 : k < n) :
  Calls Tryz.prog 27 #[.pointer (some ⟨p, 0, none⟩), .int .i64 k] w fun e w' => e = .returned (.int .i64 0) ∧ w' = w := by
 go_enter Tryz.func27, Tryz.ntmps27
 go_wp2
 go_ret
 exact ⟨rfl, rfl⟩
theorem age_end (p : Nat) (w : World) (h2 : w.cell? ⟨p, 2, none⟩ = some (.int .i64 (-1))) :
  Calls Tryz.prog 70 #[.pointer (some ⟨p, 0, none⟩)] w fun e w' => e = .returned (.tuple #[]) ∧ w' = w := by
 go_enter Tryz.func70, Tryz.ntmps70
 go_wp2
 go_end0
 exact ⟨rfl, rfl⟩
theorem age_less (p : Nat) (l : Int) (w : World) (h2 : w.cell? ⟨p, 2, none⟩ = some (.int .i64 l)) (hf : w.frozen? ⟨p, 2, none⟩ = false) (hl : 0 ≤ l) (hl2 : l ≤ 9223372036854775807) :
  Calls Tryz.prog 70 #[.pointer (some ⟨p, 0, none⟩)] w fun e w' => e = .returned (.tuple #[]) ∧ w' = w.setCell ⟨p, 2, none⟩ (.int .i64 (l - 1)) := by
 have hl3 : (l == -1) = false := by simp; omega
 go_enter Tryz.func70, Tryz.ntmps70
 go_wp2
 go_end0
 exact ⟨rfl, rfl⟩
theorem len_any (p S n c : Nat) (w : World) (h0 : w.cell? ⟨p, 0, none⟩ = some (.slice (some ⟨S, 0, none⟩) n c)) :
  Calls Tryz.prog 64 #[.pointer (some ⟨p, 0, none⟩)] w fun e w' => e = .returned (.int .i64 n) ∧ w' = w := by
 go_enter Tryz.func64, Tryz.ntmps64
 go_wp2
 go_ret
 exact ⟨rfl, rfl⟩
theorem pending_any (p : Nat) (a : Option Addr) (m c : Nat) (w : World) (h0 : w.cell? ⟨p, 1, none⟩ = some (.slice a m c)) :
  Calls Tryz.prog 22 #[.pointer (some ⟨p, 0, none⟩)] w fun e w' => e = .returned (.int .i64 m) ∧ w' = w := by
 go_enter Tryz.func22, Tryz.ntmps22
 go_wp2
 go_ret
 exact ⟨rfl, rfl⟩
theorem live_bad (p : Nat) (n : Int) (w : World) (hn : n < -1) :
  Calls Tryz.prog 38 #[.pointer (some ⟨p, 0, none⟩), .int .i64 n] w fun e w' => e = .returned (.int .i64 2) ∧ w' = w := by
 go_enter Tryz.func38, Tryz.ntmps38
 go_wp2
 go_ret
 exact ⟨rfl, rfl⟩
theorem live_ok (p : Nat) (v : Value) (n : Int) (w : World) (hn : -1 ≤ n) (h2 : w.cell? ⟨p, 2, none⟩ = some v) (hf : w.frozen? ⟨p, 2, none⟩ = false) :
  Calls Tryz.prog 38 #[.pointer (some ⟨p, 0, none⟩), .int .i64 n] w fun e w' => e = .returned (.int .i64 0) ∧ w' = w.setCell ⟨p, 2, none⟩ (.int .i64 n) := by
 have hn' : ¬ n < -1 := by omega
 go_enter Tryz.func38, Tryz.ntmps38
 go_wp2
 go_ret
 exact ⟨rfl, rfl⟩
theorem barrier_dead (p : Nat) (w : World) (h2 : w.cell? ⟨p, 2, none⟩ = some (.int .i64 0)) :
  Calls Tryz.prog 65 #[.pointer (some ⟨p, 0, none⟩)] w fun e w' => e = .returned (.int .i64 3) ∧ w' = w := by
 go_enter Tryz.func65, Tryz.ntmps65
 go_wp2
 go_ret
 exact ⟨rfl, rfl⟩
theorem barrier_end (p : Nat) (v : Value) (w : World) (h1 : w.cell? ⟨p, 1, none⟩ = some v) (hf1 : w.frozen? ⟨p, 1, none⟩ = false) (h2 : w.cell? ⟨p, 2, none⟩ = some (.int .i64 (-1))) :
  Calls Tryz.prog 65 #[.pointer (some ⟨p, 0, none⟩)] w fun e w' => e = .returned (.int .i64 0) ∧ w' = w.setCell ⟨p, 1, none⟩ (.slice none 0 0) := by
 go_enter Tryz.func65, Tryz.ntmps65
 go_wp2
 go_end0
 go_wp2
 go_ret
 exact ⟨rfl, rfl⟩
theorem barrier_less (p : Nat) (v : Value) (l : Int) (w : World) (h1 : w.cell? ⟨p, 1, none⟩ = some v) (hf1 : w.frozen? ⟨p, 1, none⟩ = false) (h2 : w.cell? ⟨p, 2, none⟩ = some (.int .i64 l)) (hf2 : w.frozen? ⟨p, 2, none⟩ = false) (hl : 0 < l) (hl2 : l ≤ 9223372036854775807) :
  Calls Tryz.prog 65 #[.pointer (some ⟨p, 0, none⟩)] w fun e w' => e = .returned (.int .i64 0) ∧ w' = (w.setCell ⟨p, 1, none⟩ (.slice none 0 0)).setCell ⟨p, 2, none⟩ (.int .i64 (l - 1)) := by
 have hl3 : (l == -1) = false := by simp; omega
 have hl4 : (l == 0) = false := by simp; omega
 go_enter Tryz.func65, Tryz.ntmps65
 go_wp2
 go_end0
 go_wp2
 go_ret
 exact ⟨rfl, rfl⟩
section
variable {P : Program} {ops : Array Oper} {op : Oper} {a : Act} {w w' : World} {K : Act → World → Prop} {Q : Exit → Act → World → Prop}
theorem wp_value {s : Sem Value} {v : Value} (ho : execOp a.eval op = (do pure (.value (← s)))) (h : s.run P w = .ok v w') (hk : K (a.put op.dst v) w') : op.wp P a w K Q := by
 unfold Oper.wp
 simp only [ho, Sem.run_bind, h, Result.andThen_ok, Sem.run_pure, Oper.upon]
 exact hk
theorem wp_unit {s : Sem Unit} (ho : execOp a.eval op = (do s; pure .skip)) (h : s.run P w = .ok () w') (hk : K (a.put op.dst undef) w') : op.wp P a w K Q := by
 unfold Oper.wp
 simp only [ho, Sem.run_bind, h, Result.andThen_ok, Sem.run_pure, Oper.upon]
 exact hk
theorem yields_value {S : World → Prop} {s : Sem Value} {v : Value} (hw : Region.wanted op (yielded ops a.tmps) = true) (ho : execOp a.eval op = (do pure (.value (← s)))) (h : ∀ w, S w → s.run P w = .ok v w) : YieldsIf P ops S op v a :=
 .inl ⟨hw, fun w hS => by simp only [ho, Sem.run_bind, h w hS, Result.andThen_ok, Sem.run_pure]⟩
theorem wpList_value {rest : List Oper} {s : Sem Value} {v : Value} (hgd : op.guard = none) (ho : execOp a.eval op = (do pure (.value (← s)))) (h : s.run P w = .ok v w') (hk : wpList P ops Q rest (a.put op.dst v) w') : wpList P ops Q (op :: rest) a w :=
 wpList_plain hgd fun _ hK => wp_value ho h (hK _ _ hk)
theorem wpList_storeNew {rest : List Oper} (hgd : op.guard = none) (ty : TypeId) (x y : Operand) (ho : op.op = .store ty x y)
  (w0 : World) (c cells : Array Value) (hx : a.eval x = .pointer (some ⟨w0.heap.size, 0, none⟩)) (hy : a.eval y = .agg cells)
  (hi : (P.info? ty).map (·.size) = some cells.size) (hs : c.size = cells.size) (h1 : cells.all (·.oneCell') = true)
  (h : wpList P ops Q rest (a.put op.dst undef) (w0.alloc (.cells cells ty))) : wpList P ops Q (op :: rest) a (w0.alloc (.cells c ty)) :=
 wpList_plain hgd fun _ hK => by
  unfold Oper.wp execOp
  simp only [ho, hx, hy, Sem.run_bind, Sem.run_pure, run_storeAt_new w0 ty c cells hi hs h1, Result.andThen_ok]
  exact hK _ _ h
end
theorem read_ok (p S n c k : Nat) (l : Int) (cs : List Value) (w : World) (h0 : w.cell? ⟨p, 0, none⟩ = some (.slice (some ⟨S, 0, none⟩) n c)) (h2 : w.cell? ⟨p, 2, none⟩ = some (.int .i64 l)) (hl : (l == 0) = false) (hk2 : (k : Int) < n)
  (hcs : cs.length = 32) (h1 : ∀ v ∈ cs, v.oneCell' = true) (hr : w.rangeAt S (k * 32) cs) :
  Calls Tryz.prog 8 #[.pointer (some ⟨p, 0, none⟩), .int .i64 k] w fun e w' => e = .returned (.tuple #[.slice (some ⟨w.heap.size, 0, none⟩) 32 32, .int .i64 0]) ∧ w' = w.alloc (.cells cs.toArray 67) := by
 have hk : (0 : Int) ≤ (k : Int) := Int.natCast_nonneg _
 have hi : (Tryz.prog.info? 67).map (·.size) = some cs.length := by rw [size68, hcs]
 have hi2 : (Tryz.prog.info? 67).map (·.size) = some cs.toArray.size := by rw [size68]; simp [hcs]
 have hall := all_oneCell_toArray h1
 go_enter Tryz.func8, Tryz.ntmps8
 go_wp2_with (first | (go_at_call 27; refine (reach_ok p S n c l k _ ‹_› ‹_› hl hk hk2).mono ?_; rintro e w' ⟨rfl, rfl⟩) | (refine wpList_load_mid rfl 67 _ rfl S (k * 32) rfl cs _ hr Tryz.underlying67 rfl hi ?_) | (refine wpList_storeNew rfl 67 _ _ rfl _ _ cs.toArray rfl rfl hi2 (by simp [hcs]) hall ?_))
 go_ret2
 exact ⟨rfl, rfl⟩
end Go.Proofs.YtlcglapcmdpkfaaGreat
