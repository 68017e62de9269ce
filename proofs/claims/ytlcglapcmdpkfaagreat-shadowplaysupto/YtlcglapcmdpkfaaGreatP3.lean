import Derived.Test.YtlcglapcmdpkfaaGreatP2
namespace Go.Proofs.YtlcglapcmdpkfaaGreat
open Go.RowKit
set_option linter.unusedSimpArgs false
set_option linter.unusedVariables false
theorem bor32 (m e s : Nat) (hm : m < 2 ^ s) (hb : m + e * 2 ^ s < 4294967296) : bits .or .u32 (m : Int) ((e * 2 ^ s : Nat) : Int) = ((m + e * 2 ^ s : Nat) : Int) := by
 have e1 : m % 2 ^ IntKind.u32.bits = m := Nat.mod_eq_of_lt (show m < 4294967296 by omega)
 have e2 : (e * 2 ^ s) % 2 ^ IntKind.u32.bits = e * 2 ^ s := Nat.mod_eq_of_lt (show e * 2 ^ s < 4294967296 by omega)
 simp only [bits, BitVec.ofInt_natCast, BitVec.toNat_or, BitVec.toNat_ofNat, e1, e2]
 rw [Nat.or_comm, Nat.mul_comm e, ← Nat.two_pow_add_eq_or_of_lt hm, Nat.add_comm, IntKind.wrap_u32, Nat.mul_comm (2 ^ s)]
 omega
def acc4 (zs : List Nat) (p : Nat) : Nat → Nat
 | 0 => 0
 | k + 1 => acc4 zs p k + zs.getD (p + k) 0 * 2 ^ (8 * k)
theorem acc4_lt {zs : List Nat} (h : ∀ z ∈ zs, z < 256) (p : Nat) : ∀ k, acc4 zs p k < 2 ^ (8 * k)
 | 0 => by simp [acc4]
 | k + 1 => by
   have h1 := acc4_lt h p k
   have h2 := getD_lt h (p + k)
   have h3 : zs.getD (p + k) 0 * 2 ^ (8 * k) ≤ 255 * 2 ^ (8 * k) := Nat.mul_le_mul_right _ (by omega)
   have h4 : 2 ^ (8 * (k + 1)) = 256 * 2 ^ (8 * k) := by rw [show 8 * (k + 1) = 8 * k + 8 by omega, Nat.pow_add]; omega
   simp only [acc4]
   omega
theorem acc4_four (zs : List Nat) (p : Nat) : acc4 zs p 4 = val4 zs p := by
 simp only [acc4, val4, Nat.add_zero]
 omega
set_option maxRecDepth 100000 in
set_option maxHeartbeats 1000000 in
theorem numat_any (v : Value) (zs : List Nat) (p : Nat) (w : World) (h : BytesAt w v zs) (hp : p + 4 ≤ zs.length) :
  Calls Tryz.prog 148 #[v, .int .i64 p] w fun e w' => e = .returned (.int .u32 (val4 zs p : Nat)) ∧ w' = w := by
 obtain ⟨a, c, rfl, hcap, hc⟩ := h.form
 have HL : Hid (∀ z ∈ zs, z < 256) := h.2.2
 have HC : Hid _ := hc
 obtain ⟨n, hn⟩ : ∃ m, m = zs.length := ⟨_, rfl⟩
 have HM : Hid (n = zs.length) := hn
 have hn2 : n ≤ 140737488355328 := hn ▸ h.2.1
 rw [← hn]
 rw [← hn] at hp
 clear h hc hn hcap
 go_enter Tryz.func148, Tryz.ntmps148
 go_wp2
 go_loopw [5, 7] (fun r t wr => ∃ k : Nat, k ≤ 4 ∧ t = .int .i64 k ∧ r = .int .u32 (acc4 zs p k : Nat) ∧ w = wr) (fun _ t _ => 4 - (intOf t).toNat)
 case atStart => exact ⟨0, by omega, rfl, rfl, rfl⟩
 case round =>
  obtain ⟨k, hk, rfl, rfl, rfl⟩ := hrel
  by_cases hlt : k < 4
  ·have k1 : (k : Int) < 4 := by omega
   have hwp : IntKind.i64.wrap ((p : Int) + (k : Int)) = (p : Int) + (k : Int) := by rw [IntKind.wrap_i64]; omega
   have hz2 : (p : Int) + (k : Int) < (n : Int) := by omega
   have hz3 : (0 : Int) ≤ (p : Int) + (k : Int) := by omega
   have htn : ((p : Int) + (k : Int)).toNat = p + k := by omega
   have hm8 : IntKind.i64.wrap (8 * (k : Int)) = 8 * (k : Int) := by rw [IntKind.wrap_i64]; omega
   obtain ⟨s, hs⟩ : ∃ s, s = 8 * k := ⟨_, rfl⟩
   have hs8 : 8 * (k : Int) = (s : Int) := by omega
   rw [hs8] at hm8
   have HS8 : Hid (8 * (k : Int) = (s : Int)) := hs8
   have s1 : (s : Int) < 32 := by omega
   have s0 : (0 : Int) ≤ (s : Int) := by omega
   obtain ⟨g, o, rfl, hcell⟩ := HC.out (p + k) (by have := HM.out; omega)
   have hx := acc4_lt HL.out p k
   have hx1 := acc4_lt HL.out p (k + 1)
   have hpw : 2 ^ (8 * (k + 1)) ≤ 4294967296 := Nat.le_trans (Nat.pow_le_pow_right (by omega) (show 8 * (k + 1) ≤ 32 by omega)) (by decide)
   have HS : Hid (acc4 zs p (k + 1) = acc4 zs p k + zs.getD (p + k) 0 * 2 ^ (8 * k)) := rfl
   rw [HS.out] at hx1
   have hz := getD_lt HL.out (p + k)
   rw [← hs] at hx hx1 HS
   obtain ⟨x, hxx⟩ : ∃ x, x = acc4 zs p k := ⟨_, rfl⟩
   obtain ⟨z, hzz⟩ : ∃ z, z = zs.getD (p + k) 0 := ⟨_, rfl⟩
   rw [← hxx, ← hzz] at HS hx1
   rw [← hxx] at hx
   rw [← hzz] at hz hcell
   rw [← hxx]
   have hb := bor32 x z s hx (by omega)
   obtain ⟨d, hd⟩ : ∃ d, d = z * 2 ^ s := ⟨_, rfl⟩
   rw [← hd] at hb HS hx1
   have hd2 : (z : Int) * 2 ^ s = (d : Int) := by rw [hd]; simp
   have hdl : d < 4294967296 := by omega
   have hwr : IntKind.u32.wrap (d : Int) = (d : Int) := by rw [IntKind.wrap_u32]; omega
   clear hxx hzz hd hpw hx hx1 hs
   go_wp2
   go_roundw
   case rel => exact ⟨k + 1, by omega, by go_num, by rw [HS.out]; simp, trivial⟩
   case measure => simp [intOf]; omega
  ·obtain rfl : k = 4 := by omega
   go_wp2
   go_ret
   exact ⟨by rw [← acc4_four]; rfl, rfl⟩
theorem all_take (zs : List Nat) (k : Nat) (h : k < zs.length) : (zs.take (k + 1)).all (· == 0) = ((zs.take k).all (· == 0) && zs.getD k 0 == 0) := by
 rw [List.take_succ_eq_append_getElem h, List.all_append]
 simp [List.getD, h]
set_option maxRecDepth 100000 in
set_option maxHeartbeats 1000000 in
theorem allzero_any (v : Value) (zs : List Nat) (w : World) (h : BytesAt w v zs) :
  Calls Tryz.prog 149 #[v] w fun e w' => e = .returned (.bool (zs.all (· == 0))) ∧ w' = w := by
 obtain ⟨a, c, rfl, hcap, hc⟩ := h.form
 have HC : Hid _ := hc
 obtain ⟨n, hn⟩ : ∃ m, m = zs.length := ⟨_, rfl⟩
 have HM : Hid (n = zs.length) := hn
 have hn2 : n ≤ 140737488355328 := hn ▸ h.2.1
 rw [← hn]
 clear h hc hn hcap
 go_enter Tryz.func149, Tryz.ntmps149
 go_wp2
 go_loopw [7] (fun t wr => ∃ k : Nat, k ≤ n ∧ t = .int .i64 k ∧ (zs.take k).all (· == 0) = true ∧ w = wr) (fun t _ => n - (intOf t).toNat)
 case atStart => exact ⟨0, by omega, rfl, by simp, rfl⟩
 case round =>
  obtain ⟨k, hk, rfl, hal, rfl⟩ := hrel
  have HAL : Hid ((zs.take k).all (· == 0) = true) := hal
  clear hal
  by_cases hlt : k < n
  ·have k1 : (k : Int) < (n : Int) := by omega
   have k0 : (0 : Int) ≤ (k : Int) := by omega
   obtain ⟨g, o, rfl, hcell⟩ := HC.out k (by have := HM.out; omega)
   have HT : Hid _ := all_take zs k (by have := HM.out; omega)
   obtain ⟨z, hzz⟩ : ∃ z, z = zs.getD k 0 := ⟨_, rfl⟩
   rw [← hzz] at hcell HT
   by_cases hz0 : z = 0
   ·have zz : ((z : Int) != 0) = false := by simp [hz0]
    have HZ0 : Hid (z = 0) := hz0
    clear hz0 hzz
    go_wp2
    go_roundw
    case rel => exact ⟨k + 1, by omega, by go_num, by rw [HT.out, HAL.out, HZ0.out]; rfl, trivial⟩
    case measure => simp [intOf]; omega
   ·have zz : ((z : Int) != 0) = true := by simp [hz0]
    have HZ0 : Hid (zs.all (· == 0) = false) := by
     show _ = _
     have : ¬ zs.all (· == 0) = true := fun e => by
      have := List.all_eq_true.1 e (zs.getD k 0) (by
       have hk2 : k < zs.length := by have := HM.out; omega
       simp [List.getD, hk2])
      rw [← hzz] at this
      simp [hz0] at this
     simpa using this
    clear hz0 hzz
    go_wp2
    go_ret
    exact ⟨by rw [HZ0.out]; rfl, rfl⟩
  ·obtain rfl : k = n := by omega
   go_wp2
   go_ret
   refine ⟨?_, rfl⟩
   have := HAL.out
   rw [HM.out, List.take_length] at this
   rw [this]; rfl
end Go.Proofs.YtlcglapcmdpkfaaGreat
