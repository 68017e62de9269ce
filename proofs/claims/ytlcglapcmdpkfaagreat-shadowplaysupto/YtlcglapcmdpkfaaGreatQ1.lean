import Derived.Test.YtlcglapcmdpkfaaGreatP3
import Derived.Test.YtlcglapcmdpkfaaGreatN7
import Derived.Test.YtlcglapcmdpkfaaGreatL1
namespace Go.Proofs.YtlcglapcmdpkfaaGreat
open Go.RowKit
set_option linter.unusedSimpArgs false
set_option linter.unusedVariables false
def nof (zs : List Nat) : Nat := acc4 zs 0 zs.length
theorem nof_lt {zs : List Nat} (h : ∀ z ∈ zs, z < 256) : nof zs < 2 ^ (8 * zs.length) := acc4_lt h 0 _
set_option maxRecDepth 100000 in
set_option maxHeartbeats 1000000 in
theorem snum_any (v : Value) (zs : List Nat) (w : World) (h : BytesAt w v zs) (h8 : zs.length ≤ 8) :
  Calls Tryz.prog 114 #[v] w fun e w' => e = .returned (.int .u64 (nof zs : Nat)) ∧ w' = w := by
 obtain ⟨a, c, rfl, hcap, hc⟩ := h.form
 have HL : Hid (∀ z ∈ zs, z < 256) := h.2.2
 have HC : Hid _ := hc
 obtain ⟨n, hn⟩ : ∃ m, m = zs.length := ⟨_, rfl⟩
 have HM : Hid (n = zs.length) := hn
 rw [← hn]
 rw [← hn] at h8
 clear h hc hn hcap
 go_enter Tryz.func114, Tryz.ntmps114
 go_wp2
 go_loopw [3, 8] (fun r t wr => ∃ k : Nat, k ≤ n ∧ t = .int .i64 k ∧ r = .int .u64 (acc4 zs 0 k : Nat) ∧ w = wr) (fun _ t _ => n - (intOf t).toNat)
 case atStart => exact ⟨0, by omega, rfl, rfl, rfl⟩
 case round =>
  obtain ⟨k, hk, rfl, rfl, rfl⟩ := hrel
  by_cases hlt : k < n
  ·have k1 : (k : Int) < (n : Int) := by omega
   have k0 : (0 : Int) ≤ (k : Int) := by omega
   have hm8 : IntKind.i64.wrap (8 * (k : Int)) = 8 * (k : Int) := by rw [IntKind.wrap_i64]; omega
   obtain ⟨s, hs⟩ : ∃ s, s = 8 * k := ⟨_, rfl⟩
   have hs8 : 8 * (k : Int) = (s : Int) := by omega
   rw [hs8] at hm8
   have HS8 : Hid (8 * (k : Int) = (s : Int)) := hs8
   have s1 : (s : Int) < 64 := by omega
   have s0 : (0 : Int) ≤ (s : Int) := by omega
   obtain ⟨g, o, rfl, hcell⟩ := HC.out k (by have := HM.out; omega)
   have hx := acc4_lt HL.out 0 k
   have hx1 := acc4_lt HL.out 0 (k + 1)
   have hpw : 2 ^ (8 * (k + 1)) ≤ 18446744073709551616 := Nat.le_trans (Nat.pow_le_pow_right (by omega) (show 8 * (k + 1) ≤ 64 by omega)) (by decide)
   have HS : Hid (acc4 zs 0 (k + 1) = acc4 zs 0 k + zs.getD (0 + k) 0 * 2 ^ (8 * k)) := rfl
   rw [HS.out] at hx1
   have hz := getD_lt HL.out (0 + k)
   rw [← hs] at hx hx1 HS
   rw [Nat.zero_add] at hz HS hx1
   obtain ⟨x, hxx⟩ : ∃ x, x = acc4 zs 0 k := ⟨_, rfl⟩
   obtain ⟨z, hzz⟩ : ∃ z, z = zs.getD k 0 := ⟨_, rfl⟩
   rw [← hxx, ← hzz] at HS hx1
   rw [← hxx] at hx
   rw [← hzz] at hz hcell
   rw [← hxx]
   have hb := bor64 x z s hx (by omega)
   obtain ⟨d, hd⟩ : ∃ d, d = z * 2 ^ s := ⟨_, rfl⟩
   rw [← hd] at hb HS hx1
   have hd2 : (z : Int) * 2 ^ s = (d : Int) := by rw [hd]; simp
   have hdl : d < 18446744073709551616 := by omega
   have hwr : IntKind.u64.wrap (d : Int) = (d : Int) := by rw [IntKind.wrap_u64]; omega
   clear hxx hzz hd hpw hx hx1 hs
   go_wp2
   go_roundw
   case rel => exact ⟨k + 1, by omega, by go_num, by rw [HS.out]; simp, trivial⟩
   case measure => simp [intOf]; omega
  ·obtain rfl : k = n := by omega
   go_wp2
   go_ret
   exact ⟨by unfold nof; rw [← HM.out]; rfl, rfl⟩
end Go.Proofs.YtlcglapcmdpkfaaGreat
