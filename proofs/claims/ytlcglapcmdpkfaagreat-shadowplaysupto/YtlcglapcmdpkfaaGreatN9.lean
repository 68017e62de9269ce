import Derived.Test.YtlcglapcmdpkfaaGreatN8
namespace Go.Proofs.YtlcglapcmdpkfaaGreat
open Go.RowKit
set_option linter.unusedSimpArgs false
set_option linter.unusedVariables false
set_option maxRecDepth 100000 in
set_option maxHeartbeats 2000000 in
theorem rnread_any (v : Value) (p : Nat) (zs : List Nat) (w : World) (h : BytesAt w v zs) (hp : p ≤ zs.length) :
  Calls Tryz.prog 101 #[v, .int .i64 p] w fun e w' => e = .returned (rdV (rd zs p 0 0)) ∧ w' = w := by
 obtain ⟨a, c, rfl, hcap, hc⟩ := h.form
 have hlt := h.2.2
 have HL : Hid (∀ z ∈ zs, z < 256) := hlt
 have HC : Hid _ := hc
 obtain ⟨n, hn⟩ : ∃ m, m = zs.length := ⟨_, rfl⟩
 have HM : Hid (n = zs.length) := hn
 have hn2 : n ≤ 140737488355328 := hn ▸ h.2.1
 rw [← hn] at hp
 rw [← hn]
 have p0 : (0 : Int) ≤ (p : Int) := by omega
 have p1 : ¬ (n : Int) < (p : Int) := by omega
 clear h hc hlt hn hcap
 go_enter Tryz.func101, Tryz.ntmps101
 go_wp2_with fail
 go_loopw [7, 8] (fun r t wr => ∃ i m : Nat, i ≤ 9 ∧ p + i ≤ n ∧ t = .int .i64 (i : Nat) ∧ r = .int .u64 (m : Nat) ∧ m < 2 ^ (7 * i) ∧ rd zs p i m = rd zs p 0 0 ∧ w = wr) (fun _ t _ => 9 - (intOf t).toNat)
 case atStart => exact ⟨0, 0, by omega, by omega, rfl, rfl, by decide, rfl, rfl⟩
 case round =>
  obtain ⟨i, m, hi, hpi, rfl, rfl, hm, hrd, rfl⟩ := hrel
  have HRD : Hid (rd zs p i m = rd zs p 0 0) := hrd
  clear hrd
  by_cases hi9 : i < 9
  ·have i0 : (0 : Int) ≤ (i : Int) := by omega
   have i1 : (i : Int) < 9 := by omega
   have hwp : IntKind.i64.wrap ((p : Int) + (i : Int)) = (p : Int) + (i : Int) := by rw [IntKind.wrap_i64]; omega
   by_cases hz : p + i < n
   ·have hz1 : ¬ (n : Int) ≤ (p : Int) + (i : Int) := by omega
    have hz2 : (p : Int) + (i : Int) < (n : Int) := by omega
    have hz3 : (0 : Int) ≤ (p : Int) + (i : Int) := by omega
    have htn : ((p : Int) + (i : Int)).toNat = p + i := by omega
    obtain ⟨g, o, rfl, hcell⟩ := HC.out (p + i) (by have := HM.out; omega)
    have hc8 := getD_lt HL.out (p + i)
    obtain ⟨z, hzz⟩ : ∃ z, z = zs.getD (p + i) 0 := ⟨_, rfl⟩
    rw [← hzz] at hc8 hcell
    have hst := step_lt (c := z) hm
    have hpw := pow_le (i := i + 1) (by omega)
    have hm7 : IntKind.i64.wrap (7 * (i : Int)) = 7 * (i : Int) := by rw [IntKind.wrap_i64]; omega
    have ht7 : (7 * (i : Int)).toNat = 7 * i := by omega
    obtain ⟨s, hs⟩ : ∃ s, s = 7 * i := ⟨_, rfl⟩
    have hs7 : 7 * (i : Int) = (s : Int) := by omega
    have s1 : (s : Int) < 63 := by omega
    have s0 : (0 : Int) ≤ (s : Int) := by omega
    rw [hs7] at hm7
    have HS7 : Hid (7 * (i : Int) = (s : Int)) := hs7
    obtain ⟨e, he⟩ : ∃ e, e = z % 128 := ⟨_, rfl⟩
    have hei : (z : Int) % 128 = (e : Int) := by omega
    rw [← he] at hst
    obtain ⟨d, hd⟩ : ∃ d, d = e * 2 ^ s := ⟨_, rfl⟩
    rw [← hs, ← hd] at hst
    have he8 : e < 128 := by omega
    have hd2 : (e : Int) * 2 ^ s = (d : Int) := by rw [hd]; simp
    have hdlt : d < 9223372036854775808 := by omega
    have hwr : IntKind.u64.wrap (d : Int) = (d : Int) := by simp [IntKind.wrap, IntKind.bits, IntKind.signed]; omega
    have hadd : IntKind.u64.wrap ((m : Int) + (d : Int)) = ((m + d : Nat) : Int) := by simp [IntKind.wrap, IntKind.bits, IntKind.signed]; omega
    have HD : Hid (m + z % 128 * 2 ^ (7 * i) = m + d) := (by rw [hd, he, hs] : m + z % 128 * 2 ^ (7 * i) = m + d)
    have HST : Hid (m + d < 2 ^ (7 * (i + 1))) := hst
    have HKZ : Hid (zs.getD (p + i) 0 = z) := hzz.symm
    clear hzz hd he hst hs hpw hm ht7
    by_cases hc1 : z < 128
    ·have z1 : ¬ (128 : Int) ≤ (z : Int) := by omega
     have HLL : Hid _ := rd_last (n := m) hi9 (HM.out ▸ hz) HKZ.out hc1
     by_cases hz0 : z = 0
     ·have zz : ((z : Int) == 0) = true := by simp [hz0]
      have HZ0 : Hid (z = 0) := hz0
      clear hz0
      by_cases hi0 : i = 0
      ·have ss : ¬ (0 : Int) < (i : Int) := by omega
       have HI0 : Hid (i = 0) := hi0
       clear hi0
       go_wp2
       go_ret3
       refine ⟨?_, rfl⟩
       rw [← HRD.out, HLL.out, if_neg (by have := HI0.out; omega), HD.out]
       rfl
      ·have ss : (0 : Int) < (i : Int) := by omega
       go_wp2
       go_ret3
       refine ⟨?_, rfl⟩
       rw [← HRD.out, HLL.out, if_pos ⟨HZ0.out, by omega⟩]
       rfl
     ·have zz : ((z : Int) == 0) = false := by simp [hz0]
      go_wp2
      go_ret3
      refine ⟨?_, rfl⟩
      rw [← HRD.out, HLL.out, if_neg (by omega), HD.out]
      rfl
    ·have z1 : (128 : Int) ≤ (z : Int) := by omega
     go_wp2
     go_roundw
     case rel =>
      refine ⟨i + 1, m + d, by omega, by omega, by go_num, rfl, HST.out, ?_, trivial⟩
      rw [← HRD.out, rd_more hi9 (HM.out ▸ hz) HKZ.out hc1, HD.out]
     case measure => simp [intOf]; omega
   ·have hz1 : (n : Int) ≤ (p : Int) + (i : Int) := by omega
    clear hm
    go_wp2
    go_ret3
    refine ⟨?_, rfl⟩
    rw [← HRD.out, rd_end hi9 (by have := HM.out; omega)]
    rfl
  ·obtain rfl : i = 9 := by omega
   clear hm
   go_wp2
   go_ret3
   refine ⟨?_, rfl⟩
   rw [← HRD.out, rd_nine (by omega)]
   rfl
end Go.Proofs.YtlcglapcmdpkfaaGreat
