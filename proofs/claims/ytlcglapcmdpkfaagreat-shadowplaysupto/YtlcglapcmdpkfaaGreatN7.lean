import Derived.Test.YtlcglapcmdpkfaaGreatS6
import Derived.Test.YtlcglapcmdpkfaaGreatRd
namespace Go.Proofs.YtlcglapcmdpkfaaGreat
open Go.RowKit
set_option linter.unusedSimpArgs false
set_option linter.unusedVariables false
theorem bandn8 (c : Nat) (h : c < 256) : bits .andNot .u8 (c : Int) 128 = ((c % 128 : Nat) : Int) := by
 have k : ∀ c : Fin 256, bits .andNot .u8 ((c.val : Nat) : Int) 128 = ((c.val % 128 : Nat) : Int) := by decide +kernel
 exact k ⟨c, h⟩
theorem bor64 (m e s : Nat) (hm : m < 2 ^ s) (hb : m + e * 2 ^ s < 18446744073709551616) : bits .or .u64 (m : Int) ((e * 2 ^ s : Nat) : Int) = ((m + e * 2 ^ s : Nat) : Int) := by
 rw [bits_or_u64_nat m (e * 2 ^ s) (by omega) (by omega)]
 rw [Nat.or_comm, Nat.mul_comm e, ← Nat.two_pow_add_eq_or_of_lt hm, Nat.add_comm]
set_option maxHeartbeats 400000 in
theorem take_end (N Bb : Nat) (a : Option Addr) (n c : Nat) (w : World) (h0 : w.cell? ⟨N, 0, none⟩ = some (.int .i64 n)) (h1 : w.cell? ⟨Bb, 0, none⟩ = some (.slice a n c)) :
  Calls Tryz.prog 131 #[.pointer (some ⟨N, 0, none⟩), .pointer (some ⟨Bb, 0, none⟩)] w fun e w' => e = .returned (.tuple #[.int .u8 0, .bool false]) ∧ w' = w := by
 go_enter Tryz.func131, Tryz.ntmps131
 go_wp2
 go_ret2
 exact ⟨rfl, rfl⟩
set_option maxHeartbeats 400000 in
theorem take_more (N Bb g o n c k : Nat) (z : Int) (w : World) (hk : (k : Int) < n) (hn : n ≤ 140737488355328) (h0 : w.cell? ⟨N, 0, none⟩ = some (.int .i64 k)) (hf : w.frozen? ⟨N, 0, none⟩ = false) (h1 : w.cell? ⟨Bb, 0, none⟩ = some (.slice (some ⟨g, o, none⟩) n c)) (h2 : w.cell? ⟨g, o + k, none⟩ = some (.int .u8 z)) (hN : Bb ≠ N) (hg : g ≠ N) :
  Calls Tryz.prog 131 #[.pointer (some ⟨N, 0, none⟩), .pointer (some ⟨Bb, 0, none⟩)] w fun e w' => e = .returned (.tuple #[.int .u8 z, .bool true]) ∧ w' = w.setCell ⟨N, 0, none⟩ (.int .i64 ((k : Int) + 1)) := by
 have hne : ((k : Int) == (n : Int)) = false := by simp; omega
 have e1 : (w.setCell ⟨N, 0, none⟩ (.int .i64 ((k : Int) + 1))).cell? ⟨N, 0, none⟩ = some (.int .i64 ((k : Int) + 1)) := World.cell?_setCell_same _ _ _ h0
 have e2 : (w.setCell ⟨N, 0, none⟩ (.int .i64 ((k : Int) + 1))).cell? ⟨Bb, 0, none⟩ = some (.slice (some ⟨g, o, none⟩) n c) := by rw [World.cell?_setCell_other _ _ _ _ (by simp [hN])]; exact h1
 have e3 : (w.setCell ⟨N, 0, none⟩ (.int .i64 ((k : Int) + 1))).cell? ⟨g, o + k, none⟩ = some (.int .u8 z) := by rw [World.cell?_setCell_other _ _ _ _ (by simp [hg])]; exact h2
 have k0 : (0 : Int) ≤ (k : Int) := by omega
 clear h2 hN hg
 go_enter Tryz.func131, Tryz.ntmps131
 go_wp2
 go_ret2
 exact ⟨rfl, rfl⟩
def NumIs (r : Option (Nat × Nat)) (N : Nat) (e : Ending) (w' : World) : Prop :=
 (∃ m q, r = some (m, q) ∧ e = .returned (.tuple #[.int .u64 (m : Nat), .bool true]) ∧ w'.cell? ⟨N, 0, none⟩ = some (.int .i64 (q : Nat))) ∨
 (∃ x y : Int, r = none ∧ e = .returned (.tuple #[.int .u64 x, .bool false]) ∧ w'.cell? ⟨N, 0, none⟩ = some (.int .i64 y))
theorem frozen_set (w : World) (a b : Addr) (u : Value) : (w.setCell a u).frozen? b = w.frozen? b := by simp
set_option maxRecDepth 100000 in
set_option maxHeartbeats 2000000 in
theorem numb_any (N Bb p : Nat) (v : Value) (zs : List Nat) (w : World) (h : BytesAt w v zs) (hp : p ≤ zs.length) (h0 : w.cell? ⟨N, 0, none⟩ = some (.int .i64 p)) (hf : w.frozen? ⟨N, 0, none⟩ = false) (h1 : w.cell? ⟨Bb, 0, none⟩ = some v) (hN : Bb ≠ N) (hg : 0 < zs.length → ∀ b, v.ownBlock = some b → b ≠ N) :
  Calls Tryz.prog 130 #[.func (.func 131) #[] #[.pointer (some ⟨N, 0, none⟩), .pointer (some ⟨Bb, 0, none⟩)]] w fun e w' => NumIs (rd zs p 0 0) N e w' ∧ w'.frozen? ⟨N, 0, none⟩ = false ∧ Only (fun i => i = N) w w' := by
 obtain ⟨a, c, rfl, hcap, hc⟩ := h.form
 have hlt := h.2.2
 have HL : Hid (∀ z ∈ zs, z < 256) := hlt
 have HC : Hid _ := hc
 obtain ⟨n, hn⟩ : ∃ m, m = zs.length := ⟨_, rfl⟩
 have HM : Hid (n = zs.length) := hn
 have hn2 : n ≤ 140737488355328 := hn ▸ h.2.1
 rw [← hn] at h1 hp
 have HG : Hid (0 < zs.length → ∀ b, (Value.slice a zs.length c).ownBlock = some b → b ≠ N) := hg
 have H1 : Hid (w.cell? ⟨Bb, 0, none⟩ = some (.slice a n c)) := h1
 have H0 : Hid (w.cell? ⟨N, 0, none⟩ = some (.int .i64 p)) := h0
 have HFZ : Hid (w.frozen? ⟨N, 0, none⟩ = false) := hf
 clear h hc hlt hn hcap hg h1 h0 hf
 go_enter Tryz.func130, Tryz.ntmps130
 go_wp2_with fail
 go_loopw [4, 5] (fun r t wr => ∃ i m : Nat, i ≤ 9 ∧ p + i ≤ n ∧ t = .int .i64 ((7 * i : Nat) : Int) ∧ r = .int .u64 (m : Nat) ∧ m < 2 ^ (7 * i) ∧ rd zs p i m = rd zs p 0 0 ∧ wr.cell? ⟨N, 0, none⟩ = some (.int .i64 ((p + i : Nat) : Int)) ∧ wr.frozen? ⟨N, 0, none⟩ = false ∧ Only (fun i => i = N) w wr) (fun _ t _ => 63 - (intOf t).toNat)
 case atStart => exact ⟨0, 0, by omega, by omega, rfl, rfl, by decide, rfl, H0.out, HFZ.out, Only.refl _ _⟩
 case round =>
  obtain ⟨i, m, hi, hpi, rfl, rfl, hm, hrd, hcN, hfN, ho⟩ := hrel
  obtain ⟨w2, rfl⟩ : ∃ w2, w2 = wr := ⟨_, rfl⟩
  have HRD : Hid (rd zs p i m = rd zs p 0 0) := hrd
  have HO : Hid (Only (fun i => i = N) w w2) := ho
  have hcB := ho.cell H1.out (by simpa using hN)
  have HCN : Hid (w2.cell? ⟨N, 0, none⟩ = some (.int .i64 ((p + i : Nat) : Int))) := hcN
  have HFN : Hid (w2.frozen? ⟨N, 0, none⟩ = false) := hfN
  have HMM : Hid (m < 2 ^ (7 * i)) := hm
  obtain ⟨s, hs⟩ : ∃ s, s = 7 * i := ⟨_, rfl⟩
  obtain ⟨k, hk⟩ : ∃ k, k = p + i := ⟨_, rfl⟩
  rw [← hs]
  rw [← hk] at hcN
  have HS : Hid (s = 7 * i) := hs
  have HK : Hid (k = p + i) := hk
  by_cases hi9 : i < 9
  ·have s0 : (0 : Int) ≤ (s : Int) := by omega
   have s1 : (s : Int) < 63 := by omega
   by_cases hz : p + i < n
   ·obtain ⟨g, o, rfl, hcell⟩ := HC.out k (by have := HM.out; omega)
    have hgN : g ≠ N := HG.out (by have := HM.out; omega) g rfl
    have hcell2 := ho.cell hcell (by simpa using hgN)
    have hc8 := getD_lt HL.out k
    have hkz : zs.getD (p + i) 0 = zs.getD k 0 := by rw [hk]
    obtain ⟨z, hzz⟩ : ∃ z, z = zs.getD k 0 := ⟨_, rfl⟩
    rw [← hzz] at hc8 hcell2 hkz
    have T1 := take_more N Bb g o n c k z w2 (by omega) hn2 hcN hfN hcB hcell2 hN hgN
    have han := bandn8 z hc8
    have hst := step_lt (c := z) hm
    have hpw := pow_le (i := i + 1) (by omega)
    rw [← hs] at hst hm
    obtain ⟨e, he⟩ : ∃ e, e = z % 128 := ⟨_, rfl⟩
    have hbo := bor64 m e s hm (by rw [he]; omega)
    rw [← he] at han hst
    obtain ⟨d, hd⟩ : ∃ d, d = e * 2 ^ s := ⟨_, rfl⟩
    rw [← hd] at hbo hst
    have he8 : e < 128 := by omega
    have hd2 : (e : Int) * 2 ^ s = (d : Int) := by rw [hd]; simp
    have hdlt : d < 9223372036854775808 := by omega
    have hwr : IntKind.u64.wrap (d : Int) = (d : Int) := by simp [IntKind.wrap, IntKind.bits, IntKind.signed]; omega
    have HD : Hid (m + z % 128 * 2 ^ (7 * i) = m + d) := (by rw [hd, he, hs] : m + z % 128 * 2 ^ (7 * i) = m + d)
    have HO2 : Hid (Only (fun i => i = N) w (w2.setCell ⟨N, 0, none⟩ (.int .i64 ((k : Int) + 1)))) := ho.setCell _ _ (fun _ => rfl)
    have HC2 : Hid ((w2.setCell ⟨N, 0, none⟩ (.int .i64 ((k : Int) + 1))).cell? ⟨N, 0, none⟩ = some (.int .i64 ((k : Int) + 1))) := World.cell?_setCell_same _ _ _ hcN
    have HF2 : Hid ((w2.setCell ⟨N, 0, none⟩ (.int .i64 ((k : Int) + 1))).frozen? ⟨N, 0, none⟩ = false) := (frozen_set _ _ _ _).trans hfN
    have HST : Hid (m + d < 2 ^ (7 * (i + 1))) := hst
    have HKZ : Hid (zs.getD (p + i) 0 = z) := hkz
    clear hcell hcell2 hcB hcN hfN ho hrd hzz hd he hst hs hk hkz hpw hm
    by_cases hc1 : z < 128
    ·have z1 : (z : Int) < 128 := by omega
     have HL : Hid _ := rd_last (n := m) hi9 (HM.out ▸ hz) HKZ.out hc1
     by_cases hz0 : z = 0
     ·have zz : ((z : Int) != 0) = false := by simp [hz0]
      have HZ0 : Hid (z = 0) := hz0
      clear hz0
      by_cases hi0 : i = 0
      ·have ss : ((s : Int) == 0) = true := by have := HS.out; simp; omega
       have HI0 : Hid (i = 0) := hi0
       clear hi0
       go_wp2_with (go_at_call 131; refine T1.mono ?_; rintro e' w3 ⟨rfl, rfl⟩)
       go_ret2
       refine ⟨.inl ⟨m + d, p + i + 1, ?_, rfl, ?_⟩, HF2.out, HO2.out⟩
       ·rw [← HRD.out, HL.out, if_neg (by have := HI0.out; omega), HD.out]
       ·rw [HC2.out, HK.out]; rfl
      ·have ss : ((s : Int) == 0) = false := by have := HS.out; simp; omega
       go_wp2_with (go_at_call 131; refine T1.mono ?_; rintro e' w3 ⟨rfl, rfl⟩)
       go_ret2
       refine ⟨.inr ⟨_, _, ?_, rfl, HC2.out⟩, HF2.out, HO2.out⟩
       rw [← HRD.out, HL.out, if_pos ⟨HZ0.out, by omega⟩]
     ·have zz : ((z : Int) != 0) = true := by simp [hz0]
      go_wp2_with (go_at_call 131; refine T1.mono ?_; rintro e' w3 ⟨rfl, rfl⟩)
      go_ret2
      refine ⟨.inl ⟨m + d, p + i + 1, ?_, rfl, ?_⟩, HF2.out, HO2.out⟩
      ·rw [← HRD.out, HL.out, if_neg (by omega), HD.out]
      ·rw [HC2.out, HK.out]; rfl
    ·have z1 : ¬ (z : Int) < 128 := by omega
     go_wp2_with (go_at_call 131; refine T1.mono ?_; rintro e' w3 ⟨rfl, rfl⟩)
     go_roundw
     case rel =>
      refine ⟨i + 1, m + d, by omega, by omega, ?_, rfl, HST.out, ?_, ?_, HF2.out, HO2.out⟩
      ·have := HS.out
       rw [this]
       go_num
      ·rw [← HRD.out, rd_more hi9 (HM.out ▸ hz) HKZ.out hc1, HD.out]
      ·rw [HC2.out, HK.out]; rfl
     case measure => simp [intOf]; have := HS.out; omega
   ·obtain rfl : k = n := by omega
    have T0 := take_end N Bb a k c w2 hcN hcB
    clear hcB hcN hfN ho hrd hs hk hm
    go_wp2_with (go_at_call 131; refine T0.mono ?_; rintro e' w3 ⟨rfl, rfl⟩)
    go_ret2
    refine ⟨.inr ⟨_, _, ?_, rfl, HCN.out⟩, HFN.out, HO.out⟩
    rw [← HRD.out, rd_end hi9 (by have := HM.out; omega)]
  ·obtain rfl : i = 9 := by omega
   obtain rfl : s = 63 := by omega
   clear hcB hcN hfN ho hrd hs hk hm
   go_wp2
   go_ret2
   refine ⟨.inr ⟨_, _, ?_, rfl, HCN.out⟩, HFN.out, HO.out⟩
   rw [← HRD.out, rd_nine (by omega)]
end Go.Proofs.YtlcglapcmdpkfaaGreat
