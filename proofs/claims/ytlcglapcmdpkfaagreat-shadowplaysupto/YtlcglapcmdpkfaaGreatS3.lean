import Derived.Test.YtlcglapcmdpkfaaGreatS2
namespace Go.Proofs.YtlcglapcmdpkfaaGreat
open Go.RowKit
set_option linter.unusedSimpArgs false
set_option linter.unusedVariables false
def rr (k r c : Nat) : Nat := it k (r ^^^ c) ^^^ c / 2 ^ k
theorem rr_zero (r c : Nat) : rr 0 r c = r := by simp [rr, it, Nat.xor_assoc]
theorem rr_bit (k r c : Nat) : (rr k r c ^^^ c / 2 ^ k) = it k (r ^^^ c) := by simp [rr, Nat.xor_assoc]
theorem rr_succ (k r c : Nat) : rr (k + 1) r c = if (rr k r c ^^^ c / 2 ^ k) % 2 = 1 then rr k r c / 2 ^^^ 3988292384 else rr k r c / 2 := by
 rw [rr_bit]
 have e1 : rr k r c / 2 = it k (r ^^^ c) / 2 ^^^ c / 2 ^ (k + 1) := by
  unfold rr
  rw [xor_half, Nat.div_div_eq_div_mul, ← Nat.pow_succ]
 rw [e1]
 show st (it k (r ^^^ c)) ^^^ c / 2 ^ (k + 1) = _
 unfold st
 split
 ·rw [Nat.xor_assoc, Nat.xor_assoc, Nat.xor_comm 3988292384]
 ·rfl
theorem rr_eight (r c : Nat) (h : c < 256) : rr 8 r c = eat r c := by
 have : c / 2 ^ 8 = 0 := by omega
 simp [rr, this, eat]
theorem half_le (c k : Nat) : c / 2 ^ k ≤ c := Nat.div_le_self _ _
theorem rr_lt (k r c : Nat) (hr : r < 4294967296) (hc : c < 256) : rr k r c < 4294967296 :=
 Nat.xor_lt_two_pow (n := 32) (it_lt (Nat.xor_lt_two_pow (n := 32) hr (by omega)) k) (by have := half_le c k; omega)
set_option maxHeartbeats 400000 in
theorem rsum_any (v : Value) (zs : List Nat) (w : World) (h : BytesAt w v zs) :
  Calls Tryz.prog 128 #[v] w fun e w' => e = .returned (.int .u32 (sumN zs : Nat)) ∧ w' = w := by
 obtain ⟨a, c, rfl, hcap, hc⟩ := h.form
 have hlt := h.2.2
 have HL : Hid (∀ z ∈ zs, z < 256) := hlt
 have HC : Hid _ := hc
 obtain ⟨m, hm⟩ : ∃ m, m = zs.length := ⟨_, rfl⟩
 have HM : Hid (m = zs.length) := hm
 have hm2 : m ≤ 140737488355328 := hm ▸ h.2.1
 rw [← hm]
 clear h hc hlt hm hcap
 go_enter Tryz.func128, Tryz.ntmps128
 go_wp2
 go_loopw [3, 4] (fun r t wr => ∃ k : Nat, k ≤ m ∧ t = .int .i64 k ∧ r = .int .u32 ((zs.take k).foldl eat 4294967295 : Nat) ∧ w = wr) (fun _ t _ => m - (intOf t).toNat)
 case atStart => exact ⟨0, Nat.zero_le _, rfl, rfl, rfl⟩
 case round =>
  obtain ⟨k, hk, rfl, rfl, rfl⟩ := hrel
  by_cases hlt : k < m
  ·have k0 : (0 : Int) ≤ (k : Int) := Int.natCast_nonneg _
   have k1 : (k : Int) < (m : Int) := by omega
   obtain ⟨g, o, rfl, hcell⟩ := HC.out k (by have := HM.out; omega)
   have HF : Hid _ := fold_take zs k (by have := HM.out; omega)
   have hz := getD_lt HL.out k
   have hx : (zs.take k).foldl eat 4294967295 < 4294967296 := fold_lt _ _ (by omega) (fun z hz => HL.out z (List.mem_of_mem_take hz))
   obtain ⟨x, hxx⟩ : ∃ x, x = (zs.take k).foldl eat 4294967295 := ⟨_, rfl⟩
   obtain ⟨z, hzz⟩ : ∃ z, z = zs.getD k 0 := ⟨_, rfl⟩
   rw [← hxx] at hx HF
   rw [← hzz] at hz hcell HF
   rw [← hxx]
   clear hxx hzz
   go_wp2_with fail
   go_loopw [3, 5] (fun r t wr => ∃ q : Nat, q ≤ 8 ∧ t = .int .i64 q ∧ r = .int .u32 (rr q x z : Nat) ∧ w = wr) (fun _ t _ => 8 - (intOf t).toNat)
   case atStart => exact ⟨0, Nat.zero_le _, rfl, by rw [rr_zero], rfl⟩
   case round =>
    obtain ⟨q, hq, rfl, rfl, rfl⟩ := hrel
    by_cases hlq : q < 8
    ·have q0 : (0 : Int) ≤ (q : Int) := Int.natCast_nonneg _
     have q1 : (q : Int) < 8 := by omega
     have HS : Hid _ := rr_succ q x z
     have hr := rr_lt q x z hx hz
     obtain ⟨r, hrr⟩ : ∃ r, r = rr q x z := ⟨_, rfl⟩
     rw [← hrr] at hr HS
     rw [← hrr]
     clear hrr
     obtain ⟨y, hy⟩ : ∃ y, y = z / 2 ^ q := ⟨_, rfl⟩
     have hyi : (z : Int) / 2 ^ q = (y : Nat) := by rw [hy]; simp
     have hy2 : y < 256 := by have := half_le z q; omega
     rw [← hy] at HS
     have hb := bx32 r y hr (by omega)
     clear hy
     by_cases h1 : (r ^^^ y) % 2 = 1
     ·have hm1 : ((r ^^^ y : Nat) : Int) % 2 = 1 := by omega
      have hs : bits .xor .u32 ((r : Int) / 2) 3988292384 = ((rr (q + 1) x z : Nat) : Int) := by
       have := bx32 (r / 2) 3988292384 (by omega) (by omega)
       rw [HS.out, if_pos h1, ← this]; rfl
      clear h1
      go_wp2
      go_roundw
      case rel => exact ⟨q + 1, by omega, by go_num, by rfl, trivial⟩
      case measure => simp [intOf]; omega
     ·have hm1 : ((r ^^^ y : Nat) : Int) % 2 = 0 := by omega
      have hs : (r : Int) / 2 = ((rr (q + 1) x z : Nat) : Int) := by
       rw [HS.out, if_neg h1]; rfl
      clear h1
      go_wp2
      go_roundw
      case rel => exact ⟨q + 1, by omega, by go_num, by rfl, trivial⟩
      case measure => simp [intOf]; omega
    ·obtain rfl : q = 8 := by omega
     rw [rr_eight x z hz]
     go_wp2
     go_roundw
     case rel => exact ⟨k + 1, by omega, by go_num, by rw [HF.out], trivial⟩
     case measure => simp [intOf]; omega
  ·obtain rfl : k = m := by omega
   have hx : reg zs < 4294967296 := reg_lt zs HL.out
   have hb : bits .xor .u32 ((zs.take k).foldl eat 4294967295 : Nat) 4294967295 = (sumN zs : Nat) := by
    rw [HM.out, List.take_length]
    exact bx32 (reg zs) 4294967295 hx (by omega)
   go_wp2
   go_ret
   exact ⟨rfl, rfl⟩
end Go.Proofs.YtlcglapcmdpkfaaGreat
