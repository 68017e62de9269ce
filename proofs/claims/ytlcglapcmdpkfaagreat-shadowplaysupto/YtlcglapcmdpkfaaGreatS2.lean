import Derived.Test.YtlcglapcmdpkfaaGreatS1
import Derived.Test.YtlcglapcmdpkfaaGreatRead
namespace Go.Proofs.YtlcglapcmdpkfaaGreat
open Go.RowKit
set_option linter.unusedSimpArgs false
set_option linter.unusedVariables false
set_option maxHeartbeats 400000 in
theorem own_any (v : Value) (zs : List Nat) (w : World) (h : BytesAt w v zs) :
  Calls Tryz.prog 25 #[v] w fun e w' => ∃ u, e = .returned u ∧ Fresh w' w.heap.size u zs ∧ Only (fun _ => False) w w' := by
 obtain ⟨i0, hi0, hz0, hz1, hz2⟩ := info_parts info5
 obtain ⟨a, cap, w', hr, own, ho⟩ := app_copy 37 5 i0 _ 1 Tryz.underlying37 hi0 hz0 hz1 hz2 rfl rfl w v zs.length _ h.1 (fun j => rfl) h.2.1
 rw [← BL_getD] at own
 have HR : Hid _ := hr
 have HF : Hid (Fresh w' w.heap.size (.slice a zs.length cap) zs) := ⟨own, h.2⟩
 have HO : Hid (Only (fun _ => False) w w') := ho
 have hem := empty23
 clear hr own ho h
 go_enter Tryz.func25, Tryz.ntmps25
 go_wp2_with (at_builtin; refine wpList_append_run rfl _ _ 37 rfl _ _ (.slice a zs.length cap) rfl rfl HR.out ?_)
 go_ret
 exact ⟨_, rfl, HF.out, HO.out⟩
theorem fold_take (zs : List Nat) (k : Nat) (h : k < zs.length) : (zs.take (k + 1)).foldl eat 4294967295 = eat ((zs.take k).foldl eat 4294967295) (zs.getD k 0) := by
 rw [List.take_succ_eq_append_getElem h, List.foldl_append]
 simp [List.getD, h]
theorem getD_lt {zs : List Nat} (h : ∀ z ∈ zs, z < 256) (k : Nat) : zs.getD k 0 < 256 := by
 simp only [List.getD]
 rcases Nat.lt_or_ge k zs.length with hk | hk
 ·rw [List.getElem?_eq_getElem hk]; exact h _ (List.getElem_mem hk)
 ·rw [List.getElem?_eq_none hk]; decide
set_option maxHeartbeats 400000 in
theorem sum_any (v : Value) (zs : List Nat) (w : World) (h : BytesAt w v zs) :
  Calls Tryz.prog 126 #[v] w fun e w' => e = .returned (.int .u32 (sumN zs : Nat)) ∧ w' = w := by
 obtain ⟨a, c, rfl, hcap, hc⟩ := h.form
 have hlt := h.2.2
 have HL : Hid (∀ z ∈ zs, z < 256) := hlt
 have HC : Hid _ := hc
 obtain ⟨m, hm⟩ : ∃ m, m = zs.length := ⟨_, rfl⟩
 have HM : Hid (m = zs.length) := hm
 have hm2 : m ≤ 140737488355328 := hm ▸ h.2.1
 rw [← hm]
 clear h hc hlt hm hcap
 go_enter Tryz.func126, Tryz.ntmps126
 go_wp2
 go_loopw [3, 8] (fun r t wr => ∃ k : Nat, k ≤ m ∧ t = .int .i64 k ∧ r = .int .u32 ((zs.take k).foldl eat 4294967295 : Nat) ∧ w = wr) (fun _ t _ => m - (intOf t).toNat)
 case atStart => exact ⟨0, Nat.zero_le _, rfl, rfl, rfl⟩
 case round =>
  obtain ⟨k, hk, rfl, rfl, rfl⟩ := hrel
  by_cases hlt : k < m
  ·have k0 : (0 : Int) ≤ (k : Int) := Int.natCast_nonneg _
   have k1 : (k : Int) < (m : Int) := by omega
   obtain ⟨g, o, rfl, hcell⟩ := HC.out k (by have := HM.out; omega)
   have HF : Hid _ := fold_take zs k (by have := HM.out; omega)
   have hz := getD_lt HL.out k
   have hx : (zs.take k).foldl eat 4294967295 < 4294967296 := fold_lt _ _ (by omega) (fun z hz => HL.out z (List.mem_of_mem_take hz))
   obtain ⟨x, hxx⟩ : ∃ x, x = (zs.take k).foldl eat 4294967295 := ⟨_, rfl⟩
   obtain ⟨z, hzz⟩ : ∃ z, z = zs.getD k 0 := ⟨_, rfl⟩
   rw [← hxx] at hx HF
   rw [← hzz] at hz hcell HF
   rw [← hxx]
   clear hxx hzz
   have hb := bx32 x z hx (by omega)
   have hs : x ^^^ z < 4294967296 := Nat.xor_lt_two_pow (n := 32) hx (by omega)
   go_wp2_with (go_at_call 135; refine (shift_any _ _ hs).mono ?_; rintro e w' ⟨rfl, rfl⟩)
   go_roundw
   case rel => exact ⟨k + 1, by omega, by go_num, by rw [HF.out]; rfl, trivial⟩
   case measure => simp [intOf]; omega
  ·obtain rfl : k = m := by omega
   have hx : reg zs < 4294967296 := reg_lt zs HL.out
   have hb : bits .xor .u32 ((zs.take k).foldl eat 4294967295 : Nat) 4294967295 = (sumN zs : Nat) := by
    rw [HM.out, List.take_length]
    exact bx32 (reg zs) 4294967295 hx (by omega)
   go_wp2
   go_ret
   exact ⟨rfl, rfl⟩
end Go.Proofs.YtlcglapcmdpkfaaGreat
