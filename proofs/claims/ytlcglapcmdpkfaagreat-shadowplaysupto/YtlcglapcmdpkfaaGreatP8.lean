import Derived.Test.YtlcglapcmdpkfaaGreatP7
namespace Go.Proofs.YtlcglapcmdpkfaaGreat
open Go.RowKit
set_option linter.unusedSimpArgs false
set_option linter.unusedVariables false
set_option maxRecDepth 100000 in
set_option maxHeartbeats 2000000 in
theorem runpack_any (v : Value) (b : List Nat) (w : World) (h : BytesAt w v b) (hb : b.length = 128) :
  Calls Tryz.prog 117 #[v] w fun e w' => UnpIs (unp b) w e w' := by
 obtain ⟨i0, hi0, hz0, hz1, hz2⟩ := info_parts info5
 have hem := empty23
 obtain ⟨a, c, rfl, hcap, hc⟩ := h.form
 obtain ⟨g, o, rfl, _⟩ := hc 0 (by omega)
 rw [hb] at h hcap
 rw [hb]
 have HBY : Hid (BytesAt w (.slice (some ⟨g, o, none⟩) 128 c) b) := h
 obtain ⟨x4, hx4⟩ : ∃ x, x = val4 b 4 := ⟨_, rfl⟩
 obtain ⟨s, hs⟩ : ∃ x, x = val4 b 8 := ⟨_, rfl⟩
 have HL8 : Hid (Calls Tryz.prog 98 #[.slice (some ⟨g, o + 8, none⟩) 4 (c - 8)] w fun e w' => e = .returned (.int .u64 (s : Nat)) ∧ w' = w) := by
  have := laid_any _ _ w (h.cut 8 4 (c - 8) (by omega) (by omega)) (by simp; omega)
  rwa [laid4 b 8 (by omega), ← hs] at this
 have HL4 : Hid (Calls Tryz.prog 98 #[.slice (some ⟨g, o + 4, none⟩) 4 (c - 4)] w fun e w' => e = .returned (.int .u64 (x4 : Nat)) ∧ w' = w) := by
  have := laid_any _ _ w (h.cut 4 4 (c - 4) (by omega) (by omega)) (by simp; omega)
  rwa [laid4 b 4 (by omega), ← hx4] at this
 have hs32 : s < 4294967296 := by rw [hs]; exact val4_lt h.2.2 8
 have hx32 : x4 < 4294967296 := by rw [hx4]; exact val4_lt h.2.2 4
 have HBL : Hid (b.length = 128) := hb
 have c1 : (12 : Int) ≤ (c : Int) := by omega
 have c2 : (8 : Int) ≤ (c : Int) := by omega
 have hxw : IntKind.u32.wrap (x4 : Int) = (x4 : Int) := by rw [IntKind.wrap_u32]; omega
 by_cases hlg : 116 < s
 ·have s1 : (116 : Int) < (s : Int) := by omega
  have HU : Hid (unp b = none) := unp_large b (by rw [← hs]; exact hlg)
  clear hc h hx4 hs hb HL4 hlg
  go_enter Tryz.func117, Tryz.ntmps117
  go_wp2_with fail
  refine (show Calls Tryz.prog 98 _ _ _ from HL8.out).mono ?_
  rintro e w1 ⟨rfl, rfl⟩
  clear HL8
  go_wp2
  go_ret3
  show UnpIs (unp b) _ _ _
  rw [HU.out]
  exact ⟨rfl, Only.refl _ _⟩
 ·have s1 : ¬ (116 : Int) < (s : Int) := by omega
  have s2 : IntKind.i64.wrap (12 + (s : Int)) = 12 + (s : Int) := by rw [IntKind.wrap_i64]; omega
  have s3 : (12 : Int) + (s : Int) ≤ (c : Int) := by omega
  have s4 : (12 : Int) ≤ 12 + (s : Int) := by omega
  have s5 : ((12 : Int) + (s : Int)).toNat = 12 + s := by omega
  have s6 : 12 + s - 12 = s := by omega
  have HU : Hid (unp b = if page x4 ((b.drop 12).take s) = b then some (x4, (b.drop 12).take s) else none) := by
   have := unp_again b hb h.2.2 (by omega)
   rw [← hx4, ← hs] at this
   exact this
  have HD : Hid (BytesAt w (.slice (some ⟨g, o + 12, none⟩) s (c - 12)) ((b.drop 12).take s)) := h.cut 12 s (c - 12) (by omega) (by omega)
  have HDL : Hid (((b.drop 12).take s).length = s) := (by rw [List.length_take, List.length_drop]; omega : _ = _)
  obtain ⟨D, hD⟩ : ∃ D, D = (b.drop 12).take s := ⟨_, rfl⟩
  rw [← hD] at HU HD HDL
  clear hc h hx4 hs hb hlg hD
  go_enter Tryz.func117, Tryz.ntmps117
  go_wp2_with fail
  refine (show Calls Tryz.prog 98 _ _ _ from HL8.out).mono ?_
  rintro e w1 ⟨rfl, rfl⟩
  go_wp2_with fail
  refine (show Calls Tryz.prog 98 _ _ _ from HL4.out).mono ?_
  rintro e w2 ⟨rfl, rfl⟩
  clear HL8 HL4
  go_wp2_with fail
  refine (rpack_ok x4 _ D w2 HD.out (by have := HDL.out; omega) hx32).mono ?_
  rintro e w3 ⟨u3, rfl, hf3, ho3⟩
  have HO3 : Hid (Only (fun _ => False) w2 w3) := ho3
  have HF3 : Hid _ := hf3
  clear hf3 ho3
  go_wp2_with fail
  refine (same_dec u3 _ (page x4 D) b w3 (Fresh.bytes HF3.out) (HBY.out.frame HO3.out)).mono ?_
  rintro e w4 ⟨rfl, ho4⟩
  have HO4 : Hid (Only (fun _ => False) w2 w4) := HO3.out.trans ho4 (fun _ _ e => e)
  clear ho4 HF3 HO3
  by_cases hpg : page x4 D = b
  ·have hdd : decide (page x4 D = b) = true := decide_eq_true hpg
   have HPG : Hid (page x4 D = b) := hpg
   have hD4 := HD.out.frame HO4.out
   have hdl := HDL.out
   obtain ⟨a5, c5, w5, hr5, own5, ho5⟩ := app_copy 37 5 i0 _ 1 Tryz.underlying37 hi0 hz0 hz1 hz2 rfl rfl w4 _ D.length _ hD4.1 (fun j => rfl) hD4.2.1
   rw [← BL_getD] at own5
   have HE : Hid (Fresh w5 w2.heap.size (.slice a5 s c5) D ∧ Only (fun _ => False) w2 w5) := by
    refine ⟨?_, HO4.out.trans ho5 (fun _ _ e => e)⟩
    rw [hdl] at own5
    have own6 : w5.ownsRow w2.heap.size 5 1 (.slice a5 s c5) s (BL D) := by
     refine ⟨own5.1, ?_⟩
     rcases own5.2 with h2 | ⟨g', cap', cur', hv', hb', hr'⟩
     ·exact .inl h2
     ·exact .inr ⟨g', cap', cur', hv', by have := HO4.out.size; omega, hr'⟩
    exact ⟨by rw [hdl]; exact own6, hD4.2⟩
   rw [hdl] at hr5
   have HR5 : Hid _ := hr5
   clear hpg hD4 own5 ho5 hr5 hdl
   rw [hdd]
   clear hdd
   go_wp2_with (at_builtin; go_must (refine wpList_append_run rfl _ _ 37 rfl _ _ (.slice a5 s c5) rfl rfl HR5.out ?_))
   go_ret3
   show UnpIs (unp b) w2 _ _
   rw [HU.out, if_pos HPG.out]
   exact ⟨_, rfl, HE.out⟩
  ·have hdd : decide (page x4 D = b) = false := decide_eq_false hpg
   have HPG : Hid (¬ page x4 D = b) := hpg
   clear hpg
   rw [hdd]
   clear hdd
   go_wp2
   go_ret3
   show UnpIs (unp b) w2 _ _
   rw [HU.out, if_neg HPG.out]
   exact ⟨rfl, HO4.out⟩
end Go.Proofs.YtlcglapcmdpkfaaGreat
