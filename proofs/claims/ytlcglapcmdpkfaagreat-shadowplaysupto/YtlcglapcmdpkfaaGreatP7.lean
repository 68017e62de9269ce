import Derived.Test.YtlcglapcmdpkfaaGreatP6
namespace Go.Proofs.YtlcglapcmdpkfaaGreat
open Go.RowKit
set_option linter.unusedSimpArgs false
set_option linter.unusedVariables false
set_option maxHeartbeats 400000 in
theorem rpack_large (id : Int) (a : Option Addr) (n c : Nat) (w : World) (h : 116 < n) :
  Calls Tryz.prog 112 #[.int .u32 id, .slice a n c] w fun e w' => e = .returned (.tuple #[.slice none 0 0, .int .i64 11]) ∧ w' = w := by
 have h1 : (116 : Int) < (n : Int) := by omega
 go_enter Tryz.func112, Tryz.ntmps112
 go_wp2
 go_ret2
 exact ⟨rfl, rfl⟩
theorem rep_snoc (l : List Nat) (k : Nat) : l ++ List.replicate (k + 1) 0 = (l ++ List.replicate k 0) ++ [0] := by
 rw [List.replicate_succ', List.append_assoc]
set_option maxRecDepth 100000 in
set_option maxHeartbeats 2000000 in
theorem rpack_ok (id : Nat) (v : Value) (D : List Nat) (w : World) (h : BytesAt w v D) (hD : D.length ≤ 116) (hid : id < 4294967296) :
  Calls Tryz.prog 112 #[.int .u32 id, v] w fun e w' => ∃ u, e = .returned (.tuple #[u, .int .i64 0]) ∧ Fresh w' w.heap.size u (page id D) ∧ Only (fun _ => False) w w' := by
 obtain ⟨a, c, rfl, hcap, hc⟩ := h.form
 have HBY : Hid (BytesAt w (.slice a D.length c) D) := h
 obtain ⟨n, hn⟩ : ∃ m, m = D.length := ⟨_, rfl⟩
 have HN : Hid (n = D.length) := hn
 have n1 : ¬ (116 : Int) < (n : Int) := by omega
 have n2 : n ≤ 116 := by omega
 have hw64 : IntKind.u64.wrap (n : Int) = (n : Int) := by simp [IntKind.wrap, IntKind.bits, IntKind.signed]; omega
 rw [← hn] at HBY
 rw [← hn]
 clear h hc hn hcap hD
 go_enter Tryz.func112, Tryz.ntmps112
 go_wp2_with fail
 refine (lay_any id w (by omega)).mono ?_
 rintro e w1 ⟨u1, rfl, hf1, ho1⟩
 have HF1 : Hid (Fresh w1 w.heap.size u1 (lay4 id)) := hf1
 have HO1 : Hid (Only (fun _ => False) w w1) := ho1
 clear hf1 ho1
 go_wp2_with fail
 refine (lay_any n w1 (by omega)).mono ?_
 rintro e w2 ⟨u2, rfl, hf2, ho2⟩
 have ho12 : Only (fun _ => False) w w2 := HO1.out.trans ho2 (fun _ _ e => e)
 obtain ⟨a3, c3, w3, hr3, hf3, ho3⟩ := app_fresh (HF1.out.frame ho2) hf2.bytes ho12.size (by simp [lay4_length])
 have ho13 : Only (fun _ => False) w w3 := ho12.trans ho3 (fun i hi e => by omega)
 rw [lay4_length, lay4_length] at hr3 hf3
 obtain ⟨a4, c4, w4, hr4, hf4, ho4⟩ := app_fresh hf3 (HBY.out.frame ho13) ho13.size (by simp only [List.length_append, lay4_length]; have := HN.out; omega)
 have e4 : (lay4 id ++ lay4 n).length + D.length = 8 + n := by simp only [List.length_append, lay4_length]; have := HN.out; omega
 rw [e4] at hr4 hf4
 have HR3 : Hid _ := hr3
 have HR4 : Hid _ := hr4
 have HF4 : Hid (Fresh w4 w.heap.size (.slice a4 (8 + n) c4) ((lay4 id ++ lay4 n) ++ D)) := hf4
 have HO4 : Hid (Only (fun _ => False) w w4) := ho13.trans ho4 (fun i hi e => by omega)
 clear hf2 ho2 ho12 hr3 hf3 ho3 ho13 hr4 hf4 ho4 e4 HF1 HO1
 go_wp2_with (at_builtin; first | (refine wpList_append_run rfl _ _ 37 rfl _ _ (.slice a3 (4 + 4) c3) rfl rfl HR3.out ?_) | (refine wpList_append_run rfl _ _ 37 rfl _ _ (.slice a4 (8 + n) c4) rfl rfl HR4.out ?_))
 clear HR3 HR4
 go_loopw [6] (fun b wr => ∃ k : Nat, k ≤ 116 - n ∧ Fresh wr w.heap.size b (((lay4 id ++ lay4 n) ++ D) ++ List.replicate k 0) ∧ Only (fun _ => False) w wr) (fun b _ => match b with | .slice _ m _ => 124 - m | _ => 0)
 case atStart => exact ⟨0, by omega, by simpa using HF4.out, HO4.out⟩
 case round =>
  obtain ⟨k, hk, hf, ho⟩ := hrel
  obtain ⟨w5, rfl⟩ : ∃ w2, w2 = wr := ⟨_, rfl⟩
  have hl : (((lay4 id ++ lay4 n) ++ D) ++ List.replicate k 0).length = 8 + n + k := by simp only [List.length_append, lay4_length, List.length_replicate]; have := HN.out; omega
  obtain ⟨a5, c5, rfl⟩ := hf.form
  rw [hl] at hf
  rw [hl]
  have HF : Hid (Fresh w5 w.heap.size (.slice a5 (8 + n + k) c5) (((lay4 id ++ lay4 n) ++ D) ++ List.replicate k 0)) := hf
  have HO : Hid (Only (fun _ => False) w w5) := ho
  obtain ⟨m, hm⟩ : ∃ m, m = 8 + n + k := ⟨_, rfl⟩
  rw [← hm] at hf hl HF
  rw [← hm]
  have HMM : Hid (m = 8 + n + k) := hm
  by_cases hlt : k < 116 - n
  ·have k1 : (m : Int) < 124 := by omega
   obtain ⟨a6, c6, w6, hr6, hf6, ho6⟩ := app_one hf ho.size 0 (by omega) (by omega)
   rw [hl] at hr6 hf6
   have HR : Hid _ := hr6
   have HF6 : Hid (Fresh w6 w.heap.size (.slice a6 (m + 1) c6) (((lay4 id ++ lay4 n) ++ D) ++ List.replicate (k + 1) 0)) := by rw [rep_snoc]; exact hf6
   have HO6 : Hid (Only (fun _ => False) w w6) := ho.trans ho6 (fun i hi e => by omega)
   clear hf ho hr6 hf6 ho6 hl hm
   go_wp2_with (at_builtin; go_must (refine wpList_append_run rfl _ _ 37 rfl _ _ (.slice a6 (m + 1) c6) rfl rfl HR.out ?_))
   go_roundw
   case rel => exact ⟨k + 1, by omega, HF6.out, HO6.out⟩
   case measure => show 124 - (m + 1) < 124 - m; omega
  ·have hk2 : k = 116 - n := by omega
   have k1 : ¬ (m : Int) < 124 := by omega
   have hrest : ((lay4 id ++ lay4 n) ++ D) ++ List.replicate k 0 = rest id D := by
    unfold rest
    rw [hk2, ← HN.out, List.append_assoc, List.append_assoc]
   rw [hrest] at HF
   have hsum : sumN (rest id D) < 4294967296 := sumN_lt _ HF.out.2.2
   have HS : Hid (Calls Tryz.prog 128 #[.slice a5 m c5] w5 fun e w' => e = .returned (.int .u32 (sumN (rest id D) : Nat)) ∧ w' = w5) := rsum_any _ _ _ HF.out.bytes
   obtain ⟨x, hx⟩ : ∃ x, x = sumN (rest id D) := ⟨_, rfl⟩
   have HX : Hid (x = sumN (rest id D)) := hx
   rw [← hx] at hsum HS
   clear hf ho hrest hx hl hm hk2
   go_wp2_with fail
   refine (show Calls Tryz.prog 128 _ _ _ from HS.out).mono ?_
   rintro e w6 ⟨rfl, rfl⟩
   clear HS
   go_wp2_with fail
   refine (lay_any x w6 (by omega)).mono ?_
   rintro e w7 ⟨u7, rfl, hf7, ho7⟩
   have ho17 : Only (fun _ => False) w w7 := HO.out.trans ho7 (fun _ _ e => e)
   obtain ⟨a8, c8, w8, hr8, hf8, ho8⟩ := app_fresh hf7 (HF.out.bytes.frame ho7) ho7.size (by rw [lay4_length]; have := HF.out.2.1; rw [rest_length id D (by have := HN.out; omega)]; omega)
   rw [lay4_length, rest_length id D (by have := HN.out; omega)] at hr8 hf8
   have HR8 : Hid _ := hr8
   have HF8 : Hid (Fresh w8 w.heap.size (.slice a8 (4 + 124) c8) (page id D)) := by
    unfold page
    rw [← HX.out]
    have h1 := hf8
    refine ⟨⟨h1.1.1, ?_⟩, h1.2⟩
    rcases h1.1.2 with h2 | ⟨g, cap, cur, hv, hb, hr⟩
    ·exact .inl h2
    ·exact .inr ⟨g, cap, cur, hv, by have := HO.out.size; omega, hr⟩
   have HO8 : Hid (Only (fun _ => False) w w8) := ho17.trans ho8 (fun i hi e => by have := HO.out.size; omega)
   clear hf7 ho7 ho17 hr8 hf8 ho8 HF HO
   go_wp2_with (at_builtin; go_must (refine wpList_append_run rfl _ _ 37 rfl _ _ (.slice a8 (4 + 124) c8) rfl rfl HR8.out ?_))
   go_ret2
   exact ⟨_, rfl, HF8.out, HO8.out⟩
set_option maxRecDepth 100000 in
set_option maxHeartbeats 1000000 in
theorem same_dec (v1 v2 : Value) (A B : List Nat) (w : World) (h1 : BytesAt w v1 A) (h2 : BytesAt w v2 B) :
  Calls Tryz.prog 10 #[v1, v2] w fun e w' => e = .returned (.bool (decide (A = B))) ∧ Only (fun _ => False) w w' := by
 obtain ⟨a1, c1, rfl, _, f1⟩ := h1.form
 obtain ⟨a2, c2, rfl, _, f2⟩ := h2.form
 by_cases hlen : A.length = B.length
 ·rw [← hlen] at f2
  rw [← hlen]
  obtain ⟨m, hm⟩ : ∃ m, m = A.length := ⟨_, rfl⟩
  have HM : Hid (m = A.length ∧ m = B.length) := ⟨hm, hm.trans hlen⟩
  have hm2 : m ≤ 140737488355328 := hm ▸ h1.2.1
  rw [← hm]
  rw [← hm] at f1 f2
  have F1 : Hid _ := f1
  have F2 : Hid _ := f2
  clear h1 h2 hm hlen f1 f2
  go_enter Tryz.func10, Tryz.ntmps10
  go_wp2
  go_loopw [5] (fun t wr => ∃ k : Nat, k ≤ m ∧ t = .int .i64 k ∧ A.take k = B.take k ∧ Only (fun _ => False) w wr) (fun t _ => m - (intOf t).toNat)
  case atStart => exact ⟨0, Nat.zero_le _, rfl, rfl, Only.refl _ _⟩
  case round =>
   obtain ⟨k, hk, rfl, htk, ho⟩ := hrel
   have HTK : Hid (A.take k = B.take k) := htk
   clear htk
   by_cases hlt : k < m
   ·obtain ⟨g1, o1, rfl, x1⟩ := F1.out k hlt
    obtain ⟨g2, o2, rfl, x2⟩ := F2.out k hlt
    have y1 := ho.cell x1 (fun e => e)
    have y2 := ho.cell x2 (fun e => e)
    have k0 : (0 : Int) ≤ (k : Int) := Int.natCast_nonneg _
    have k1 : (k : Int) < (m : Int) := by omega
    obtain ⟨z1, hz1⟩ : ∃ z, z = A.getD k 0 := ⟨_, rfl⟩
    obtain ⟨z2, hz2⟩ : ∃ z, z = B.getD k 0 := ⟨_, rfl⟩
    rw [← hz1] at y1
    rw [← hz2] at y2
    have HZ : Hid (z1 = A.getD k 0 ∧ z2 = B.getD k 0) := ⟨hz1, hz2⟩
    have HO : Hid (Only (fun _ => False) w wr) := ho
    clear x1 x2 ho hz1 hz2
    by_cases hzz : z1 = z2
    ·have he : ((z1 : Int) != (z2 : Int)) = false := by simp [hzz]
     have HZZ : Hid (z1 = z2) := hzz
     clear hzz
     go_wp2_with fail
     go_region_held3 (fun w' => w'.cell? ⟨g1, o1 + k, none⟩ = some (.int .u8 (z1 : Nat)) ∧ w'.cell? ⟨g2, o2 + k, none⟩ = some (.int .u8 (z2 : Nat))) (go_keep) (fail)
     go_wp2
     go_roundw
     case rel =>
      refine ⟨k + 1, by omega, by go_num, ?_, HO.out.drew⟩
      rw [take_one A k (by have := HM.out; omega), take_one B k (by have := HM.out; omega), HTK.out, ← HZ.out.1, ← HZ.out.2, HZZ.out]
     case measure => simp [intOf]; omega
    ·have he : ((z1 : Int) != (z2 : Int)) = true := by simp; omega
     have HNE : Hid (A ≠ B) := fun e => hzz (by rw [HZ.out.1, HZ.out.2, e])
     go_wp2_with fail
     go_region_held3 (fun w' => w'.cell? ⟨g1, o1 + k, none⟩ = some (.int .u8 (z1 : Nat)) ∧ w'.cell? ⟨g2, o2 + k, none⟩ = some (.int .u8 (z2 : Nat))) (go_keep) (fail)
     go_wp2
     go_ret
     exact ⟨by rw [decide_eq_false HNE.out]; rfl, HO.out.drew⟩
   ·obtain rfl : k = m := by omega
    have HE : Hid (A = B) := by
     have := HTK.out
     show _ = _
     rwa [List.take_of_length_le (by have := HM.out; omega), List.take_of_length_le (by have := HM.out; omega)] at this
    have HO : Hid (Only (fun _ => False) w wr) := ho
    clear ho
    go_wp2
    go_ret
    exact ⟨by rw [decide_eq_true HE.out]; rfl, HO.out⟩
 ·have he : ((A.length : Int) != (B.length : Int)) = true := by simp; omega
  have HNE : Hid (A ≠ B) := fun e => hlen (by rw [e])
  obtain ⟨n1, hn1⟩ : ∃ n, n = A.length := ⟨_, rfl⟩
  obtain ⟨n2, hn2⟩ : ∃ n, n = B.length := ⟨_, rfl⟩
  rw [← hn1, ← hn2] at he
  rw [← hn1, ← hn2]
  clear h1 h2 f1 f2 hlen hn1 hn2
  go_enter Tryz.func10, Tryz.ntmps10
  go_wp2
  go_ret
  exact ⟨by rw [decide_eq_false HNE.out]; rfl, Only.refl _ _⟩
end Go.Proofs.YtlcglapcmdpkfaaGreat
