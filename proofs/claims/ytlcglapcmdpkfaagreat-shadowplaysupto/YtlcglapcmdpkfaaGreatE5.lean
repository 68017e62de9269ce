import Derived.Test.YtlcglapcmdpkfaaGreatE4
import Derived.Test.YtlcglapcmdpkfaaGreatE3
namespace Go.Proofs.YtlcglapcmdpkfaaGreat
open Go.RowKit
set_option linter.unusedSimpArgs false
set_option linter.unusedVariables false
theorem app_fresh0 {w : World} {B : Nat} {v : Value} {zs ys : List Nat} (h : Fresh w B v zs) (ad : Addr) (c : Nat) (hu : ∀ j, j < ys.length → w.cell? (ad.add j) = some (.int .u8 (ys.getD j 0 : Nat))) (hy : ∀ z ∈ ys, z < 256) (hB : B ≤ w.heap.size) (hl : zs.length + ys.length ≤ 140737488355328) :
  ∃ a cap w', (∀ ty, (Builtin.append_ #[37, 37] ty #[v, .slice (some ad) ys.length c]).run Tryz.prog w = .ok (.slice a (zs.length + ys.length) cap) w') ∧ Fresh w' B (.slice a (zs.length + ys.length) cap) (zs ++ ys) ∧ Only (fun i => B ≤ i) w w' := by
 obtain ⟨i0, hi0, hz0, hz1, hz2⟩ := info_parts info5
 have hnews : ∀ j x, (BL ys)[j]? = some x → w.cell? (ad.add j) = some x := fun j x hx => by
  have hj : j < ys.length := by have := (List.getElem?_eq_some_iff.1 hx).1; rwa [BL_length] at this
  rw [hu j (by omega)]
  rw [BL_get _ _ hj] at hx
  rw [← hx]
  simp [List.getD, hj]
 have key := fun ty => run_append_own_at (P := Tryz.prog) w B 37 ty 5 i0 _ 1 1 Tryz.underlying37 hi0 hz0 hz1 hz2 rfl (by omega) v zs.length (BL zs) h.1 ad ys.length c (BL ys) (by rw [BL_length]; omega) hnews (BL_one ys) (by unfold maxLen; omega) (by omega) hB
 obtain ⟨v', w', hr, own', hg, _, _⟩ := key 0
 obtain ⟨a, cap, rfl⟩ := ownsRow_slice own'
 exact ⟨a, cap, w', fun ty => by rw [← hr]; rfl, Fresh.more own' hl h.2.2 hy, (Only.refl _ w).grown hg (fun k e hk => (own_lt h k e).1)⟩
set_option maxRecDepth 100000 in
set_option maxHeartbeats 2000000 in
theorem rpread_in (r K B : Nat) (P : Nat) (rv : Value) (rs : List RW) (d : DS) (w : World) (h : RefAt w B r K rv d rs) (hP : P < d.n / 4) (hl : d.life ≠ 0) (hb : ByteD d) (hg : Good d) (hp : d.pend.length ≤ 10000000000) :
  Calls Tryz.prog 100 #[.pointer (some ⟨r, 0, none⟩), .int .i64 P] w fun e w' => UnpIs (unp (pgN d P 4)) w e w' := by
 have HR := rcount_any r d.n w h.n2 h.c0
 have n2 := h.n2
 have HD : Hid (RefAt w B r K rv d rs) := h
 have HB : Hid (ByteD d) := hb
 have HGD : Hid (Good d) := hg
 have HL : Hid (d.life ≠ 0) := hl
 have HP : Hid (P < d.n / 4) := hP
 have HPE : Hid (d.pend.length ≤ 10000000000) := hp
 have hP2 : P < 2048 := by omega
 obtain ⟨cn, hcn⟩ : ∃ c, c = d.n / 4 := ⟨_, rfl⟩
 rw [← hcn] at HR hP
 have p0 : ¬ (P : Int) < 0 := by omega
 have p1 : decide (cn ≤ P) = false := by simp; omega
 clear h hb hl hP hg hcn hp
 go_enter Tryz.func100, Tryz.ntmps100
 go_wp2_with fail
 refine HR.mono ?_
 rintro e w1 ⟨rfl, rfl⟩
 clear HR
 go_wp2_with fail
 go_loopw [7, 8] (fun b t wr => ∃ k : Nat, k ≤ 4 ∧ t = .int .i64 k ∧ Fresh wr w1.heap.size b (pgN d P k) ∧ Only (fun _ => False) w1 wr) (fun _ t _ => 4 - (intOf t).toNat)
 case atStart => exact ⟨0, by omega, rfl, Fresh.nil _ _, Only.refl _ _⟩
 case round =>
  obtain ⟨k, hk, rfl, hf, ho⟩ := hrel
  obtain ⟨w3, rfl⟩ : ∃ w3, w3 = wr := ⟨_, rfl⟩
  obtain ⟨b, rfl⟩ : ∃ x, x = u7 := ⟨_, rfl⟩
  have HF : Hid (Fresh w3 w1.heap.size b (pgN d P k)) := hf
  have HO : Hid (Only (fun _ => False) w1 w3) := ho
  by_cases hlt : k < 4
  ·have k1 : (k : Int) < 4 := by omega
   have m1 : IntKind.i64.wrap (4 * (P : Int)) = 4 * (P : Int) := by rw [IntKind.wrap_i64]; omega
   have m2 : IntKind.i64.wrap (4 * (P : Int) + (k : Int)) = 4 * (P : Int) + (k : Int) := by rw [IntKind.wrap_i64]; omega
   obtain ⟨q, hq⟩ : ∃ q, q = 4 * P + k := ⟨_, rfl⟩
   have m5 : 4 * (P : Int) + (k : Int) = (q : Int) := by omega
   rw [m5] at m2
   have HQ : Hid (q = 4 * P + k) := hq
   have HRD : Hid (Calls Tryz.prog 9 #[.pointer (some ⟨r, 0, none⟩), .int .i64 q] w3 fun e w' => RdIs w3 w' e (d.sec q)) := rread_any (HD.out.frame ho (fun _ _ e => e)) HGD.out HL.out (by have := HPE.out; omega) q (by have := HP.out; omega)
   clear hf ho hq
   go_wp2_with fail
   refine (show Calls Tryz.prog 9 _ _ _ from HRD.out).mono ?_
   rintro e w4 ⟨g, cap, rfl, hrg, ho4⟩
   clear HRD
   have hsn := secN_length (d.sec q)
   obtain ⟨a5, c5, w5, hr5, hf5, ho5⟩ := app_fresh0 (ys := secN (d.sec q)) (HF.out.frame ho4) ⟨g, 0, none⟩ cap (fun j hj => by
    rw [hsn] at hj
    rw [Addr.add_mid]
    have := hrg j _ (secL_get _ j hj)
    rw [this, secN_getD _ j hj]
    have := HB.out.sec q j
    simp only [Option.some.injEq, Value.int.injEq, true_and]
    omega) (secN_lt (HB.out.sec q)) (by have := HO.out.size; have := ho4.size; omega) (by rw [hsn, pgN_length]; omega)
   have el : (pgN d P k).length + (secN (d.sec q)).length = 32 * k + 32 := by rw [hsn, pgN_length]
   rw [el] at hr5 hf5
   rw [hsn] at hr5
   have HR5 : Hid _ := hr5
   have HF5 : Hid (Fresh w5 w1.heap.size (.slice a5 (32 * k + 32) c5) (pgN d P (k + 1))) := by
    show Fresh w5 w1.heap.size (.slice a5 (32 * k + 32) c5) (pgN d P k ++ secN (d.sec (4 * P + k)))
    rw [← HQ.out]
    exact hf5
   have HO5 : Hid (Only (fun _ => False) w1 w5) := (HO.out.trans ho4 (fun _ _ e => e)).trans ho5 (fun i hi e => by omega)
   obtain ⟨nl, hnl⟩ : ∃ n, n = 32 * k + 32 := ⟨_, rfl⟩
   rw [← hnl] at HR5 HF5
   clear hrg ho4 hsn hr5 hf5 ho5 el HF HO hnl
   go_wp2_with (at_builtin; go_must (refine wpList_append_run rfl _ _ 37 rfl _ _ (.slice a5 nl c5) rfl rfl HR5.out ?_))
   go_roundw
   case rel => exact ⟨k + 1, by omega, by go_num, HF5.out, HO5.out⟩
   case measure => simp [intOf]; omega
  ·obtain rfl : k = 4 := by omega
   have HU : Hid (Calls Tryz.prog 117 #[b] w3 fun e w' => UnpIs (unp (pgN d P 4)) w3 e w') := runpack_any _ _ w3 hf.bytes (pgN_length d P 4)
   clear hf ho HF
   go_wp2_with fail
   refine (show Calls Tryz.prog 117 _ _ _ from HU.out).mono ?_
   intro e w4 hU
   clear HU
   cases hr : unp (pgN d P 4) with
   | none =>
     have HRR : Hid (unp (pgN d P 4) = none) := hr
     rw [hr] at hU
     obtain ⟨rfl, ho4⟩ := hU
     have HE : Hid (Only (fun _ => False) w1 w4) := HO.out.trans ho4 (fun _ _ e => e)
     clear ho4 hr
     go_wp2
     go_ret3
     show UnpIs (unp (pgN d P 4)) w1 _ _
     rw [HRR.out]
     exact ⟨rfl, HE.out⟩
   | some x =>
     obtain ⟨i, D⟩ := x
     have HRR : Hid (unp (pgN d P 4) = some (i, D)) := hr
     rw [hr] at hU
     obtain ⟨u, rfl, hf4, ho4⟩ := hU
     have HE : Hid (Fresh w4 w1.heap.size u D ∧ Only (fun _ => False) w1 w4) := by
      refine ⟨⟨⟨hf4.1.1, ?_⟩, hf4.2⟩, HO.out.trans ho4 (fun _ _ e => e)⟩
      rcases hf4.1.2 with h2 | ⟨g', cap', cur', hv', hb', hr'⟩
      ·exact .inl h2
      ·exact .inr ⟨g', cap', cur', hv', by have := HO.out.size; omega, hr'⟩
     clear hf4 ho4 hr
     go_wp2
     go_ret3
     show UnpIs (unp (pgN d P 4)) w1 _ _
     rw [HRR.out]
     exact ⟨u, rfl, HE.out⟩
end Go.Proofs.YtlcglapcmdpkfaaGreat
