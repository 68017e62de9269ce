/- The walk of SumXor. -/
import Derived.Test.YtcgcgaafmedkmaaS6
namespace Go.Proofs.Ytcgcgaafmedkmaa
open Go.RowKit
set_option linter.unusedSimpArgs false
set_option linter.unusedVariables false

theorem take_range (zs : List Nat) (n : Nat) (h : n ≤ zs.length) : zs.take n = (List.range n).map fun i => zs.getD i 0 := by
  apply List.ext_getElem
  · simp; omega
  · intro i h1 h2
    simp at h1
    have : i < zs.length := by omega
    simp [List.getD, this]

set_option maxRecDepth 100000 in
set_option maxHeartbeats 2000000 in
theorem xor_any (va vb vc : Value) (A B C : List Nat) (w : World) (ha : BytesAt w va A) (hb : BytesAt w vb B) (hc : BytesAt w vc C) :
    Calls Try.prog 7 #[va, vb, vc] w fun e w' => e = .returned (.bool true) ∧ Below w.heap.size w w' := by
  obtain ⟨aa, ca, rfl, ka, fa⟩ := ha.form
  obtain ⟨ab, cb, rfl, kb, fb⟩ := hb.form
  obtain ⟨ac, cc, rfl, kc, fc⟩ := hc.form
  obtain ⟨la, hla⟩ : ∃ l, l = A.length := ⟨_, rfl⟩
  obtain ⟨lb, hlb⟩ : ∃ l, l = B.length := ⟨_, rfl⟩
  obtain ⟨lc, hlc⟩ : ∃ l, l = C.length := ⟨_, rfl⟩
  obtain ⟨n, hn⟩ : ∃ n, n = min (min la lb) lc := ⟨_, rfl⟩
  have na : n ≤ la := by omega
  have nb : n ≤ lb := by omega
  have nc : n ≤ lc := by omega
  obtain ⟨m, hm⟩ : ∃ m, m = min la lb := ⟨_, rfl⟩
  have hm1 : (if lb < la then (lb : Int) else (la : Int)) = (m : Int) := by split <;> omega
  have hm2 : (if lc < m then (lc : Int) else (m : Int)) = (n : Int) := by split <;> omega
  have ma : la ≤ 140737488355328 := by rw [hla]; exact ha.2.1
  rw [← hla] at ha fa ka
  rw [← hlb] at hb fb kb
  rw [← hlc] at hc fc kc
  rw [← hla, ← hlb, ← hlc]
  have HA : Hid (BytesAt w (.slice aa la ca) A ∧ la = A.length) := ⟨ha, hla⟩
  have HB : Hid (BytesAt w (.slice ab lb cb) B ∧ lb = B.length) := ⟨hb, hlb⟩
  have HC : Hid (BytesAt w (.slice ac lc cc) C ∧ lc = C.length) := ⟨hc, hlc⟩
  have FA : Hid _ := fa
  have FB : Hid _ := fb
  have FC : Hid _ := fc
  clear ha hb hc hla hlb hlc fa fb fc hn hm
  obtain ⟨M, hmk, hwhole⟩ := made_any n (by omega)
  have HWHO : Hid _ := hwhole
  clear hwhole
  go_enter Try.func7, Try.ntmps7
  go_wp2_with fail
  refine (awake_any w).mono ?_
  rintro e w1 ⟨rfl, ho⟩
  have HO : Hid (Only (fun _ => False) w w1) := ho
  clear ho
  go_wp2_with fail
  clear hmk hm1 hm2
  have OA : Hid (Only (fun _ => False) w (w1.alloc (.cells M 5))) := HO.out.alloc _
  have hwh := HWHO.out w1
  have WH : Hid _ := hwh
  have hws : w.heap.size ≤ w1.heap.size := HO.out.size
  clear hwh
  obtain ⟨w2, hw2⟩ : ∃ w2, w2 = w1.alloc (.cells M 5) := ⟨_, rfl⟩
  obtain ⟨g, hg⟩ : ∃ g, g = w1.heap.size := ⟨_, rfl⟩
  rw [← hw2, ← hg] at WH
  rw [← hw2] at OA
  rw [← hw2]
  rw [← hg] at hws
  rw [← hg]
  clear hw2 hg HO
  go_loopw [9] (fun t wr => ∃ k : Nat, k ≤ n ∧ t = .int .i64 k ∧ Only (fun i => i = g) w2 wr ∧ Whole wr (.slice (some ⟨g, 0, none⟩) n n) n (fun j => .int .u8 ((if j < k then A.getD j 0 ^^^ B.getD j 0 ^^^ C.getD j 0 else 0 : Nat) : Int))) (fun t _ => n - (intOf t).toNat)
  case atStart => exact ⟨0, Nat.zero_le _, rfl, Only.refl _ _, Whole.congr WH.out (fun j hj => by simp)⟩
  case round =>
    obtain ⟨k, hk, rfl, ho, hwh⟩ := hrel
    obtain ⟨w3, rfl⟩ : ∃ w3, w3 = wr := ⟨_, rfl⟩
    have HO3 : Hid (Only (fun i => i = g) w2 w3) := ho
    have HW3 : Hid _ := hwh
    by_cases hlt : k < n
    · have k0 : (0 : Int) ≤ (k : Int) := Int.natCast_nonneg _
      have k1 : (k : Int) < (n : Int) := by omega
      have k2 : (k : Int) < (la : Int) := by omega
      have k3 : (k : Int) < (lb : Int) := by omega
      have k4 : (k : Int) < (lc : Int) := by omega
      obtain ⟨g1, o1, rfl, x1⟩ := FA.out k (by omega)
      obtain ⟨g2, o2, rfl, x2⟩ := FB.out k (by omega)
      obtain ⟨g3, o3, rfl, x3⟩ := FC.out k (by omega)
      have b1 := World.block_lt_of_cell? w _ x1
      have b2 := World.block_lt_of_cell? w _ x2
      have b3 := World.block_lt_of_cell? w _ x3
      simp only at b1 b2 b3
      have y1 := ho.cell (OA.out.cell x1 (fun e => e)) (by simp; omega)
      have y2 := ho.cell (OA.out.cell x2 (fun e => e)) (by simp; omega)
      have y3 := ho.cell (OA.out.cell x3 (fun e => e)) (by simp; omega)
      obtain ⟨g', o', c', hv, hcell, hfr⟩ := hwh.form (by omega)
      simp only [Value.slice.injEq, Option.some.injEq, Addr.mk.injEq, and_true, true_and] at hv
      obtain ⟨⟨rfl, rfl⟩, rfl⟩ := hv
      have y4 := hcell k hlt
      have y5 := hfr k hlt
      rw [Nat.zero_add] at y4 y5
      have za := getD_lt HA.out.1.2.2 k
      have zb := getD_lt HB.out.1.2.2 k
      have zc := getD_lt HC.out.1.2.2 k
      obtain ⟨za', ha⟩ : ∃ z, z = A.getD k 0 := ⟨_, rfl⟩
      obtain ⟨zb', hb⟩ : ∃ z, z = B.getD k 0 := ⟨_, rfl⟩
      obtain ⟨zc', hc⟩ : ∃ z, z = C.getD k 0 := ⟨_, rfl⟩
      rw [← ha] at za y1
      rw [← hb] at zb y2
      rw [← hc] at zc y3
      have HZ : Hid (za' = A.getD k 0 ∧ zb' = B.getD k 0 ∧ zc' = C.getD k 0) := ⟨ha, hb, hc⟩
      have hx1 := bx8 za' zb' za zb
      have hx2 := bx8 (za' ^^^ zb') zc' (Nat.xor_lt_two_pow (n := 8) za zb) zc
      have hne : ¬ g1 = g ∧ ¬ g2 = g ∧ ¬ g3 = g := ⟨by omega, by omega, by omega⟩
      clear ho hwh x1 x2 x3 hcell hfr ha hb hc
      go_wp2_with fail
      have HOn : Hid (Only (fun i => i = g) w2 (w3.setCell ⟨g, k, none⟩ (.int .u8 ((za' ^^^ zb' ^^^ zc' : Nat) : Int)))) := HO3.out.setCell _ _ (fun _ => rfl)
      have HWn : Hid (Whole (w3.setCell ⟨g, k, none⟩ (.int .u8 ((za' ^^^ zb' ^^^ zc' : Nat) : Int))) (.slice (some ⟨g, 0, none⟩) n n) n (fun j => .int .u8 ((if j < k + 1 then A.getD j 0 ^^^ B.getD j 0 ^^^ C.getD j 0 else 0 : Nat) : Int))) := by
        have := Whole.setCell HW3.out k hlt (.int .u8 ((za' ^^^ zb' ^^^ zc' : Nat) : Int))
        rw [Nat.zero_add] at this
        refine Whole.congr this (fun j hj => ?_)
        by_cases e : j = k
        · subst e; simp [HZ.out.1, HZ.out.2.1, HZ.out.2.2]
        · simp only [e, if_false]
          by_cases l : j < k
          · rw [if_pos l, if_pos (by omega)]
          · rw [if_neg l, if_neg (by omega)]
      clear HO3 HW3
      go_region
      all_goals
        go_wp2
        go_roundw
        case rel => exact ⟨k + 1, by omega, by go_num, HOn.out.drew, HWn.out⟩
        case measure => simp [intOf]; omega
    · obtain rfl : k = n := by omega
      have hd : BytesAt w3 (.slice (some ⟨g, 0, none⟩) k k) ((List.range k).map fun j => A.getD j 0 ^^^ B.getD j 0 ^^^ C.getD j 0) := by
        refine Whole.bytes (f := fun j => A.getD j 0 ^^^ B.getD j 0 ^^^ C.getD j 0) (Whole.congr HW3.out (fun j hj => by simp [hj])) (by omega) (fun j hj => ?_)
        exact Nat.xor_lt_two_pow (n := 8) (Nat.xor_lt_two_pow (n := 8) (getD_lt HA.out.1.2.2 j) (getD_lt HB.out.1.2.2 j)) (getD_lt HC.out.1.2.2 j)
      have oW : Only (fun _ => False) w w3 := OA.out.trans ho (fun i hi e => by omega)
      have hA := (HA.out.1.frame oW).take na
      have hB := (HB.out.1.frame oW).take nb
      have hC := (HC.out.1.frame oW).take nc
      have eA := take_range A k (by have := HA.out.2; omega)
      have eB := take_range B k (by have := HB.out.2; omega)
      have eC := take_range C k (by have := HC.out.2; omega)
      have hX := sumN_xor4 (fun i => A.getD i 0) (fun i => B.getD i 0) (fun i => C.getD i 0) k
      rw [← eA, ← eB, ← eC] at hX
      obtain ⟨D, hD⟩ : ∃ D, D = (List.range k).map fun j => A.getD j 0 ^^^ B.getD j 0 ^^^ C.getD j 0 := ⟨_, rfl⟩
      rw [← hD] at hX hd
      have sA := sumN_lt _ hA.2.2
      have sB := sumN_lt _ hB.2.2
      have sC := sumN_lt _ hC.2.2
      have sD := sumN_lt _ hd.2.2
      have oD : Only (fun _ => False) w3 w3.drew := (Only.refl _ w3).drew
      have CH : Hid (OS (.slice aa k ca) (A.take k) w3.drew fun w4 => OS (.slice ab k cb) (B.take k) w4 fun w5 => OS (.slice ac k cc) (C.take k) w5 fun w6 => Calls Try.prog 10 #[.slice (some ⟨g, 0, none⟩) k k] w6 fun e w7 => e = .returned (.int .u32 (sumN D : Nat)) ∧ Hid (Only (fun _ => False) w w7)) := by
        refine os_any (hA.frame oD) (fun w4 o4 => os_any ((hB.frame oD).frame o4) (fun w5 o5 => os_any (((hC.frame oD).frame o4).frame o5) (fun w6 o6 => ?_)))
        refine (sum_any _ D w6 ((((hd.frame oD).frame o4).frame o5).frame o6)).mono ?_
        rintro e w7 ⟨rfl, rfl⟩
        exact ⟨rfl, ((((oW.trans oD (fun _ _ e => e)).trans o4 (fun _ _ e => e)).trans o5 (fun _ _ e => e)).trans o6 (fun _ _ e => e))⟩
      obtain ⟨x1, hx1⟩ : ∃ x, x = sumN (A.take k) := ⟨_, rfl⟩
      obtain ⟨x2, hx2⟩ : ∃ x, x = sumN (B.take k) := ⟨_, rfl⟩
      obtain ⟨x3, hx3⟩ : ∃ x, x = sumN (C.take k) := ⟨_, rfl⟩
      obtain ⟨x4, hx4⟩ : ∃ x, x = sumN D := ⟨_, rfl⟩
      unfold OS at CH
      rw [← hx1] at sA hX CH
      rw [← hx2] at sB hX CH
      rw [← hx3] at sC hX CH
      rw [← hx4] at sD hX CH
      have q1 := bx32 x1 x2 sA sB
      have q2 := bx32 (x1 ^^^ x2) x3 (Nat.xor_lt_two_pow (n := 32) sA sB) sC
      have q3 := bx32 (x1 ^^^ x2 ^^^ x3) x4 (Nat.xor_lt_two_pow (n := 32) (Nat.xor_lt_two_pow (n := 32) sA sB) sC) sD
      have e0 : (k : Int) ≤ ca := by omega
      have e1 : (k : Int) ≤ cb := by omega
      have e2 : (k : Int) ≤ cc := by omega
      have e3 : (0 : Int) ≤ (k : Int) := by omega
      clear hA hB hC hd oW oD ho hwh HO3 HW3 FA FB FC OA WH HWHO hx1 hx2 hx3 hx4 eA eB eC hD sA sB sC sD HA HB HC
      go_wp2_with fail
      go_region_held3 (fun _ => True) (trivial)
        (first
          | (go_at_call 10; refine C6.out.mono ?_; rintro e w7 ⟨rfl, HE⟩)
          | (go_at_call 10; refine C5.out.mono ?_; rintro e w6 ⟨rfl, C6⟩)
          | (go_at_call 11; refine C4.out.mono ?_; rintro e w5b ⟨u3, rfl, C5⟩)
          | (go_at_call 10; refine C3.out.mono ?_; rintro e w5 ⟨rfl, C4⟩)
          | (go_at_call 11; refine C2.out.mono ?_; rintro e w4b ⟨u2, rfl, C3⟩)
          | (go_at_call 10; refine C1.out.mono ?_; rintro e w4 ⟨rfl, C2⟩)
          | (go_at_call 11; refine CH.out.mono ?_; rintro e w3b ⟨u1, rfl, C1⟩))
      go_wp2
      go_ret
      exact ⟨rfl, HE.out.below (fun _ h => h.elim) (Nat.le_refl _)⟩
end Go.Proofs.Ytcgcgaafmedkmaa
