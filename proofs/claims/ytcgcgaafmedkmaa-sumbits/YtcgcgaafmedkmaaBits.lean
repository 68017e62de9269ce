/- The walk of SumBits. -/
import Derived.Test.YtcgcgaafmedkmaaXor
import Derived.Test.YtcgcgaafmedkmaaCrcb
namespace Go.Proofs.Ytcgcgaafmedkmaa
open Go.RowKit
set_option linter.unusedSimpArgs false
set_option linter.unusedVariables false

set_option maxRecDepth 100000 in
set_option maxHeartbeats 2000000 in
theorem bits_core (vb : Value) (p X : Nat) (Z : List Nat) (w : World) (hb : BytesAt w vb Z) (hX : X < 4294967296) (hX0 : ((X : Int) == 0) = false) (hp : p < Z.length) :
    Calls Try.prog 6 #[vb, .int .i64 p, .int .u32 X] w fun e w' => e = .returned (.bool true) ∧ Below w.heap.size w w' := by
  obtain ⟨ab, cb, rfl, kb, fb⟩ := hb.form
  obtain ⟨n, hn⟩ : ∃ l, l = Z.length := ⟨_, rfl⟩
  have hn2 : n ≤ 140737488355328 := by rw [hn]; exact hb.2.1
  rw [← hn] at hb hp
  rw [← hn]
  have p0 : (0 : Int) ≤ (p : Int) := by omega
  have p1 : ¬ (n : Int) ≤ (p : Int) := by omega
  have HB : Hid (BytesAt w (.slice ab n cb) Z ∧ n = Z.length) := ⟨hb, hn⟩
  clear hb hn fb kb
  go_enter Try.func6, Try.ntmps6
  go_wp2_with fail
  refine (awake_any w).mono ?_
  rintro e w1 ⟨rfl, ho⟩
  have HO : Hid (Only (fun _ => False) w w1) := ho
  clear ho
  go_wp2_with fail
  refine (own_any _ Z w1 (HB.out.1.frame HO.out)).mono ?_
  rintro e w2 ⟨u, rfl, hf, ho⟩
  have O2 : Hid (Only (fun _ => False) w w2) := HO.out.trans ho (fun _ _ e => e)
  have hs2 : w.heap.size ≤ w1.heap.size := HO.out.size
  obtain ⟨g, c, hv, hg1, hg2⟩ := hf.1.form (by have := HB.out.2; omega)
  have hwh : Whole w2 u n (fun j => .int .u8 ((Z.getD j 0 : Nat) : Int)) := by
    rw [HB.out.2]
    refine Whole.ofOwn hf.1 (fun j hj => ?_)
    rw [BL_getD]
    simp [hj]
  rw [← HB.out.2] at hv
  subst hv
  have WH : Hid _ := hwh
  clear ho hf hwh HO
  go_wp2_with fail
  go_loopw [8, 9] (fun d t wr => ∃ k : Nat, ∃ f : Bool, k ≤ 4 ∧ p + k ≤ n ∧ d = .bool f ∧ t = .int .i64 k ∧ (f = true ↔ X % 2 ^ (8 * k) ≠ 0) ∧ Only (fun i => i = g) w2 wr ∧ Whole wr (.slice (some ⟨g, 0, none⟩) n c) n (fun j => .int .u8 ((turned (fun j => Z.getD j 0) X p k j : Nat) : Int))) (fun _ t _ => 4 - (intOf t).toNat)
  case atStart => exact ⟨0, false, by omega, by omega, rfl, rfl, by simp [Nat.mod_one], Only.refl _ _, Whole.congr WH.out (fun j hj => by unfold turned; rw [if_neg (by omega)])⟩
  case round =>
    obtain ⟨k, f, hk, hpk, rfl, rfl, hf, ho, hwh⟩ := hrel
    obtain ⟨w3, rfl⟩ : ∃ w3, w3 = wr := ⟨_, rfl⟩
    have HF : Hid (f = true ↔ X % 2 ^ (8 * k) ≠ 0) := hf
    have HO3 : Hid (Only (fun i => i = g) w2 w3) := ho
    have HW3 : Hid _ := hwh
    have k0 : (0 : Int) ≤ (k : Int) := by omega
    clear hf
    by_cases hlt : k < 4 ∧ p + k < n
    · have k1 : (k : Int) < 4 := by omega
      have k2 : (p : Int) + (k : Int) < (n : Int) := by omega
      have k3 : (0 : Int) ≤ (p : Int) + (k : Int) := by omega
      have hwr : IntKind.i64.wrap ((p : Int) + (k : Int)) = (p : Int) + (k : Int) := by rw [IntKind.wrap_i64]; omega
      have htn : ((p : Int) + (k : Int)).toNat = p + k := by omega
      have hm8 : IntKind.i64.wrap (8 * (k : Int)) = 8 * (k : Int) := by rw [IntKind.wrap_i64]; omega
      have ht8 : (8 * (k : Int)).toNat = 8 * k := by omega
      have hd : ((X : Int) / 2 ^ (8 * k)) % 256 = ((byteOf X k : Nat) : Int) := by
        unfold byteOf
        rw [Int.natCast_emod, Int.natCast_ediv, Int.natCast_pow]
        rfl
      obtain ⟨g', o', c', hv, hcell, hfr⟩ := hwh.form (by omega)
      simp only [Value.slice.injEq, Option.some.injEq, Addr.mk.injEq, and_true, true_and] at hv
      obtain ⟨⟨rfl, rfl⟩, rfl⟩ := hv
      have y4 := hcell (p + k) hlt.2
      have y5 := hfr (p + k) hlt.2
      rw [Nat.zero_add] at y4 y5
      have ht : turned (fun j => Z.getD j 0) X p k (p + k) = Z.getD (p + k) 0 := by unfold turned; rw [if_neg (by omega)]
      rw [ht] at y4
      have hz := getD_lt HB.out.1.2.2 (p + k)
      have hd8 := byteOf_lt X k
      obtain ⟨z, hzz⟩ : ∃ z, z = Z.getD (p + k) 0 := ⟨_, rfl⟩
      obtain ⟨d, hdd⟩ : ∃ d, d = byteOf X k := ⟨_, rfl⟩
      rw [← hzz] at hz y4
      rw [← hdd] at hd8 hd
      have hx := bx8 z d hz hd8
      have HOn : Hid (Only (fun i => i = g) w2 (w3.setCell ⟨g, p + k, none⟩ (.int .u8 ((z ^^^ d : Nat) : Int)))) := HO3.out.setCell _ _ (fun _ => rfl)
      have HWn : Hid (Whole (w3.setCell ⟨g, p + k, none⟩ (.int .u8 ((z ^^^ d : Nat) : Int))) (.slice (some ⟨g, 0, none⟩) n c) n (fun j => .int .u8 ((turned (fun j => Z.getD j 0) X p (k + 1) j : Nat) : Int))) := by
        have := Whole.setCell HW3.out (p + k) hlt.2 (.int .u8 ((z ^^^ d : Nat) : Int))
        rw [Nat.zero_add] at this
        refine Whole.congr this (fun j hj => ?_)
        by_cases e : j = p + k
        · subst e
          simp only [if_true]
          unfold turned
          rw [if_pos (by omega), show p + k - p = k by omega, hzz, hdd]
        · simp only [e, if_false]
          unfold turned
          by_cases l : p ≤ j ∧ j < p + k
          · rw [if_pos l, if_pos (by omega)]
          · rw [if_neg l, if_neg (by omega)]
      have HD : Hid (d = byteOf X k) := hdd
      clear ho hwh hcell hfr ht hzz hdd HO3 HW3
      by_cases hd0 : d = 0
      · have hde : ((d : Int) != 0) = false := by simp [hd0]
        have hlz : (f = true ↔ X % 2 ^ (8 * (k + 1)) ≠ 0) := by
          rw [HF.out]
          have := low_zero X k
          rw [← HD.out] at this
          rw [ne_eq, ne_eq, this]
          simp [hd0]
        have HLZ : Hid (f = true ↔ X % 2 ^ (8 * (k + 1)) ≠ 0) := hlz
        clear hd0 hlz
        cases f
        · go_wp2
          go_roundw
          case rel => exact ⟨k + 1, false, by omega, by omega, rfl, by go_num, HLZ.out, HOn.out, HWn.out⟩
          case measure => simp [intOf]; omega
        · go_wp2
          go_roundw
          case rel => exact ⟨k + 1, true, by omega, by omega, rfl, by go_num, HLZ.out, HOn.out, HWn.out⟩
          case measure => simp [intOf]; omega
      · have hde : ((d : Int) != 0) = true := by simp [hd0]
        have hlz : (true = true ↔ X % 2 ^ (8 * (k + 1)) ≠ 0) := by
          have := low_zero X k
          rw [← HD.out] at this
          rw [ne_eq, this]
          simp [hd0]
        have HLZ : Hid (true = true ↔ X % 2 ^ (8 * (k + 1)) ≠ 0) := hlz
        clear hd0 hlz
        cases f
        · go_wp2
          go_roundw
          case rel => exact ⟨k + 1, true, by omega, by omega, rfl, by go_num, HLZ.out, HOn.out, HWn.out⟩
          case measure => simp [intOf]; omega
        · go_wp2
          go_roundw
          case rel => exact ⟨k + 1, true, by omega, by omega, rfl, by go_num, HLZ.out, HOn.out, HWn.out⟩
          case measure => simp [intOf]; omega
    · have hC : BytesAt w3 (.slice (some ⟨g, 0, none⟩) n c) ((List.range n).map (turned (fun j => Z.getD j 0) X p k)) := by
        refine Whole.bytes (f := turned (fun j => Z.getD j 0) X p k) HW3.out hn2 (fun j hj => ?_)
        unfold turned
        split
        · exact Nat.xor_lt_two_pow (n := 8) (getD_lt HB.out.1.2.2 j) (byteOf_lt _ _)
        · exact getD_lt HB.out.1.2.2 j
      have oW : Only (fun _ => False) w w3 := O2.out.trans ho (fun i hi e => by omega)
      have hZ := HB.out.1.frame oW
      have eZ : Z = (List.range n).map fun j => Z.getD j 0 := by
        have := take_range Z n (by have := HB.out.2; omega)
        rwa [HB.out.2, List.take_length, ← HB.out.2] at this
      have hS := sum_turned (fun j => Z.getD j 0) X p k n hk hpk
      rw [← eZ] at hS
      obtain ⟨D, hD⟩ : ∃ D, D = (List.range n).map (turned (fun j => Z.getD j 0) X p k) := ⟨_, rfl⟩
      rw [← hD] at hS hC
      have CH : Hid (OS (.slice ab n cb) Z w3 fun w4 => Calls Try.prog 10 #[.slice (some ⟨g, 0, none⟩) n c] w4 fun e w5 => e = .returned (.int .u32 (sumN D : Nat)) ∧ Hid (Only (fun _ => False) w w5)) := by
        refine os_any hZ (fun w4 o4 => ?_)
        refine (sum_any _ D w4 (hC.frame o4)).mono ?_
        rintro e w5 ⟨rfl, rfl⟩
        exact ⟨rfl, oW.trans o4 (fun _ _ e => e)⟩
      unfold OS at CH
      obtain ⟨x1, hx1⟩ : ∃ x, x = sumN Z := ⟨_, rfl⟩
      obtain ⟨x2, hx2⟩ : ∃ x, x = sumN D := ⟨_, rfl⟩
      rw [← hx1] at CH hS
      rw [← hx2] at CH hS
      have hfin : (((x1 : Int) != (x2 : Int)) == f) = true := by
        cases f
        · have h0 : x1 = x2 := hS.2 (by have := HF.out; simpa using this)
          simp [h0]
        · have h0 : ¬ x1 = x2 := fun e => (HF.out.1 rfl) (hS.1 e)
          have h1 : ¬ (x1 : Int) = (x2 : Int) := by omega
          simp [h1]
      have HFIN : Hid ((((x1 : Int) != (x2 : Int)) == f) = true) := hfin
      clear hfin hC oW hZ eZ hD hx1 hx2 ho hwh HO3 HW3 WH HF hS
      by_cases hk4 : k < 4
      · have k1 : (k : Int) < 4 := by omega
        have k2 : ¬ (p : Int) + (k : Int) < (n : Int) := by omega
        have hwr : IntKind.i64.wrap ((p : Int) + (k : Int)) = (p : Int) + (k : Int) := by rw [IntKind.wrap_i64]; omega
        go_wp2_with fail
        refine CH.out.mono ?_
        rintro e w4 ⟨u1, rfl, C1⟩
        go_wp2_with fail
        refine C1.out.mono ?_
        rintro e w5 ⟨rfl, C2⟩
        go_wp2_with fail
        refine C2.out.mono ?_
        rintro e w6 ⟨rfl, HE⟩
        clear CH C1 C2
        go_wp2
        go_ret
        exact ⟨congrArg (fun b => Ending.returned (.bool b)) HFIN.out, HE.out.below (fun _ h => h.elim) (Nat.le_refl _)⟩
      · obtain rfl : k = 4 := by omega
        go_wp2_with fail
        refine CH.out.mono ?_
        rintro e w4 ⟨u1, rfl, C1⟩
        go_wp2_with fail
        refine C1.out.mono ?_
        rintro e w5 ⟨rfl, C2⟩
        go_wp2_with fail
        refine C2.out.mono ?_
        rintro e w6 ⟨rfl, HE⟩
        clear CH C1 C2
        go_wp2
        go_ret
        exact ⟨congrArg (fun b => Ending.returned (.bool b)) HFIN.out, HE.out.below (fun _ h => h.elim) (Nat.le_refl _)⟩

set_option maxHeartbeats 1000000 in
theorem bits_none (ab : Option Addr) (n cb : Nat) (p : Int) (X : Nat) (w : World) (h : p < 0 ∨ (n : Int) ≤ p ∨ X = 0) :
    Calls Try.prog 6 #[.slice ab n cb, .int .i64 p, .int .u32 X] w fun e w' => e = .returned (.bool true) ∧ Below w.heap.size w w' := by
  by_cases h1 : p < 0
  · go_enter Try.func6, Try.ntmps6
    go_wp2_with fail
    refine (awake_any w).mono ?_
    rintro e w1 ⟨rfl, ho⟩
    have HO : Hid (Below w.heap.size w w1) := ho.below (fun _ h => h.elim) (Nat.le_refl _)
    clear ho h
    go_wp2
    go_ret
    exact ⟨rfl, HO.out⟩
  · by_cases h2 : (n : Int) ≤ p
    · go_enter Try.func6, Try.ntmps6
      go_wp2_with fail
      refine (awake_any w).mono ?_
      rintro e w1 ⟨rfl, ho⟩
      have HO : Hid (Below w.heap.size w w1) := ho.below (fun _ h => h.elim) (Nat.le_refl _)
      clear ho h
      go_wp2
      go_ret
      exact ⟨rfl, HO.out⟩
    · obtain rfl : X = 0 := by rcases h with h | h | h <;> first | exact h | exact absurd h (by assumption)
      go_enter Try.func6, Try.ntmps6
      go_wp2_with fail
      refine (awake_any w).mono ?_
      rintro e w1 ⟨rfl, ho⟩
      have HO : Hid (Below w.heap.size w w1) := ho.below (fun _ h => h.elim) (Nat.le_refl _)
      clear ho h
      go_wp2
      go_ret
      exact ⟨rfl, HO.out⟩
theorem u32_bounds {z : Int} (h : (Lit.int .u32 z).wf = true) : 0 ≤ z ∧ z ≤ 4294967295 := by
  have h' : IntKind.u32.min ≤ z ∧ z ≤ IntKind.u32.max := by simpa [Lit.wf] using h
  exact h'
theorem bits_any (vb : Value) (p x : Int) (Z : List Nat) (w : World) (hb : BytesAt w vb Z) (hp : (Lit.int .i64 p).wf = true) (hx : (Lit.int .u32 x).wf = true) :
    Calls Try.prog 6 #[vb, .int .i64 p, .int .u32 x] w fun e w' => e = .returned (.bool true) ∧ Below w.heap.size w w' := by
  have hx2 := u32_bounds hx
  obtain ⟨X, rfl⟩ : ∃ X : Nat, x = X := ⟨x.toNat, by omega⟩
  by_cases h : p < 0 ∨ (Z.length : Int) ≤ p ∨ X = 0
  · obtain ⟨ab, cb, rfl, _, _⟩ := hb.form
    exact bits_none ab Z.length cb p X w h
  · obtain ⟨P, rfl⟩ : ∃ P : Nat, p = P := ⟨p.toNat, by omega⟩
    have h3 : ¬ X = 0 := fun e => h (.inr (.inr e))
    exact bits_core vb P X Z w hb (by omega) (by simp [h3]) (by omega)
end Go.Proofs.Ytcgcgaafmedkmaa
