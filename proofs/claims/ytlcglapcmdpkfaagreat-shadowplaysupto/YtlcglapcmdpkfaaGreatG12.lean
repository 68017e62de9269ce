import Derived.Test.YtlcglapcmdpkfaaGreatG11
import Derived.Test.YtlcglapcmdpkfaaGreatP6
import Derived.Test.YtlcglapcmdpkfaaGreatL2
namespace Go.Proofs.YtlcglapcmdpkfaaGreat
open Go.RowKit
set_option linter.unusedSimpArgs false
set_option linter.unusedVariables false
theorem acc_cons (z : Nat) (r : List Nat) : ∀ k, acc4 (z :: r) 0 (k + 1) = z + 256 * acc4 r 0 k
 | 0 => by simp [acc4]
 | k + 1 => by
   have ih := acc_cons z r k
   rw [show acc4 (z :: r) 0 (k + 1 + 1) = acc4 (z :: r) 0 (k + 1) + (z :: r).getD (0 + (k + 1)) 0 * 2 ^ (8 * (k + 1)) from rfl, ih, show acc4 r 0 (k + 1) = acc4 r 0 k + r.getD (0 + k) 0 * 2 ^ (8 * k) from rfl]
   rw [show 8 * (k + 1) = 8 * k + 8 by omega, Nat.pow_add]
   have e : (z :: r).getD (0 + (k + 1)) 0 = r.getD (0 + k) 0 := by simp [List.getD]
   rw [e]
   generalize r.getD (0 + k) 0 = y
   generalize 2 ^ (8 * k) = p
   generalize acc4 r 0 k = q
   rw [Nat.mul_add, Nat.mul_left_comm 256 y p, ← Nat.mul_assoc y p, Nat.mul_comm (y * p) (2 ^ 8)]
   rw [show (2 ^ 8 : Nat) = 256 from rfl, Nat.mul_left_comm y 256 p]
   omega
theorem laid_nof : ∀ (zs : List Nat), laidN zs = nof zs
 | [] => rfl
 | z :: r => by
   have ih := laid_nof r
   unfold nof at *
   rw [List.length_cons, acc_cons, ← ih]
   simp only [laidN]
   omega
set_option maxRecDepth 100000 in
set_option maxHeartbeats 1000000 in
theorem layk_any (n K : Nat) (hK : K ≤ 8) (w : World) (hn : n < 18446744073709551616) :
  Calls Tryz.prog 92 #[.int .u64 n, .int .i64 (K : Nat)] w fun e w' => ∃ a c, e = .returned (.slice a K c) ∧ Hid (Fresh w' w.heap.size (.slice a K c) (layB n K) ∧ Only (fun _ => False) w w') := by
 go_enter Tryz.func92, Tryz.ntmps92
 go_wp2_with fail
 go_loopw [5, 6] (fun b t wr => ∃ k : Nat, k ≤ K ∧ t = .int .i64 k ∧ Hid (∃ (a : Option Addr) (c : Nat), b = .slice a k c ∧ Fresh wr w.heap.size (.slice a k c) (layB n k) ∧ Only (fun _ => False) w wr)) (fun _ t _ => K - (intOf t).toNat)
 case atStart => exact ⟨0, by omega, rfl, none, 0, rfl, by simpa [layB] using Fresh.nil _ _, Only.refl _ _⟩
 case round =>
  obtain ⟨k, hk, rfl, HI⟩ := hrel
  obtain ⟨a2, c2, rfl, hf, ho⟩ := HI.out
  clear HI
  obtain ⟨w2, rfl⟩ : ∃ w2, w2 = wr := ⟨_, rfl⟩
  by_cases hlt : k < K
  ·have k1 : (k : Int) < (K : Int) := by omega
   have k0 : (0 : Int) ≤ (k : Int) := by omega
   have hl : (layB n k).length = k := layB_length n k
   have hm8 : IntKind.i64.wrap (8 * (k : Int)) = 8 * (k : Int) := by rw [IntKind.wrap_i64]; omega
   obtain ⟨s, hs⟩ : ∃ s, s = 8 * k := ⟨_, rfl⟩
   have hs8 : 8 * (k : Int) = (s : Int) := by omega
   rw [hs8] at hm8
   have s1 : (s : Int) < 64 := by omega
   have s0 : (0 : Int) ≤ (s : Int) := by omega
   have HT : Hid _ := layB_succ n k
   rw [← hs] at HT
   obtain ⟨y, hy⟩ : ∃ y, y = n / 2 ^ s := ⟨_, rfl⟩
   have hyi : (n : Int) / 2 ^ s = (y : Nat) := by rw [hy]; simp
   obtain ⟨q, hq⟩ : ∃ q, q = y % 256 := ⟨_, rfl⟩
   have hqi : (y : Int) % 256 = (q : Nat) := by omega
   have hq2 : q < 256 := by omega
   rw [← hy, ← hq] at HT
   obtain ⟨a, cap, w3, hr, hf3, ho3⟩ := app_one hf ho.size q hq2 (by rw [hl]; omega)
   rw [hl] at hr hf3
   have HR : Hid _ := hr
   have HF3 : Hid (Fresh w3 w.heap.size (.slice a (k + 1) cap) (layB n (k + 1)) ∧ Only (fun _ => False) w w3) := ⟨by rw [HT.out]; exact hf3, ho.trans ho3 (fun i hi e => by omega)⟩
   clear hf ho hf3 ho3 hr hy hq hs HT hl
   go_wp2_with (at_builtin; refine wpList_append_run rfl _ _ 37 rfl _ _ (.slice a (k + 1) cap) rfl rfl HR.out ?_)
   go_roundw
   case rel => exact ⟨k + 1, by omega, by go_num, ⟨a, cap, rfl, HF3.out.1, HF3.out.2⟩⟩
   case measure => simp [intOf]; omega
  ·obtain rfl : k = K := by omega
   have HF : Hid (Fresh w2 w.heap.size (.slice a2 k c2) (layB n k) ∧ Only (fun _ => False) w w2) := ⟨hf, ho⟩
   clear hf ho
   go_wp2
   go_ret
   exact ⟨_, _, rfl, HF⟩
set_option maxRecDepth 100000 in
set_option maxHeartbeats 1000000 in
theorem laidk_any (v : Value) (zs : List Nat) (w : World) (h : BytesAt w v zs) (hl : zs.length ≤ 8) :
  Calls Tryz.prog 98 #[v] w fun e w' => e = .returned (.int .u64 (nof zs : Nat)) ∧ w' = w := by
 rw [← laid_nof]
 obtain ⟨a, c, rfl, hcap, hc⟩ := h.form
 have HL : Hid (∀ z ∈ zs, z < 256) := h.2.2
 have HC : Hid _ := hc
 obtain ⟨n, hn⟩ : ∃ n, n = zs.length := ⟨_, rfl⟩
 have HM : Hid (zs.length = n) := hn.symm
 rw [← hn]
 rw [← hn] at hl
 clear h hc hcap hn
 go_enter Tryz.func98, Tryz.ntmps98
 go_wp2
 go_loopw [3, 4] (fun r t wr => ∃ k : Nat, k ≤ n ∧ t = .int .i64 ((k : Int) - 1) ∧ r = .int .u64 (laidN (zs.drop k) : Nat) ∧ w = wr) (fun _ t _ => (intOf t + 1).toNat)
 case atStart => exact ⟨n, by omega, rfl, by rw [List.drop_eq_nil_of_le (by rw [HM.out]; exact Nat.le_refl _)]; rfl, rfl⟩
 case round =>
  obtain ⟨k, hk, rfl, rfl, rfl⟩ := hrel
  by_cases hlt : 0 < k
  ·obtain ⟨j, rfl⟩ : ∃ j, k = j + 1 := ⟨k - 1, by omega⟩
   have e0 : ((j + 1 : Nat) : Int) - 1 = (j : Int) := by omega
   rw [e0]
   have k0 : (0 : Int) ≤ (j : Int) := by omega
   have k1 : (j : Int) < (n : Int) := by omega
   obtain ⟨g, o, rfl, hcell⟩ := HC.out j (by have := HM.out; omega)
   have HD : Hid _ := laid_drop zs j (by have := HM.out; omega)
   have hz := getD_lt HL.out j
   have hx := laid_lt (zs.drop (j + 1)) (fun z h => HL.out z (List.mem_of_mem_drop h))
   have hp : 256 ^ (zs.drop (j + 1)).length ≤ 256 ^ 7 := Nat.pow_le_pow_right (by omega) (by rw [List.length_drop, HM.out]; omega)
   obtain ⟨x, hxx⟩ : ∃ x, x = laidN (zs.drop (j + 1)) := ⟨_, rfl⟩
   obtain ⟨z, hzz⟩ : ∃ z, z = zs.getD j 0 := ⟨_, rfl⟩
   rw [← hxx] at hx HD
   rw [← hzz] at hz hcell HD
   rw [← hxx]
   have hx2 : x < 72057594037927936 := by
    have : (256 : Nat) ^ 7 = 72057594037927936 := by decide
    omega
   have m1 : IntKind.u64.wrap ((x : Int) * 256) = ((x * 256 : Nat) : Int) := by rw [IntKind.wrap_u64]; omega
   have m2 : IntKind.u64.wrap (((x * 256 : Nat) : Int) + (z : Int)) = ((x * 256 + z : Nat) : Int) := by rw [IntKind.wrap_u64]; omega
   obtain ⟨y, hy⟩ : ∃ y, y = x * 256 := ⟨_, rfl⟩
   rw [← hy] at m1 m2 HD
   have HY : Hid (y = x * 256) := hy
   clear hxx hzz hx hp hy
   go_wp2
   go_roundw
   case rel => exact ⟨j, by omega, by go_num, by rw [HD.out]; simp, trivial⟩
   case measure => simp [intOf]
  ·obtain rfl : k = 0 := by omega
   go_wp2
   go_ret
   exact ⟨rfl, rfl⟩
theorem layB_zero : ∀ k, layB 0 k = List.replicate k 0 := fun k => by
 unfold layB
 apply List.ext_getElem
 ·simp
 ·intro i h1 h2; simp
set_option maxRecDepth 100000 in
set_option maxHeartbeats 2000000 in
theorem rroot2_any (r : Nat) (ep : Nat) (tv : Value) (T : List Nat) (w : World) (h2 : w.cell? ⟨r, 2, none⟩ = some (.int .u64 (ep : Nat))) (h3 : w.cell? ⟨r, 3, none⟩ = some tv) (ht : IntsAt w tv T) (hep : ep < 18446744073709551616) (hT : T.length ≤ 2048) (hT2 : ∀ t ∈ T, t < 2048) :
  Calls Tryz.prog 73 #[.pointer (some ⟨r, 0, none⟩)] w fun e w' => ∃ a c, e = .returned (.slice a 32 c) ∧ Hid (Fresh w' w.heap.size (.slice a 32 c) (rootB ep (T.getD 0 0) T.length) ∧ Only (fun _ => False) w w') := by
 obtain ⟨at_, ct, hvf, hvc⟩ := ht.shape
 obtain ⟨n, hn⟩ : ∃ n, n = T.length := ⟨_, rfl⟩
 rw [← hn] at hvf hT
 obtain ⟨f, hf⟩ : ∃ f, f = T.getD 0 0 := ⟨_, rfl⟩
 have hf2 : f < 2048 := by
  rw [hf]
  simp only [List.getD]
  cases h : T[0]? with
  | none => simp
  | some t => exact hT2 t (List.mem_of_getElem? h)
 have HC : Hid (0 < n → ∃ g o, at_ = some ⟨g, o, none⟩ ∧ w.cell? ⟨g, o, none⟩ = some (.int .i64 (f : Nat))) := fun h0 => by
  obtain ⟨g, o, e, hc⟩ := hvc 0 (by omega)
  exact ⟨g, o, e, by rw [hf]; simpa using hc⟩
 have H0 : Hid (n = 0 → f = 0) := fun h0 => by
  rw [hf, List.eq_nil_of_length_eq_zero (by omega : T.length = 0)]; rfl
 subst hvf
 rw [← hf, ← hn]
 clear ht hvc hn hf hT2
 have L8 : ∀ (w : World), Calls Tryz.prog 92 #[.int .u64 (ep : Nat), .int .i64 8] w fun e w' => ∃ a c, e = .returned (.slice a 8 c) ∧ Hid (Fresh w' w.heap.size (.slice a 8 c) (layB ep 8) ∧ Only (fun _ => False) w w') := fun w => layk_any ep 8 (by omega) w hep
 have L4 : ∀ (w : World), Calls Tryz.prog 92 #[.int .u64 (f : Nat), .int .i64 4] w fun e w' => ∃ a c, e = .returned (.slice a 4 c) ∧ Hid (Fresh w' w.heap.size (.slice a 4 c) (layB f 4) ∧ Only (fun _ => False) w w') := fun w => layk_any f 4 (by omega) w (by omega)
 have N4 : ∀ (w : World), Calls Tryz.prog 92 #[.int .u64 (n : Nat), .int .i64 4] w fun e w' => ∃ a c, e = .returned (.slice a 4 c) ∧ Hid (Fresh w' w.heap.size (.slice a 4 c) (layB n 4) ∧ Only (fun _ => False) w w') := fun w => layk_any n 4 (by omega) w (by omega)
 have Z8 : ∀ (w : World), Calls Tryz.prog 92 #[.int .u64 0, .int .i64 8] w fun e w' => ∃ a c, e = .returned (.slice a 8 c) ∧ Hid (Fresh w' w.heap.size (.slice a 8 c) (List.replicate 8 0) ∧ Only (fun _ => False) w w') := fun w => by have := layk_any 0 8 (by omega) w (by omega); rw [layB_zero] at this; exact this
 have HL8 : Hid _ := L8
 have HL4 : Hid _ := L4
 have HN4 : Hid _ := N4
 have HZ8 : Hid _ := Z8
 have u1 : IntKind.u64.wrap (f : Int) = (f : Int) := by rw [IntKind.wrap_u64]; omega
 have u2 : IntKind.u64.wrap (n : Int) = (n : Int) := by rw [IntKind.wrap_u64]; omega
 clear L8 L4 N4 Z8
 have HREST : Hid (∀ (w1 : World), Only (fun _ => False) w w1 → w1.cell? ⟨r, 2, none⟩ = some (.int .u64 (ep : Nat)) ∧ w1.cell? ⟨r, 3, none⟩ = some (.slice at_ n ct)) := fun w1 ho => ⟨ho.cell h2 (fun e => e), ho.cell h3 (fun e => e)⟩
 have APP : Hid (∀ (w2 : World) (a1 : Option Addr) (n1 c1 : Nat) (zs : List Nat) (a2 : Option Addr) (n2 c2 : Nat) (ys : List Nat), Fresh w2 w.heap.size (.slice a1 n1 c1) zs → Fresh w2 w.heap.size (.slice a2 n2 c2) ys → n1 = zs.length → n2 = ys.length → zs.length + ys.length ≤ 100 → w.heap.size ≤ w2.heap.size → ∃ a3 c3 w3, (∀ ty, (Builtin.append_ #[37, 37] ty #[.slice a1 n1 c1, .slice a2 n2 c2]).run Tryz.prog w2 = .ok (.slice a3 (n1 + n2) c3) w3) ∧ Fresh w3 w.heap.size (.slice a3 (n1 + n2) c3) (zs ++ ys) ∧ Only (fun i => w.heap.size ≤ i) w2 w3) := fun w2 a1 n1 c1 zs a2 n2 c2 ys hf1 hf2 e1 e2 hl hs => by
  subst e1 e2
  exact app_fresh hf1 hf2.bytes hs (by omega)
 have LES : Hid (∀ (w2 : World) (B : Nat) (v : Value) (zs : List Nat), Fresh w2 B v zs → w.heap.size ≤ B → Fresh w2 w.heap.size v zs) := fun w2 B v zs hf hs => by
  refine ⟨⟨hf.1.1, ?_⟩, hf.2⟩
  rcases hf.1.2 with e | ⟨g, cap, cur, hv, hb, rest⟩
  ·exact .inl e
  ·exact .inr ⟨g, cap, cur, hv, by omega, rest⟩
 by_cases h0 : 0 < n
 ·obtain ⟨g, o, hga, hcell⟩ := HC.out h0
  subst hga
  have i0 : (0 : Int) < (n : Int) := by omega
  clear HC H0
  go_enter Tryz.func73, Tryz.ntmps73
  go_wp2_with fail
  refine (show Calls Tryz.prog 92 _ _ _ from HL8.out w).mono ?_
  rintro e w1 ⟨a1, c1, rfl, H1⟩
  go_wp2_with fail
  refine (show Calls Tryz.prog 92 _ _ _ from HL4.out w1).mono ?_
  rintro e w2 ⟨a2, c2, rfl, H2⟩
  have o2 : Only (fun _ => False) w w2 := H1.out.2.trans H2.out.2 (fun _ _ e => e)
  obtain ⟨a3, c3, w3, hr3, hf3, ho3⟩ := APP.out w2 a1 8 c1 _ a2 4 c2 _ (H1.out.1.frame H2.out.2) (LES.out w2 _ _ _ H2.out.1 H1.out.2.size) (layB_length ..).symm (layB_length ..).symm (by simp [layB_length]) o2.size
  have O3 : Hid (Only (fun _ => False) w w3) := o2.trans ho3 (fun i hi e => by omega)
  have HF3 : Hid (Fresh w3 w.heap.size (.slice a3 (8 + 4) c3) (layB ep 8 ++ layB f 4)) := hf3
  have HR3 : Hid _ := hr3
  obtain ⟨y2, y3⟩ := HREST.out w3 O3.out
  clear hr3 hf3 ho3 o2 H1 H2 HL4
  go_wp2_with (at_builtin; refine wpList_append_run rfl _ _ 37 rfl (.slice a1 8 c1) (.slice a2 4 c2) (.slice a3 (8 + 4) c3) rfl rfl HR3.out ?_)
  refine (show Calls Tryz.prog 92 _ _ _ from HN4.out w3).mono ?_
  rintro e w4 ⟨a4, c4, rfl, H4⟩
  have o4 : Only (fun _ => False) w w4 := O3.out.trans H4.out.2 (fun _ _ e => e)
  obtain ⟨a5, c5, w5, hr5, hf5, ho5⟩ := APP.out w4 a3 (8 + 4) c3 _ a4 4 c4 _ (HF3.out.frame H4.out.2) (LES.out w4 _ _ _ H4.out.1 O3.out.size) (by simp [layB_length]) (layB_length ..).symm (by simp [layB_length]) o4.size
  have O5 : Hid (Only (fun _ => False) w w5) := o4.trans ho5 (fun i hi e => by omega)
  have HF5 : Hid (Fresh w5 w.heap.size (.slice a5 (8 + 4 + 4) c5) (layB ep 8 ++ layB f 4 ++ layB n 4)) := hf5
  have HR5 : Hid _ := hr5
  clear hr5 hf5 ho5 o4 H4 HN4 HR3 HF3 O3 y2 y3
  go_wp2_with (at_builtin; refine wpList_append_run rfl _ _ 37 rfl (.slice a3 (8 + 4) c3) (.slice a4 4 c4) (.slice a5 (8 + 4 + 4) c5) rfl rfl HR5.out ?_)
  refine (show Calls Tryz.prog 92 _ _ _ from HZ8.out w5).mono ?_
  rintro e w6 ⟨a6, c6, rfl, H6⟩
  have o6 : Only (fun _ => False) w w6 := O5.out.trans H6.out.2 (fun _ _ e => e)
  obtain ⟨a7, c7, w7, hr7, hf7, ho7⟩ := APP.out w6 a5 (8 + 4 + 4) c5 _ a6 8 c6 _ (HF5.out.frame H6.out.2) (LES.out w6 _ _ _ H6.out.1 O5.out.size) (by simp [layB_length]) (by simp) (by simp [layB_length]) o6.size
  have O7 : Hid (Only (fun _ => False) w w7) := o6.trans ho7 (fun i hi e => by omega)
  have HF7 : Hid (Fresh w7 w.heap.size (.slice a7 (8 + 4 + 4 + 8) c7) (layB ep 8 ++ layB f 4 ++ layB n 4 ++ List.replicate 8 0)) := hf7
  have HR7 : Hid _ := hr7
  obtain ⟨y2, y3⟩ := HREST.out w7 O7.out
  clear hr7 hf7 ho7 o6 H6 HZ8 HR5 HF5 O5
  go_wp2_with (at_builtin; refine wpList_append_run rfl _ _ 37 rfl (.slice a5 (8 + 4 + 4) c5) (.slice a6 8 c6) (.slice a7 (8 + 4 + 4 + 8) c7) rfl rfl HR7.out ?_)
  refine (show Calls Tryz.prog 92 _ _ _ from HL8.out w7).mono ?_
  rintro e w8 ⟨a8, c8, rfl, H8⟩
  have o8 : Only (fun _ => False) w w8 := O7.out.trans H8.out.2 (fun _ _ e => e)
  obtain ⟨a9, c9, w9, hr9, hf9, ho9⟩ := APP.out w8 a7 (8 + 4 + 4 + 8) c7 _ a8 8 c8 _ (HF7.out.frame H8.out.2) (LES.out w8 _ _ _ H8.out.1 O7.out.size) (by simp [layB_length]) (layB_length ..).symm (by simp [layB_length]) o8.size
  have HF9 : Hid (Fresh w9 w.heap.size (.slice a9 32 c9) (rootB ep f n) ∧ Only (fun _ => False) w w9) := ⟨by unfold rootB; simpa [List.append_assoc] using hf9, o8.trans ho9 (fun i hi e => by omega)⟩
  have HR9 : Hid _ := hr9
  clear hr9 hf9 ho9 o8 H8 HR7 HF7 O7
  go_wp2_with (at_builtin; refine wpList_append_run rfl _ _ 37 rfl (.slice a7 (8 + 4 + 4 + 8) c7) (.slice a8 8 c8) (.slice a9 (8 + 4 + 4 + 8 + 8) c9) rfl rfl HR9.out ?_)
  go_ret
  exact ⟨_, _, rfl, HF9⟩
 ·obtain rfl : n = 0 := by omega
  obtain rfl : f = 0 := H0.out rfl
  have HL4' : Hid (∀ (w : World), Calls Tryz.prog 92 #[.int .u64 0, .int .i64 4] w fun e w' => ∃ a c, e = .returned (.slice a 4 c) ∧ Hid (Fresh w' w.heap.size (.slice a 4 c) (layB 0 4) ∧ Only (fun _ => False) w w')) := HL4.out
  have HN4' : Hid (∀ (w : World), Calls Tryz.prog 92 #[.int .u64 0, .int .i64 4] w fun e w' => ∃ a c, e = .returned (.slice a 4 c) ∧ Hid (Fresh w' w.heap.size (.slice a 4 c) (layB 0 4) ∧ Only (fun _ => False) w w')) := HN4.out
  clear HC H0 HL4 HN4 u1 u2 hT hf2 h0
  go_enter Tryz.func73, Tryz.ntmps73
  go_wp2_with fail
  refine (show Calls Tryz.prog 92 _ _ _ from HL8.out w).mono ?_
  rintro e w1 ⟨a1, c1, rfl, H1⟩
  go_wp2_with fail
  refine (show Calls Tryz.prog 92 _ _ _ from HL4'.out w1).mono ?_
  rintro e w2 ⟨a2, c2, rfl, H2⟩
  have o2 : Only (fun _ => False) w w2 := H1.out.2.trans H2.out.2 (fun _ _ e => e)
  obtain ⟨a3, c3, w3, hr3, hf3, ho3⟩ := APP.out w2 a1 8 c1 _ a2 4 c2 _ (H1.out.1.frame H2.out.2) (LES.out w2 _ _ _ H2.out.1 H1.out.2.size) (layB_length ..).symm (layB_length ..).symm (by simp [layB_length]) o2.size
  have O3 : Hid (Only (fun _ => False) w w3) := o2.trans ho3 (fun i hi e => by omega)
  have HF3 : Hid (Fresh w3 w.heap.size (.slice a3 (8 + 4) c3) (layB ep 8 ++ layB 0 4)) := hf3
  have HR3 : Hid _ := hr3
  obtain ⟨y2, y3⟩ := HREST.out w3 O3.out
  clear hr3 hf3 ho3 o2 H1 H2 HL4'
  go_wp2_with (at_builtin; refine wpList_append_run rfl _ _ 37 rfl (.slice a1 8 c1) (.slice a2 4 c2) (.slice a3 (8 + 4) c3) rfl rfl HR3.out ?_)
  refine (show Calls Tryz.prog 92 _ _ _ from HN4'.out w3).mono ?_
  rintro e w4 ⟨a4, c4, rfl, H4⟩
  have o4 : Only (fun _ => False) w w4 := O3.out.trans H4.out.2 (fun _ _ e => e)
  obtain ⟨a5, c5, w5, hr5, hf5, ho5⟩ := APP.out w4 a3 (8 + 4) c3 _ a4 4 c4 _ (HF3.out.frame H4.out.2) (LES.out w4 _ _ _ H4.out.1 O3.out.size) (by simp [layB_length]) (layB_length ..).symm (by simp [layB_length]) o4.size
  have O5 : Hid (Only (fun _ => False) w w5) := o4.trans ho5 (fun i hi e => by omega)
  have HF5 : Hid (Fresh w5 w.heap.size (.slice a5 (8 + 4 + 4) c5) (layB ep 8 ++ layB 0 4 ++ layB 0 4)) := hf5
  have HR5 : Hid _ := hr5
  clear hr5 hf5 ho5 o4 H4 HN4' HR3 HF3 O3 y2 y3
  go_wp2_with (at_builtin; refine wpList_append_run rfl _ _ 37 rfl (.slice a3 (8 + 4) c3) (.slice a4 4 c4) (.slice a5 (8 + 4 + 4) c5) rfl rfl HR5.out ?_)
  refine (show Calls Tryz.prog 92 _ _ _ from HZ8.out w5).mono ?_
  rintro e w6 ⟨a6, c6, rfl, H6⟩
  have o6 : Only (fun _ => False) w w6 := O5.out.trans H6.out.2 (fun _ _ e => e)
  obtain ⟨a7, c7, w7, hr7, hf7, ho7⟩ := APP.out w6 a5 (8 + 4 + 4) c5 _ a6 8 c6 _ (HF5.out.frame H6.out.2) (LES.out w6 _ _ _ H6.out.1 O5.out.size) (by simp [layB_length]) (by simp) (by simp [layB_length]) o6.size
  have O7 : Hid (Only (fun _ => False) w w7) := o6.trans ho7 (fun i hi e => by omega)
  have HF7 : Hid (Fresh w7 w.heap.size (.slice a7 (8 + 4 + 4 + 8) c7) (layB ep 8 ++ layB 0 4 ++ layB 0 4 ++ List.replicate 8 0)) := hf7
  have HR7 : Hid _ := hr7
  obtain ⟨y2, y3⟩ := HREST.out w7 O7.out
  clear hr7 hf7 ho7 o6 H6 HZ8 HR5 HF5 O5
  go_wp2_with (at_builtin; refine wpList_append_run rfl _ _ 37 rfl (.slice a5 (8 + 4 + 4) c5) (.slice a6 8 c6) (.slice a7 (8 + 4 + 4 + 8) c7) rfl rfl HR7.out ?_)
  refine (show Calls Tryz.prog 92 _ _ _ from HL8.out w7).mono ?_
  rintro e w8 ⟨a8, c8, rfl, H8⟩
  have o8 : Only (fun _ => False) w w8 := O7.out.trans H8.out.2 (fun _ _ e => e)
  obtain ⟨a9, c9, w9, hr9, hf9, ho9⟩ := APP.out w8 a7 (8 + 4 + 4 + 8) c7 _ a8 8 c8 _ (HF7.out.frame H8.out.2) (LES.out w8 _ _ _ H8.out.1 O7.out.size) (by simp [layB_length]) (layB_length ..).symm (by simp [layB_length]) o8.size
  have HF9 : Hid (Fresh w9 w.heap.size (.slice a9 32 c9) (rootB ep 0 0) ∧ Only (fun _ => False) w w9) := ⟨by unfold rootB; simpa [List.append_assoc] using hf9, o8.trans ho9 (fun i hi e => by omega)⟩
  have HR9 : Hid _ := hr9
  clear hr9 hf9 ho9 o8 H8 HR7 HF7 O7
  go_wp2_with (at_builtin; refine wpList_append_run rfl _ _ 37 rfl (.slice a7 (8 + 4 + 4 + 8) c7) (.slice a8 8 c8) (.slice a9 (8 + 4 + 4 + 8 + 8) c9) rfl rfl HR9.out ?_)
  go_ret
  exact ⟨_, _, rfl, HF9⟩
section
variable {w : World} {rk : Nat → Prop} {B r q : Nat} {tv kv nv : Value} {x : SS} {lk ln : List RPg}
set_option maxHeartbeats 1000000 in
theorem rRoom_any (h : RsAt w rk B r q tv kv nv x lk ln) (dn : Nat) (hq : w.cell? ⟨q, 0, none⟩ = some (.int .i64 dn)) (hdn : dn ≤ 8192) (hsz : dn / 4 = x.size) :
  Calls Tryz.prog 48 #[.pointer (some ⟨r, 0, none⟩)] w fun e w' => e = .returned (.tuple #[.int .i64 (freeN x x.size : Nat), .int .i64 (needN x : Nat)]) ∧ Only (fun _ => False) w w' := by
 have HR : Hid (Calls Tryz.prog 60 _ _ _) := rroom_any h dn hq hdn hsz
 have c6 := h.c6
 clear h hq
 go_enter Tryz.func48, Tryz.ntmps48
 go_wp2_with fail
 refine (show Calls Tryz.prog 60 _ _ _ from HR.out).mono ?_
 rintro e w1 H1
 obtain ⟨u, rfl, ho, _⟩ := H1.out
 have HO : Hid (Only (fun _ => False) w w1) := ho
 clear ho H1 HR
 go_wp2
 go_ret2
 exact ⟨rfl, HO.out⟩
theorem rRoom_dead (r : Nat) (w : World) (h : w.cell? ⟨r, 6, none⟩ = some (.bool true)) :
  Calls Tryz.prog 48 #[.pointer (some ⟨r, 0, none⟩)] w fun e w' => e = .returned (.tuple #[.int .i64 0, .int .i64 0]) ∧ w' = w := by
 go_enter Tryz.func48, Tryz.ntmps48
 go_wp2
 go_ret2
 exact ⟨rfl, rfl⟩
end
end Go.Proofs.YtlcglapcmdpkfaaGreat
