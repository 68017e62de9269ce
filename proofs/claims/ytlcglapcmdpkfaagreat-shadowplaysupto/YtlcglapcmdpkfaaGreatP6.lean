import Derived.Test.YtlcglapcmdpkfaaGreatP5
import Derived.Test.YtlcglapcmdpkfaaGreatW1
namespace Go.Proofs.YtlcglapcmdpkfaaGreat
open Go.RowKit
set_option linter.unusedSimpArgs false
set_option linter.unusedVariables false
theorem one_byte (w : World) (q : Nat) (hq : q < 256) : BytesAt (w.alloc (.cells #[.int .u8 (q : Int)] 5)) (.slice (some ⟨w.heap.size, 0, none⟩) 1 1) [q] := by
 refine ⟨.inr ⟨_, _, rfl, by simp, fun j hj => ?_⟩, by simp, by simpa using hq⟩
 have : j = 0 := by simp at hj; omega
 subst this
 rw [Addr.add_mid, cell_of_row _ _ _ _ _ _ (heap_alloc_new w _)]
 rfl
theorem app_one {w : World} {B : Nat} {v : Value} {zs : List Nat} (h : Fresh w B v zs) (hB : B ≤ w.heap.size) (q : Nat) (hq : q < 256) (hl : zs.length + 1 ≤ 140737488355328) :
  ∃ a cap w', (∀ ty, (Builtin.append_ #[37, 37] ty #[v, .slice (some ⟨w.heap.size, 0, none⟩) 1 1]).run Tryz.prog (w.alloc (.cells #[.int .u8 (q : Int)] 5)) = .ok (.slice a (zs.length + 1) cap) w') ∧ Fresh w' B (.slice a (zs.length + 1) cap) (zs ++ [q]) ∧ Only (fun i => B ≤ i) w w' := by
 have o1 : Only (fun _ => False) w (w.alloc (.cells #[.int .u8 (q : Int)] 5)) := (Only.refl _ w).alloc _
 obtain ⟨a, cap, w', hr, hf, ho⟩ := app_fresh (h.frame o1) (one_byte w q hq) (by have := o1.size; omega) hl
 exact ⟨a, cap, w', hr, hf, (o1.mono (fun _ _ e => e.elim)).trans ho (fun _ _ e => e)⟩
theorem lay4_get (n k : Nat) (h : k < 4) : (lay4 n).getD k 0 = n / 2 ^ (8 * k) % 256 := by
 match k, h with
 | 0, _ => simp [lay4]
 | 1, _ => simp [lay4]
 | 2, _ => simp [lay4]
 | 3, _ => simp [lay4]
theorem take_one (l : List Nat) (k : Nat) (h : k < l.length) : l.take (k + 1) = l.take k ++ [l.getD k 0] := by
 rw [List.take_succ_eq_append_getElem h]
 simp [List.getD, h]
set_option maxRecDepth 100000 in
set_option maxHeartbeats 1000000 in
theorem lay_any (n : Nat) (w : World) (hn : n < 18446744073709551616) :
  Calls Tryz.prog 92 #[.int .u64 n, .int .i64 4] w fun e w' => ∃ u, e = .returned u ∧ Fresh w' w.heap.size u (lay4 n) ∧ Only (fun _ => False) w w' := by
 go_enter Tryz.func92, Tryz.ntmps92
 go_wp2
 go_loopw [5, 6] (fun b t wr => ∃ k : Nat, k ≤ 4 ∧ t = .int .i64 k ∧ Fresh wr w.heap.size b ((lay4 n).take k) ∧ Only (fun _ => False) w wr) (fun _ t _ => 4 - (intOf t).toNat)
 case atStart => exact ⟨0, by omega, rfl, by simpa using Fresh.nil _ _, Only.refl _ _⟩
 case round =>
  obtain ⟨k, hk, rfl, hf, ho⟩ := hrel
  obtain ⟨w2, rfl⟩ : ∃ w2, w2 = wr := ⟨_, rfl⟩
  have HO : Hid (Only (fun _ => False) w w2) := ho
  have HF : Hid (Fresh w2 w.heap.size u5 ((lay4 n).take k)) := hf
  by_cases hlt : k < 4
  ·have k1 : (k : Int) < 4 := by omega
   have k0 : (0 : Int) ≤ (k : Int) := by omega
   have hl : ((lay4 n).take k).length = k := by rw [List.length_take, lay4_length]; omega
   have hm8 : IntKind.i64.wrap (8 * (k : Int)) = 8 * (k : Int) := by rw [IntKind.wrap_i64]; omega
   obtain ⟨s, hs⟩ : ∃ s, s = 8 * k := ⟨_, rfl⟩
   have hs8 : 8 * (k : Int) = (s : Int) := by omega
   rw [hs8] at hm8
   have s1 : (s : Int) < 64 := by omega
   have s0 : (0 : Int) ≤ (s : Int) := by omega
   have HG : Hid _ := lay4_get n k hlt
   have HT : Hid _ := take_one (lay4 n) k (by rw [lay4_length]; exact hlt)
   rw [← hs] at HG
   obtain ⟨y, hy⟩ : ∃ y, y = n / 2 ^ s := ⟨_, rfl⟩
   have hyi : (n : Int) / 2 ^ s = (y : Nat) := by rw [hy]; simp
   obtain ⟨q, hq⟩ : ∃ q, q = y % 256 := ⟨_, rfl⟩
   have hqi : (y : Int) % 256 = (q : Nat) := by omega
   have hq2 : q < 256 := by omega
   rw [HG.out, ← hy, ← hq] at HT
   obtain ⟨a, cap, w3, hr, hf3, ho3⟩ := app_one hf ho.size q hq2 (by rw [hl]; omega)
   rw [hl] at hr hf3
   have HR : Hid _ := hr
   have HF3 : Hid (Fresh w3 w.heap.size (.slice a (k + 1) cap) ((lay4 n).take (k + 1))) := by rw [HT.out]; exact hf3
   have HO3 : Hid (Only (fun _ => False) w w3) := ho.trans ho3 (fun i hi e => by omega)
   clear hf ho hf3 ho3 hr hy hq hs HG HT hl
   go_wp2_with (at_builtin; go_must (refine wpList_append_run rfl _ _ 37 rfl _ _ (.slice a (k + 1) cap) rfl rfl HR.out ?_))
   go_roundw
   case rel => exact ⟨k + 1, by omega, by go_num, HF3.out, HO3.out⟩
   case measure => simp [intOf]; omega
  ·obtain rfl : k = 4 := by omega
   clear hf ho
   go_wp2
   go_ret
   exact ⟨_, rfl, by simpa [lay4] using HF.out, HO.out⟩
def laidN : List Nat → Nat
 | [] => 0
 | z :: r => laidN r * 256 + z
theorem laid_drop (zs : List Nat) (k : Nat) (h : k < zs.length) : laidN (zs.drop k) = laidN (zs.drop (k + 1)) * 256 + zs.getD k 0 := by
 rw [List.drop_eq_getElem_cons h]
 simp [laidN, List.getD, h]
theorem laid_lt : ∀ (zs : List Nat), (∀ z ∈ zs, z < 256) → laidN zs < 256 ^ zs.length
 | [], _ => by simp [laidN]
 | z :: r, h => by
   have h1 := laid_lt r (fun y hy => h y (List.mem_cons_of_mem _ hy))
   have h2 := h z List.mem_cons_self
   simp only [laidN, List.length_cons, Nat.pow_succ]
   have : (laidN r + 1) * 256 ≤ 256 ^ r.length * 256 := Nat.mul_le_mul_right _ h1
   omega
theorem laid4 (zs : List Nat) (p : Nat) (hp : p + 4 ≤ zs.length) : laidN ((zs.drop p).take 4) = val4 zs p := by
 have e : (zs.drop p).take 4 = [zs.getD p 0, zs.getD (p + 1) 0, zs.getD (p + 2) 0, zs.getD (p + 3) 0] := by
  apply List.ext_getElem
  ·simp; omega
  ·intro i h4 h5
   simp at h5
   have hi : p + i < zs.length := by omega
   simp only [List.getElem_take, List.getElem_drop]
   match i, h5 with
   | 0, _ => simp [List.getD, show p < zs.length by omega]
   | 1, _ => simp [List.getD, show p + 1 < zs.length by omega]
   | 2, _ => simp [List.getD, show p + 2 < zs.length by omega]
   | 3, _ => simp [List.getD, show p + 3 < zs.length by omega]
 rw [e]
 simp only [laidN, val4]
 omega
set_option maxRecDepth 100000 in
set_option maxHeartbeats 1000000 in
theorem laid_any (v : Value) (zs : List Nat) (w : World) (h : BytesAt w v zs) (hl : zs.length = 4) :
  Calls Tryz.prog 98 #[v] w fun e w' => e = .returned (.int .u64 (laidN zs : Nat)) ∧ w' = w := by
 obtain ⟨a, c, rfl, hcap, hc⟩ := h.form
 have HL : Hid (∀ z ∈ zs, z < 256) := h.2.2
 have HC : Hid _ := hc
 have HM : Hid (zs.length = 4) := hl
 rw [hl]
 clear h hc hl hcap
 go_enter Tryz.func98, Tryz.ntmps98
 go_wp2
 go_loopw [3, 4] (fun r t wr => ∃ k : Nat, k ≤ 4 ∧ t = .int .i64 ((k : Int) - 1) ∧ r = .int .u64 (laidN (zs.drop k) : Nat) ∧ w = wr) (fun _ t _ => (intOf t + 1).toNat)
 case atStart => exact ⟨4, by omega, rfl, by rw [List.drop_eq_nil_of_le (by rw [HM.out]; exact Nat.le_refl _)]; rfl, rfl⟩
 case round =>
  obtain ⟨k, hk, rfl, rfl, rfl⟩ := hrel
  by_cases hlt : 0 < k
  ·obtain ⟨j, rfl⟩ : ∃ j, k = j + 1 := ⟨k - 1, by omega⟩
   have e0 : ((j + 1 : Nat) : Int) - 1 = (j : Int) := by omega
   rw [e0]
   have k0 : (0 : Int) ≤ (j : Int) := by omega
   have k1 : (j : Int) < 4 := by omega
   obtain ⟨g, o, rfl, hcell⟩ := HC.out j (by have := HM.out; omega)
   have HD : Hid _ := laid_drop zs j (by have := HM.out; omega)
   have hz := getD_lt HL.out j
   have hx := laid_lt (zs.drop (j + 1)) (fun z h => HL.out z (List.mem_of_mem_drop h))
   have hp : 256 ^ (zs.drop (j + 1)).length ≤ 256 ^ 3 := Nat.pow_le_pow_right (by omega) (by rw [List.length_drop, HM.out]; omega)
   obtain ⟨x, hxx⟩ : ∃ x, x = laidN (zs.drop (j + 1)) := ⟨_, rfl⟩
   obtain ⟨z, hzz⟩ : ∃ z, z = zs.getD j 0 := ⟨_, rfl⟩
   rw [← hxx] at hx HD
   rw [← hzz] at hz hcell HD
   rw [← hxx]
   have hx2 : x < 16777216 := by omega
   have m1 : IntKind.u64.wrap ((x : Int) * 256) = ((x * 256 : Nat) : Int) := by simp [IntKind.wrap, IntKind.bits, IntKind.signed]; omega
   have m2 : IntKind.u64.wrap (((x * 256 : Nat) : Int) + (z : Int)) = ((x * 256 + z : Nat) : Int) := by simp [IntKind.wrap, IntKind.bits, IntKind.signed]; omega
   obtain ⟨y, hy⟩ : ∃ y, y = x * 256 := ⟨_, rfl⟩
   rw [← hy] at m1 m2 HD
   have HY : Hid (y = x * 256) := hy
   clear hxx hzz hx hp hy
   go_wp2
   go_roundw
   case rel => exact ⟨j, by omega, by go_num, by rw [HD.out]; simp, trivial⟩
   case measure => simp [intOf]
  ·obtain rfl : k = 0 := by omega
   go_wp2
   go_ret
   exact ⟨rfl, rfl⟩
end Go.Proofs.YtlcglapcmdpkfaaGreat
