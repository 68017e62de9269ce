import Derived.Test.YtlcglapcmdpkfaaGreatA10
import Derived.Test.YtlcglapcmdpkfaaGreatN1
namespace Go.Proofs.YtlcglapcmdpkfaaGreat
open Go.RowKit Go.Maps Go.Shelf
set_option linter.unusedSimpArgs false
set_option linter.unusedVariables false
set_option maxRecDepth 100000 in
set_option maxHeartbeats 1000000 in
theorem same_any (v1 v2 : Value) (zs : List Nat) (w : World) (h1 : BytesAt w v1 zs) (h2 : BytesAt w v2 zs) :
  Calls Tryz.prog 10 #[v1, v2] w fun e w' => e = .returned (.bool true) ∧ Only (fun _ => False) w w' := by
 obtain ⟨a1, c1, rfl, _, f1⟩ := h1.form
 obtain ⟨a2, c2, rfl, _, f2⟩ := h2.form
 obtain ⟨m, hm⟩ : ∃ m, m = zs.length := ⟨_, rfl⟩
 have hm2 : m ≤ 140737488355328 := hm ▸ h1.2.1
 rw [← hm]
 rw [← hm] at f1 f2
 clear h1 h2 hm
 go_enter Tryz.func10, Tryz.ntmps10
 go_wp2
 go_loopw [5] (fun t wr => ∃ k : Nat, k ≤ m ∧ t = .int .i64 k ∧ Only (fun _ => False) w wr) (fun t _ => m - (intOf t).toNat)
 case atStart => exact ⟨0, Nat.zero_le _, rfl, Only.refl _ _⟩
 case round =>
  obtain ⟨k, hk, rfl, ho⟩ := hrel
  by_cases hlt : k < m
  ·obtain ⟨g1, o1, rfl, x1⟩ := f1 k hlt
   obtain ⟨g2, o2, rfl, x2⟩ := f2 k hlt
   have y1 := ho.cell x1 (fun e => e)
   have y2 := ho.cell x2 (fun e => e)
   have k0 : (0 : Int) ≤ (k : Int) := Int.natCast_nonneg _
   have k1 : (k : Int) < (m : Int) := by omega
   obtain ⟨z, hz⟩ : ∃ z, z = zs.getD k 0 := ⟨_, rfl⟩
   rw [← hz] at y1 y2
   have HO : Hid (Only (fun _ => False) w wr) := ho
   clear f1 f2 x1 x2 ho hz
   go_wp2_with fail
   go_region_held3 (fun w' => w'.cell? ⟨g1, o1 + k, none⟩ = some (.int .u8 (z : Nat)) ∧ w'.cell? ⟨g2, o2 + k, none⟩ = some (.int .u8 (z : Nat))) (go_keep) (fail)
   go_wp2
   go_roundw
   case rel => exact ⟨k + 1, by omega, by go_num, HO.out.drew⟩
   case measure => simp [intOf]; omega
  ·obtain rfl : k = m := by omega
   clear f1 f2
   go_wp2
   go_ret
   exact ⟨rfl, ho⟩
def gErr (x : SS) (i : Int) : Int := if 0 ≤ i ∧ i < 728 then (if (pgAt x.now i).isSome then 0 else 6) else 4
def gDat (x : SS) (i : Int) : List Nat := if 0 ≤ i ∧ i < 728 then ((pgAt x.now i).getD (0, [])).2 else []
section
variable {w : World} {dk : Nat → Prop} {s p mc mn : Nat} {tv : Value} {x : SS}
theorem get_all (h : StAt w dk s p mc mn tv x) (i : Int) :
  Calls Tryz.prog 13 #[.pointer (some ⟨s, 0, none⟩), .int .i64 i] w fun e w' => ∃ u, e = .returned (.tuple #[u, .int .i64 (gErr x i)]) ∧ Hid (Fresh w' w.heap.size u (gDat x i) ∧ Only (fun _ => False) w w') := by
 unfold gErr gDat
 by_cases hi : 0 ≤ i ∧ i < 728
 ·rw [if_pos hi, if_pos hi]
  cases hg : pgAt x.now i with
  | some y =>
    obtain ⟨a, zs⟩ := y
    refine (get_some h i hi hg).mono ?_
    rintro e w' ⟨u, rfl, q1, q2⟩
    exact ⟨u, rfl, q1, q2⟩
  | none =>
    refine (get_none h i hi hg).mono ?_
    rintro e w' ⟨rfl, q2⟩
    exact ⟨_, rfl, Fresh.nil _ _, q2⟩
 ·rw [if_neg hi, if_neg hi]
  refine (get_out h i (by omega)).mono ?_
  rintro e w' ⟨rfl, rfl⟩
  exact ⟨_, rfl, Fresh.nil _ _, Only.refl _ _⟩
end
end Go.Proofs.YtlcglapcmdpkfaaGreat
