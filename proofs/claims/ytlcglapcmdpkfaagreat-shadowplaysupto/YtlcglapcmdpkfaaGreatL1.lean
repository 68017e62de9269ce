import Derived.Test.YtlcglapcmdpkfaaGreatP1
namespace Go.Proofs.YtlcglapcmdpkfaaGreat
open Go.RowKit
set_option linter.unusedSimpArgs false
set_option linter.unusedVariables false
def layB (x k : Nat) : List Nat := (List.range k).map fun j => x / 2 ^ (8 * j) % 256
theorem layB_length (x k : Nat) : (layB x k).length = k := by simp [layB]
theorem layB_lt (x k : Nat) : ∀ z ∈ layB x k, z < 256 := by
 intro z hz
 simp only [layB, List.mem_map] at hz
 obtain ⟨j, _, rfl⟩ := hz
 exact Nat.mod_lt _ (by omega)
theorem layB_succ (x k : Nat) : layB x (k + 1) = layB x k ++ [x / 2 ^ (8 * k) % 256] := by simp [layB, List.range_succ]
theorem Blk.set {w : World} {g : Nat} {zs : List Nat} (h : Blk w g zs) (i q : Nat) (hq : q < 256) : Blk (w.setCell ⟨g, i, none⟩ (.int .u8 (q : Nat))) g (zs.set i q) := by
 refine ⟨?_, by rw [List.length_set]; exact h.2.1, fun z hz => ?_⟩
 ·rw [heap_setCell_same w g i _ _ _ h.1]
  congr 2
  simp [BL, List.map_set]
 ·rcases List.mem_or_eq_of_mem_set hz with hz | rfl
  ·exact h.2.2 z hz
  ·exact hq
theorem splice_snoc (zs ys : List Nat) (o q : Nat) (h : o + ys.length < zs.length) : (splice zs o ys).set (o + ys.length) q = splice zs o (ys ++ [q]) := by
 have e1 : (zs.take o).length = o := by rw [List.length_take]; omega
 have e2 : zs.drop (o + ys.length) = zs.getD (o + ys.length) 0 :: zs.drop (o + (ys ++ [q]).length) := by
  rw [List.drop_eq_getElem_cons h]
  simp [List.getD, h, Nat.add_assoc]
 unfold splice
 rw [e2, List.set_append_right _ _ (by omega), List.set_append_right _ _ (by omega), e1]
 simp
theorem splice_nil (zs : List Nat) (o : Nat) : splice zs o [] = zs := by simp [splice]
set_option maxRecDepth 100000 in
set_option maxHeartbeats 1000000 in
theorem slay_any (g o k c x : Nat) (zs : List Nat) (w : World) (h : Blk w g zs) (hp : o + k ≤ zs.length) (hk : k ≤ 8) (hx : x < 18446744073709551616) :
  Calls Tryz.prog 66 #[.slice (some ⟨g, o, none⟩) k c, .int .u64 x] w fun e w' => e = .returned (.tuple #[]) ∧ Blk w' g (splice zs o (layB x k)) ∧ Only (fun i => i = g) w w' ∧ w'.heap.size = w.heap.size := by
 have HP : Hid (Blk w g zs) := h
 go_enter Tryz.func66, Tryz.ntmps66
 clear h
 go_wp2
 go_loopw [7] (fun t wr => ∃ j : Nat, j ≤ k ∧ t = .int .i64 j ∧ Blk wr g (splice zs o (layB x j)) ∧ Only (fun i => i = g) w wr ∧ wr.heap.size = w.heap.size) (fun t _ => k - (intOf t).toNat)
 case atStart => exact ⟨0, by omega, rfl, by rw [show layB x 0 = [] from rfl, splice_nil]; exact HP.out, Only.refl _ _, rfl⟩
 case round =>
  obtain ⟨j, hj, rfl, hb, ho, hsz⟩ := hrel
  obtain ⟨w2, rfl⟩ : ∃ w2, w2 = wr := ⟨_, rfl⟩
  have HO : Hid (Only (fun i => i = g) w w2) := ho
  have HB : Hid (Blk w2 g (splice zs o (layB x j))) := hb
  have HS : Hid (w2.heap.size = w.heap.size) := hsz
  clear HP hb ho hsz
  by_cases hlt : j < k
  ·have k1 : (j : Int) < k := by omega
   have k0 : (0 : Int) ≤ (j : Int) := by omega
   have hm8 : IntKind.i64.wrap (8 * (j : Int)) = 8 * (j : Int) := by rw [IntKind.wrap_i64]; omega
   obtain ⟨s, hs⟩ : ∃ s, s = 8 * j := ⟨_, rfl⟩
   have hs8 : 8 * (j : Int) = (s : Int) := by omega
   rw [hs8] at hm8
   have s1 : (s : Int) < 64 := by omega
   have s0 : (0 : Int) ≤ (s : Int) := by omega
   have HT : Hid _ := layB_succ x j
   rw [← hs] at HT
   obtain ⟨y, hy⟩ : ∃ y, y = x / 2 ^ s := ⟨_, rfl⟩
   have hyi : (x : Int) / 2 ^ s = (y : Nat) := by rw [hy]; simp
   obtain ⟨q, hq⟩ : ∃ q, q = y % 256 := ⟨_, rfl⟩
   have hqi : (y : Int) % 256 = (q : Nat) := by omega
   have hq2 : q < 256 := by omega
   rw [← hy, ← hq] at HT
   have hl : (splice zs o (layB x j)).length = zs.length := length_splice _ _ _ (by rw [layB_length]; omega)
   have hc := HB.out.cell (o + j) (by rw [hl]; omega)
   have hf := HB.out.frozen (o + j)
   have HN : Hid (Blk (w2.setCell ⟨g, o + j, none⟩ (.int .u8 (q : Nat))) g (splice zs o (layB x (j + 1)))) := by
    have := HB.out.set (o + j) q hq2
    have e := splice_snoc zs (layB x j) o q (by rw [layB_length]; omega)
    rw [layB_length] at e
    rw [e, ← HT.out] at this
    exact this
   have HN2 : Hid (Only (fun i => i = g) w (w2.setCell ⟨g, o + j, none⟩ (.int .u8 (q : Nat)))) := HO.out.setCell _ _ (fun _ => rfl)
   have HS2 : Hid ((w2.setCell ⟨g, o + j, none⟩ (.int .u8 (q : Nat))).heap.size = w.heap.size) := (by rw [← HS.out]; simp [World.setCell] : _ = _)
   clear HB HO HS HT hl hy hq hs hj
   go_wp2
   go_roundw
   case rel => exact ⟨j + 1, by omega, by go_num, HN.out, HN2.out, HS2.out⟩
   case measure => simp [intOf]; omega
  ·have e : j = k := by omega
   subst e
   have k1 : ¬ (j : Int) < j := by omega
   go_wp2
   go_end0
   exact ⟨rfl, HB.out, HO.out, HS.out⟩
end Go.Proofs.YtlcglapcmdpkfaaGreat
