import Derived.Test.YtlcglapcmdpkfaaGreatR1
import Derived.Test.YtlcglapcmdpkfaaGreatF1
namespace Go.Proofs.YtlcglapcmdpkfaaGreat
open Go.RowKit Go.Maps
set_option linter.unusedSimpArgs false
set_option linter.unusedVariables false
def flF (n : Nat) (f : Nat → Bool) : List Bool := (List.range n).map f
theorem flF_length (n : Nat) (f : Nat → Bool) : (flF n f).length = n := by simp [flF]
theorem flF_getD (n : Nat) (f : Nat → Bool) (j : Nat) (h : j < n) : (flF n f).getD j false = f j := by simp [flF, List.getD, h]
theorem flF_set (n : Nat) (f : Nat → Bool) (k : Nat) : (flF n f).set k true = flF n (fun j => f j || j == k) := by
 apply List.ext_getElem
 ·simp [flF]
 ·intro i h1 h2
  simp [flF] at h1
  rw [List.getElem_set]
  by_cases e : k = i
  ·subst e; simp [flF]
  ·simp [flF, e, Ne.symm e]
def FBlk (w : World) (g n : Nat) (f : Nat → Bool) : Prop := w.heap[g]? = some (.cells ((flF n f).map Value.bool).toArray 4 (0, 0))
theorem FBlk.lt {w : World} {g n : Nat} {f : Nat → Bool} (h : FBlk w g n f) : g < w.heap.size := (Array.getElem?_eq_some_iff.1 h).1
theorem FBlk.frame {w w' : World} {g n : Nat} {f : Nat → Bool} {bs : Nat → Prop} (h : FBlk w g n f) (ho : Only bs w w') (hn : ¬ bs g) : FBlk w' g n f := (ho.block g h.lt hn).trans h
theorem FBlk.cell {w : World} {g n : Nat} {f : Nat → Bool} (h : FBlk w g n f) (j : Nat) (hj : j < n) : w.cell? ⟨g, j, none⟩ = some (.bool (f j)) := by
 rw [cell_of_row _ _ _ _ _ _ h]
 simp [flF, hj]
theorem FBlk.frozen {w : World} {g n : Nat} {f : Nat → Bool} (h : FBlk w g n f) (j : Nat) : w.frozen? ⟨g, j, none⟩ = false := frozen_of_row _ _ _ _ _ h
theorem FBlk.set {w : World} {g n : Nat} {f : Nat → Bool} (h : FBlk w g n f) (k : Nat) : FBlk (w.setCell ⟨g, k, none⟩ (.bool true)) g n (fun j => f j || j == k) := by
 unfold FBlk
 rw [heap_setCell_same w g k _ _ _ h, ← flF_set]
 congr 2
 simp [List.map_set]
theorem FBlk.flags {w : World} {g n : Nat} {f : Nat → Bool} (h : FBlk w g n f) (hn : n ≤ 140737488351232) : FlagsAt w (.slice (some ⟨g, 0, none⟩) n n) (flF n f) := by
 refine ⟨.inr ⟨⟨g, 0, none⟩, n, by rw [flF_length], by rw [flF_length]; exact Nat.le_refl _, fun j hj => ?_⟩, by rw [flF_length]; exact hn⟩
 rw [flF_length] at hj
 rw [Addr.add_mid, Nat.zero_add, h.cell j (by omega)]
 show some (Value.bool (f j)) = some (Value.bool ((flF n f).getD j false))
 rw [flF_getD n f j (by omega)]
theorem FBlk.congr {w : World} {g n : Nat} {f f' : Nat → Bool} (h : FBlk w g n f) (e : ∀ j, j < n → f j = f' j) : FBlk w g n f' := by
 have : flF n f = flF n f' := by
  unfold flF
  apply List.map_congr_left
  intro j hj
  exact e j (List.mem_range.1 hj)
 unfold FBlk
 rw [← this]
 exact h
theorem made_fl (n : Nat) : madeCells (Value.bool false).cells n = ((flF n (fun _ => false)).map Value.bool).toArray := by
 apply Array.ext_getElem?
 intro i
 by_cases hi : i < n
 ·simp [madeCells, hi, flF, Value.cells, Nat.mod_one]
 ·rw [Array.getElem?_eq_none (by simp [madeCells]; omega), Array.getElem?_eq_none (by simp [flF]; omega)]
theorem make_fl (n : Nat) (hn : n ≤ 140737488351232) (w : World) : (Instr.makeSlice 38 (.int .i64 n) (.int .i64 n)).run Tryz.prog w = .ok (.slice (some ⟨w.heap.size, 0, none⟩) n n) (w.alloc (.cells ((flF n (fun _ => false)).map Value.bool).toArray 4)) := by
 obtain ⟨i0, hi0, hz0, hz1, hz2⟩ := info_parts info4
 have h := run_make (P := Tryz.prog) w 38 4 i0 _ Tryz.underlying38 hi0 hz0 .i64 .i64 n n (by omega) (Int.le_refl _) (by rw [hz2]; omega) (by omega)
 rw [hz1, Int.toNat_natCast, Nat.mul_one] at h
 rw [← made_fl]
 exact h
set_option maxRecDepth 100000 in
set_option maxHeartbeats 2000000 in
theorem taken_any (n : Nat) (hn : 2 ≤ n) (hn2 : n ≤ 2048) (w : World) :
  Calls Tryz.prog 81 #[.int .i64 n] w fun e w' => e = .returned (.slice (some ⟨w.heap.size, 0, none⟩) n n) ∧ FBlk w' w.heap.size n (fun j => decide (j < 2)) ∧ Only (fun _ => False) w w' := by
 obtain ⟨Z, hZ⟩ : ∃ Z, Z = ((flF n (fun _ => false)).map Value.bool).toArray := ⟨_, rfl⟩
 have hmk : (Instr.makeSlice 38 (.int .i64 n) (.int .i64 n)).run Tryz.prog w = .ok (.slice (some ⟨w.heap.size, 0, none⟩) n n) (w.alloc (.cells Z 4)) := by rw [hZ]; exact make_fl n (by omega) w
 have HB : Hid (FBlk (w.alloc (.cells Z 4)) w.heap.size n (fun _ => false)) := by rw [hZ]; exact heap_alloc_new w _
 have n0 : (0 : Int) < n := by omega
 have n1 : (1 : Int) < n := by omega
 clear hZ
 go_enter Tryz.func81, Tryz.ntmps81
 go_wp2
 clear hmk
 obtain ⟨wa, hwa⟩ : ∃ q, q = w.alloc (.cells Z 4) := ⟨_, rfl⟩
 have HO : Hid (Only (fun k => k = w.heap.size) w wa) := by rw [hwa]; exact ((Only.refl _ w).alloc _)
 rw [← hwa] at HB ⊢
 clear hwa
 go_loopw [7] (fun t wr => ∃ k : Int, (k = 0 ∨ k = 1 ∨ k = 2) ∧ t = .int .i64 k ∧ FBlk wr w.heap.size n (fun j => decide ((j : Int) < k)) ∧ Only (fun k => k = w.heap.size) w wr) (fun t _ => 2 - (intOf t).toNat)
 case atStart => exact ⟨0, .inl rfl, rfl, HB.out.congr (fun j _ => by rw [Bool.eq_iff_iff]; simp), HO.out⟩
 case round =>
  clear HB HO
  obtain ⟨k, hk, rfl, hb, ho⟩ := hrel
  obtain ⟨w2, rfl⟩ : ∃ w2, w2 = wr := ⟨_, rfl⟩
  have HB : Hid _ := hb
  have HO : Hid _ := ho
  rcases hk with rfl | rfl | rfl
  ·have hc := hb.cell 0 (by omega)
   have hf := hb.frozen 0
   have HN : Hid (FBlk (w2.setCell ⟨w.heap.size, 0, none⟩ (.bool true)) w.heap.size n (fun j => decide ((j : Int) < 1))) := (hb.set 0).congr (fun j _ => by rw [Bool.eq_iff_iff]; simp; omega)
   have HN2 : Hid (Only (fun k => k = w.heap.size) w (w2.setCell ⟨w.heap.size, 0, none⟩ (.bool true))) := ho.setCell _ _ (fun _ => rfl)
   clear hb ho
   go_wp2
   go_roundw
   case rel => exact ⟨1, .inr (.inl rfl), by go_num, HN.out, HN2.out⟩
   case measure => simp [intOf]
  ·have hc := hb.cell 1 (by omega)
   have hf := hb.frozen 1
   have HN : Hid (FBlk (w2.setCell ⟨w.heap.size, 1, none⟩ (.bool true)) w.heap.size n (fun j => decide ((j : Int) < 2))) := (hb.set 1).congr (fun j _ => by rw [Bool.eq_iff_iff]; simp; omega)
   have HN2 : Hid (Only (fun k => k = w.heap.size) w (w2.setCell ⟨w.heap.size, 1, none⟩ (.bool true))) := ho.setCell _ _ (fun _ => rfl)
   clear hb ho
   go_wp2
   go_roundw
   case rel => exact ⟨2, .inr (.inr rfl), by go_num, HN.out, HN2.out⟩
   case measure => simp [intOf]
  ·clear hb ho
   go_wp2
   go_ret
   exact ⟨rfl, FBlk.congr HB.out (fun j _ => by rw [Bool.eq_iff_iff]; simp; omega), Only.mono HO.out (fun k hk e => by omega)⟩
end Go.Proofs.YtlcglapcmdpkfaaGreat
