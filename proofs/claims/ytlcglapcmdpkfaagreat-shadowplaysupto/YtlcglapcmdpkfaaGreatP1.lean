import Derived.Test.YtlcglapcmdpkfaaGreatS6
import Derived.Test.YtlcglapcmdpkfaaGreatPg
import Derived.Laws.Bits64b
namespace Go.Proofs.YtlcglapcmdpkfaaGreat
open Go.RowKit
set_option linter.unusedSimpArgs false
set_option linter.unusedVariables false
def Blk (w : World) (g : Nat) (zs : List Nat) : Prop := w.heap[g]? = some (.cells (BL zs).toArray 5 (0, 0)) ∧ zs.length ≤ 140737488355328 ∧ ∀ z ∈ zs, z < 256
theorem Blk.frame {w w' : World} {g : Nat} {zs : List Nat} {bs : Nat → Prop} (h : Blk w g zs) (ho : Only bs w w') (hn : ¬ bs g) : Blk w' g zs := by
 have hl : g < w.heap.size := by
  rcases Nat.lt_or_ge g w.heap.size with hlt | hge
  ·exact hlt
  ·have := h.1; simp [Array.getElem?_eq_none hge] at this
 exact ⟨(ho.block g hl hn).trans h.1, h.2⟩
theorem Blk.lt {w : World} {g : Nat} {zs : List Nat} (h : Blk w g zs) : g < w.heap.size := by
 rcases Nat.lt_or_ge g w.heap.size with hlt | hge
 ·exact hlt
 ·have := h.1; simp [Array.getElem?_eq_none hge] at this
theorem Blk.cell {w : World} {g : Nat} {zs : List Nat} (h : Blk w g zs) (j : Nat) (hj : j < zs.length) : w.cell? ⟨g, j, none⟩ = some (.int .u8 (zs.getD j 0 : Nat)) := by
 rw [cell_of_row _ _ _ _ _ _ h.1]
 simp [BL, List.getD, hj]
theorem Blk.frozen {w : World} {g : Nat} {zs : List Nat} (h : Blk w g zs) (j : Nat) : w.frozen? ⟨g, j, none⟩ = false := frozen_of_row _ _ _ _ _ h.1
theorem Blk.bytes {w : World} {g : Nat} {zs : List Nat} (h : Blk w g zs) (o n c : Nat) (hn : o + n ≤ zs.length) (hc : n ≤ c) : BytesAt w (.slice (some ⟨g, o, none⟩) n c) ((zs.drop o).take n) := by
 have e : ((zs.drop o).take n).length = n := by rw [List.length_take, List.length_drop]; omega
 refine ⟨.inr ⟨⟨g, o, none⟩, c, by rw [e], by omega, fun j hj => ?_⟩, by have := h.2.1; omega, fun z hz => h.2.2 z (List.mem_of_mem_drop (List.mem_of_mem_take hz))⟩
 rw [e] at hj
 rw [Addr.add_mid, h.cell (o + j) (by omega)]
 have : ((zs.drop o).take n).getD j 0 = zs.getD (o + j) 0 := by
  simp only [List.getD]
  rw [List.getElem?_take_of_lt (by omega), List.getElem?_drop]
 simp only [this]
theorem Blk.all {w : World} {g : Nat} {zs : List Nat} (h : Blk w g zs) (n : Nat) (hn : n = zs.length) : BytesAt w (.slice (some ⟨g, 0, none⟩) n n) zs := by
 have := h.bytes 0 n n (by omega) (Nat.le_refl _)
 rwa [List.drop_zero, hn, List.take_length, ← hn] at this
theorem Blk.fresh {w : World} {g B : Nat} {zs : List Nat} (h : Blk w g zs) (n : Nat) (hn : n = zs.length) (hB : B ≤ g) : Fresh w B (.slice (some ⟨g, 0, none⟩) n n) zs := by
 subst hn
 refine ⟨⟨by rw [BL_length, Nat.mul_one], .inr ⟨g, zs.length, (BL zs).toArray, rfl, hB, h.1, Nat.le_refl _, by have := h.2.1; unfold maxLen; omega, by simp [BL_length], ?_⟩⟩, h.2⟩
 rw [Nat.mul_one, ← BL_length zs, List.take_length]
theorem Blk.new {w : World} {zs : List Nat} (hl : zs.length ≤ 140737488355328) (hz : ∀ z ∈ zs, z < 256) : Blk (w.alloc (.cells (BL zs).toArray 5)) w.heap.size zs := ⟨heap_alloc_new w _, hl, hz⟩
theorem BL_splice (zs ys : List Nat) (o : Nat) : splice (BL zs) o (BL ys) = BL (splice zs o ys) := by
 unfold splice
 rw [BL_append, BL_append, BL_length]
 simp [BL]
theorem splice_lt {zs ys : List Nat} {o : Nat} (hz : ∀ z ∈ zs, z < 256) (hy : ∀ z ∈ ys, z < 256) : ∀ z ∈ splice zs o ys, z < 256 := by
 intro z h
 simp only [splice, List.mem_append] at h
 rcases h with h | h | h
 ·exact hz z (List.mem_of_mem_take h)
 ·exact hy z h
 ·exact hz z (List.mem_of_mem_drop h)
theorem Blk.spliced {w w' : World} {g o : Nat} {zs ys : List Nat} (h : Blk w g zs) (hy : ∀ z ∈ ys, z < 256) (ho : o + ys.length ≤ zs.length) (hg : w'.heap[g]? = some (.cells (splice (BL zs) o (BL ys)).toArray 5 (0, 0))) : Blk w' g (splice zs o ys) := by
 rw [BL_splice] at hg
 exact ⟨hg, by rw [length_splice _ _ _ ho]; exact h.2.1, splice_lt h.2.2 hy⟩
theorem zeros_made (n : Nat) : madeCells (Value.int .u8 0).cells n = (BL (List.replicate n 0)).toArray := by
 apply Array.ext_getElem?
 intro i
 by_cases h : i < n
 ·simp [madeCells, h, BL, Value.cells, Nat.mod_one]
 ·rw [Array.getElem?_eq_none (by simp [madeCells]; omega), Array.getElem?_eq_none (by simp [BL]; omega)]
theorem make_blk (n : Nat) (hn : n ≤ 140737488355328) (w : World) : (Instr.makeSlice 37 (.int .i64 n) (.int .i64 n)).run Tryz.prog w = .ok (.slice (some ⟨w.heap.size, 0, none⟩) n n) (w.alloc (.cells (BL (List.replicate n 0)).toArray 5)) := by
 rw [← zeros_made]
 exact make23 n hn w
theorem blk_zeros (n : Nat) (hn : n ≤ 140737488355328) (w : World) : Blk (w.alloc (.cells (BL (List.replicate n 0)).toArray 5)) w.heap.size (List.replicate n 0) :=
 Blk.new (by simpa using hn) (fun z h => by rw [List.eq_of_mem_replicate h]; omega)
set_option maxHeartbeats 400000 in
theorem piece_pos (g o n c p s : Nat) (w : World) (h : p + s ≤ c) (hs : 0 < s) (hc : p + s ≤ 140737488355328) :
  Calls Tryz.prog 109 #[.slice (some ⟨g, o, none⟩) n c, .int .i64 p, .int .i64 s] w fun e w' => e = .returned (.slice (some ⟨g, o + p, none⟩) s s) ∧ w' = w := by
 have e1 : IntKind.i64.wrap ((p : Int) + (s : Int)) = (p : Int) + (s : Int) := by rw [IntKind.wrap_i64]; omega
 have e2 : (0 : Int) ≤ (p : Int) := by omega
 have e3 : (p : Int) ≤ (p : Int) + (s : Int) := by omega
 have e4 : (p : Int) + (s : Int) ≤ (c : Int) := by omega
 have e5 : ((p : Int) + (s : Int) - (p : Int)).toNat = s := by omega
 go_enter Tryz.func109, Tryz.ntmps109
 go_wp2
 go_ret
 exact ⟨by simp, rfl⟩
set_option maxHeartbeats 400000 in
theorem piece_zero (a : Option Addr) (n c p : Nat) (w : World) (h : p ≤ c) (hc : p ≤ 140737488355328) :
  Calls Tryz.prog 109 #[.slice a n c, .int .i64 p, .int .i64 0] w fun e w' => e = .returned (.slice a 0 0) ∧ w' = w := by
 have e1 : IntKind.i64.wrap ((p : Int) + 0) = (p : Int) := by rw [IntKind.wrap_i64]; omega
 have e2 : (0 : Int) ≤ (p : Int) := by omega
 have e4 : (p : Int) ≤ (c : Int) := by omega
 go_enter Tryz.func109, Tryz.ntmps109
 go_wp2
 go_ret
 exact ⟨by simp, rfl⟩
theorem build4 (a b c d : Int) (w : World) : (Instr.buildSlice 37 4 #[(0, .int .u8 a), (1, .int .u8 b), (2, .int .u8 c), (3, .int .u8 d)]).run Tryz.prog w = .ok (.slice (some ⟨w.heap.size, 0, none⟩) 4 4) (w.alloc (.cells #[.int .u8 a, .int .u8 b, .int .u8 c, .int .u8 d] 5)) := by kernel_rfl
theorem size5 : (Tryz.prog.info? 5).map (·.size) = some 1 := by kernel_rfl
theorem BL4 (x : Nat) : BL (lay4 x) = [.int .u8 ((x % 256 : Nat) : Int), .int .u8 ((x / 256 % 256 : Nat) : Int), .int .u8 ((x / 65536 % 256 : Nat) : Int), .int .u8 ((x / 16777216 % 256 : Nat) : Int)] := rfl
theorem Below.only {w w' : World} {B : Nat} (h : Below B w w') : Only (fun i => B ≤ i) w w' := ⟨h.os, h.tape, h.output, h.size, fun k hk hn => h.block k (by omega)⟩
end Go.Proofs.YtlcglapcmdpkfaaGreat
