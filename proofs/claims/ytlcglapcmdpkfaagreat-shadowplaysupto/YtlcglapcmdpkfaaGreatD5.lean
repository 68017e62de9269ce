import Derived.Test.YtlcglapcmdpkfaaGreatD4
namespace Go.Proofs.YtlcglapcmdpkfaaGreat
open Go.RowKit
set_option linter.unusedSimpArgs false
set_option linter.unusedVariables false
theorem info68 : (Tryz.prog.info? 67).map (fun i => (i.zero, i.size, i.bytes)) = some (some (.agg (secL (fun _ => 0)).toArray), 32, 32) := by kernel_rfl
set_option maxHeartbeats 400000 in
theorem new_bad (n : Int) (w : World) (h : n < 1 ∨ 8192 < n) :
  Calls Tryz.prog 5 #[.int .i64 n] w fun e w' => e = .returned (.tuple #[.pointer none, .int .i64 2]) ∧ w' = w := by
 rcases h with h | h
 ·go_enter Tryz.func5, Tryz.ntmps5
  go_wp2
  go_ret2
  exact ⟨rfl, rfl⟩
 ·have h' : ¬ n < 1 := by omega
  go_enter Tryz.func5, Tryz.ntmps5
  go_wp2
  go_ret2
  exact ⟨rfl, rfl⟩
set_option maxHeartbeats 400000 in
theorem new_core (n : Nat) (A : Array Value) (w : World) (h1 : (1 : Int) ≤ n) (h2 : (n : Int) ≤ 8192)
  (hmk : ∀ w, (Instr.makeSlice 51 (.int .i64 n) (.int .i64 n)).run Tryz.prog w = .ok (.slice (some ⟨w.heap.size, 0, none⟩) n n) (w.alloc (.cells A 67))) :
  Calls Tryz.prog 5 #[.int .i64 n] w fun e w' => e = .returned (.tuple #[.pointer (some ⟨w.heap.size + 1, 0, none⟩), .int .i64 0]) ∧
   w' = (w.alloc (.cells A 67)).alloc (.cells #[.slice (some ⟨w.heap.size, 0, none⟩) n n, .slice none 0 0, .int .i64 (-1)] 54) := by
 have h1' : ¬ (n : Int) < 1 := by omega
 have h2' : ¬ (8192 : Int) < n := by omega
 go_enter Tryz.func5, Tryz.ntmps5
 go_wp2
 go_ret2
 exact ⟨rfl, rfl⟩
theorem new_ok (n : Nat) (w : World) (h1 : 1 ≤ n) (h2 : n ≤ 8192) :
  Calls Tryz.prog 5 #[.int .i64 n] w fun e w' => e = .returned (.tuple #[.pointer (some ⟨w.heap.size + 1, 0, none⟩), .int .i64 0]) ∧
   DiskAt w' w.heap.size (w.heap.size + 1) w.heap.size (.slice none 0 0) ⟨n, fun _ _ => 0, [], -1⟩ ∧ Only (fun _ => False) w w' ∧ w'.heap.size = w.heap.size + 2 := by
 obtain ⟨i0, hi0, hz0, hz1, hz2⟩ := info_parts info68
 refine (new_core n _ w (by omega) (by omega) (fun w => run_make w 51 67 i0 _ Tryz.underlying51 hi0 hz0 .i64 .i64 n n (by omega) (Int.le_refl _) (by rw [hz2]; omega) (by omega))).mono ?_
 rintro e w' ⟨rfl, rfl⟩
 rw [hz1, Int.toNat_natCast]
 refine ⟨rfl, ?_, ((Only.refl _ w).alloc _).alloc _, by simp⟩
 have hS : ((w.alloc (.cells (madeCells (Value.agg (secL (fun _ => 0)).toArray).cells (n * 32)) 67)).alloc (.cells #[.slice (some ⟨w.heap.size, 0, none⟩) n n, .slice none 0 0, .int .i64 (-1)] 54)).heap[w.heap.size]? = some (.cells (madeCells (Value.agg (secL (fun _ => 0)).toArray).cells (n * 32)) 67 (0, 0)) := heap_alloc2_old w _ _
 have hp : ((w.alloc (.cells (madeCells (Value.agg (secL (fun _ => 0)).toArray).cells (n * 32)) 67)).alloc (.cells #[.slice (some ⟨w.heap.size, 0, none⟩) n n, .slice none 0 0, .int .i64 (-1)] 54)).heap[w.heap.size + 1]? = some (.cells #[.slice (some ⟨w.heap.size, 0, none⟩) n n, .slice none 0 0, .int .i64 (-1)] 54 (0, 0)) := heap_alloc2_new w _ _
 have hcell : ∀ j, j < n * 32 → (madeCells (Value.agg (secL (fun _ => 0)).toArray).cells (n * 32))[j]? = some (.int .u8 0) := by
  intro j hj
  have hm : j % 32 < 32 := Nat.mod_lt _ (by omega)
  have : (secL (fun _ => 0))[j % 32]? = some (.int .u8 0) := secL_get _ _ hm
  simp [madeCells, hj, Value.cells, secL_length, this]
 exact { pB := by omega, SB := by omega, pS := by omega
         c0 := ⟨n, by rw [cell_of_row _ _ 0 _ _ _ hp]; rfl⟩
         c1 := by rw [cell_of_row _ _ 1 _ _ _ hp]; rfl
         c2 := by rw [cell_of_row _ _ 2 _ _ _ hp]; rfl
         f1 := frozen_of_row _ _ _ _ _ hp
         f2 := frozen_of_row _ _ _ _ _ hp
         secs := fun i hi => by
          constructor
          ·intro j v hv
           have hj : j < 32 := by have := (List.getElem?_eq_some_iff.1 hv).1; rwa [secL_length] at this
           rw [secL_get _ _ hj] at hv
           rw [cell_of_row _ _ _ _ _ _ hS, hcell _ (by simp at hi; omega)]
           exact hv
          ·intro j hj
           refine ⟨?_, frozen_of_row _ _ _ _ _ hS⟩
           rw [cell_of_row _ _ _ _ _ _ hS, hcell _ (by simp at hi; omega)]; rfl
         own := World.ownsRow_nil _ _ _ _
         hp := by simp [Value.ownBlock]
         hS := by simp [Value.ownBlock]
         n1 := h1, n2 := h2
         at_ := fun x hx => by cases hx
         l1 := by simp
         l2 := by simp }
theorem read_any (p S k B : Nat) (pv : Value) (d : DS) (w : World) (h : DiskAt w B p S pv d) (hl : d.life ≠ 0) (hk : k < d.n) :
  Calls Tryz.prog 8 #[.pointer (some ⟨p, 0, none⟩), .int .i64 k] w fun e w' => e = .returned (.tuple #[.slice (some ⟨w.heap.size, 0, none⟩) 32 32, .int .i64 0]) ∧ w' = w.alloc (.cells (secL (d.sec k)).toArray 67) := by
 obtain ⟨c, hc⟩ := h.c0
 exact read_ok p S d.n c k d.life (secL (d.sec k)) w hc h.c2 (by simpa using hl) (by omega) (secL_length _) (secL_one _) (h.secs k hk).1
set_option maxHeartbeats 400000 in
theorem read_dead (p : Nat) (k : Int) (w : World) (h2 : w.cell? ⟨p, 2, none⟩ = some (.int .i64 0)) :
  Calls Tryz.prog 8 #[.pointer (some ⟨p, 0, none⟩), .int .i64 k] w fun e w' => e = .returned (.tuple #[.slice none 0 0, .int .i64 3]) ∧ w' = w := by
 go_enter Tryz.func8, Tryz.ntmps8
 go_wp2_with (go_at_call 27; refine (reach_dead p k _ h2).mono ?_; rintro e w' ⟨rfl, rfl⟩)
 go_ret2
 exact ⟨rfl, rfl⟩
set_option maxHeartbeats 400000 in
theorem write_len (p : Value) (k : Int) (a : Option Addr) (n c : Nat) (w : World) (hn : ((n : Int) == 32) = false) :
  Calls Tryz.prog 40 #[p, .int .i64 k, .slice a n c] w fun e w' => e = .returned (.int .i64 2) ∧ w' = w := by
 go_enter Tryz.func40, Tryz.ntmps40
 go_wp2
 go_ret
 exact ⟨rfl, rfl⟩
set_option maxHeartbeats 400000 in
theorem write_dead (p c : Nat) (a : Option Addr) (k : Int) (w : World) (h2 : w.cell? ⟨p, 2, none⟩ = some (.int .i64 0)) :
  Calls Tryz.prog 40 #[.pointer (some ⟨p, 0, none⟩), .int .i64 k, .slice a 32 c] w fun e w' => e = .returned (.int .i64 3) ∧ w' = w := by
 go_enter Tryz.func40, Tryz.ntmps40
 go_wp2_with (go_at_call 27; refine (reach_dead p k _ h2).mono ?_; rintro e w' ⟨rfl, rfl⟩)
 go_ret
 exact ⟨rfl, rfl⟩
set_option maxHeartbeats 400000 in
theorem write_out (p S n c bc : Nat) (a : Option Addr) (l k : Int) (w : World) (h0 : w.cell? ⟨p, 0, none⟩ = some (.slice (some ⟨S, 0, none⟩) n c)) (h2 : w.cell? ⟨p, 2, none⟩ = some (.int .i64 l)) (hl : (l == 0) = false) (hk : k < 0 ∨ n ≤ k) :
  Calls Tryz.prog 40 #[.pointer (some ⟨p, 0, none⟩), .int .i64 k, .slice a 32 bc] w fun e w' => e = .returned (.int .i64 4) ∧ w' = w := by
 go_enter Tryz.func40, Tryz.ntmps40
 go_wp2_with (go_at_call 27; refine (reach_out p S n c l k _ h0 h2 hl hk).mono ?_; rintro e w' ⟨rfl, rfl⟩)
 go_ret
 exact ⟨rfl, rfl⟩
end Go.Proofs.YtlcglapcmdpkfaaGreat
