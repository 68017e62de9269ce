import Derived.Test.YtlcglapcmdpkfaaGreatE5
namespace Go.Proofs.YtlcglapcmdpkfaaGreat
open Go.RowKit
set_option linter.unusedSimpArgs false
set_option linter.unusedVariables false
set_option maxHeartbeats 400000 in
theorem sector_empty (a : Option Addr) (c : Nat) (w : World) :
  Calls Tryz.prog 41 #[.slice a 0 c] w fun e w' => e = .returned (.slice (some ⟨w.heap.size, 0, none⟩) 32 32) ∧ w' = w.alloc (.cells (secL (fun _ => 0)).toArray 5) := by
 have hmk := mk32 (fun _ => 0)
 have e0 : fullF (fun _ => 0) 0 = fun _ => 0 := by funext j; simp [fullF]
 rw [e0] at hmk
 clear e0
 go_enter Tryz.func41, Tryz.ntmps41
 go_wp2
 refine wp_loop_rounds 1 ?_; rw [rounds_succ]
 go_wp2
 go_ret
 exact ⟨rfl, rfl⟩
def fillF (D : List Nat) : Nat → Int := fullF (fun j => (D.getD j 0 : Nat)) D.length
theorem fillF_byt {D : List Nat} (h : ∀ z ∈ D, z < 256) : Byt (fillF D) := by
 intro j
 have := getD_byte h j
 by_cases hj : j < D.length
 ·have e : fillF D j = (D.getD j 0 : Nat) := by simp [fillF, fullF, hj]
  rw [e]; omega
 ·have e : fillF D j = 0 := by simp [fillF, fullF, hj]
  rw [e]; omega
theorem sector_any (v : Value) (D : List Nat) (w : World) (h : BytesAt w v D) :
  Calls Tryz.prog 41 #[v] w fun e w' => e = .returned (.slice (some ⟨w.heap.size, 0, none⟩) 32 32) ∧ w' = w.alloc (.cells (secL (fillF D)).toArray 5) := by
 by_cases h0 : D.length = 0
 ·obtain rfl : D = [] := List.eq_nil_of_length_eq_zero h0
  obtain ⟨a, c, rfl, _, _⟩ := h.form
  have e : fillF [] = fun _ => 0 := by funext j; simp [fillF, fullF]
  rw [e]
  exact sector_empty a c w
 ·obtain ⟨a, c, rfl, _, hc⟩ := h.form
  obtain ⟨g, o, rfl, hx⟩ := hc 0 (by omega)
  refine full_any g o D.length c _ w (by have := h.2.1; unfold maxLen; omega) (fun j hj => ?_) (World.block_lt_of_cell? w _ hx)
  obtain ⟨g', o', e', hy⟩ := hc j hj
  simp only [Option.some.injEq, Addr.mk.injEq, and_true] at e'
  obtain ⟨rfl, rfl⟩ := e'
  exact hy
end Go.Proofs.YtlcglapcmdpkfaaGreat
