/- Primitives, some of them. -/
import Derived.Test.YtodbkihobgdpdaaGreatDoorEf2
namespace Go.Proofs.YtodbkihobgdpdaaGreatDoor
open Go.RowKit
set_option linter.unusedSimpArgs false
set_option linter.unusedVariables false
set_option maxRecDepth 100000 in
set_option maxHeartbeats 2000000 in
theorem pm_4 : PmC ⟨#[110, 111, 116]⟩ := by
  intro w
  rw [show pmR ⟨#[110, 111, 116]⟩ = (1, 1, true) from by kernel_rfl]
  go_enter Tryz.func16, Tryz.ntmps16
  go_wp2_with fail
  have hq : TwC (w.alloc (.cells #[.int .i64 1, .int .i64 1] 30)) w.heap.size 1 1 := ealloc_at _ _ _ rfl
  obtain ⟨q0, q1, _, _⟩ := hq.cells
  refine bodyPost_ret (results_eff rfl _ _ w.heap.size q0 q1 rfl) rfl ?_
  exact ⟨rfl, (Only.refl _ w).alloc _⟩
set_option maxRecDepth 100000 in
set_option maxHeartbeats 2000000 in
theorem pm_10 : PmC ⟨#[98, 111, 120, 63]⟩ := by
  intro w
  rw [show pmR ⟨#[98, 111, 120, 63]⟩ = (1, 1, true) from by kernel_rfl]
  go_enter Tryz.func16, Tryz.ntmps16
  go_wp2_with fail
  have hq : TwC (w.alloc (.cells #[.int .i64 1, .int .i64 1] 30)) w.heap.size 1 1 := ealloc_at _ _ _ rfl
  obtain ⟨q0, q1, _, _⟩ := hq.cells
  refine bodyPost_ret (results_eff rfl _ _ w.heap.size q0 q1 rfl) rfl ?_
  exact ⟨rfl, (Only.refl _ w).alloc _⟩
set_option maxRecDepth 100000 in
set_option maxHeartbeats 2000000 in
theorem pm_16 : PmC ⟨#[98, 111, 120]⟩ := by
  intro w
  rw [show pmR ⟨#[98, 111, 120]⟩ = (1, 1, true) from by kernel_rfl]
  go_enter Tryz.func16, Tryz.ntmps16
  go_wp2_with fail
  have hq : TwC (w.alloc (.cells #[.int .i64 1, .int .i64 1] 30)) w.heap.size 1 1 := ealloc_at _ _ _ rfl
  obtain ⟨q0, q1, _, _⟩ := hq.cells
  refine bodyPost_ret (results_eff rfl _ _ w.heap.size q0 q1 rfl) rfl ?_
  exact ⟨rfl, (Only.refl _ w).alloc _⟩
set_option maxRecDepth 100000 in
set_option maxHeartbeats 2000000 in
theorem pm_22 : PmC ⟨#[43]⟩ := by
  intro w
  rw [show pmR ⟨#[43]⟩ = (2, 1, true) from by kernel_rfl]
  go_enter Tryz.func16, Tryz.ntmps16
  go_wp2_with fail
  have hq : TwC (w.alloc (.cells #[.int .i64 2, .int .i64 1] 30)) w.heap.size 2 1 := ealloc_at _ _ _ rfl
  obtain ⟨q0, q1, _, _⟩ := hq.cells
  refine bodyPost_ret (results_eff rfl _ _ w.heap.size q0 q1 rfl) rfl ?_
  exact ⟨rfl, (Only.refl _ w).alloc _⟩
set_option maxRecDepth 100000 in
set_option maxHeartbeats 2000000 in
theorem pm_28 : PmC ⟨#[109, 97, 120]⟩ := by
  intro w
  rw [show pmR ⟨#[109, 97, 120]⟩ = (2, 1, true) from by kernel_rfl]
  go_enter Tryz.func16, Tryz.ntmps16
  go_wp2_with fail
  have hq : TwC (w.alloc (.cells #[.int .i64 2, .int .i64 1] 30)) w.heap.size 2 1 := ealloc_at _ _ _ rfl
  obtain ⟨q0, q1, _, _⟩ := hq.cells
  refine bodyPost_ret (results_eff rfl _ _ w.heap.size q0 q1 rfl) rfl ?_
  exact ⟨rfl, (Only.refl _ w).alloc _⟩
set_option maxRecDepth 100000 in
set_option maxHeartbeats 2000000 in
theorem pm_34 : PmC ⟨#[97, 112, 112, 101, 110, 100]⟩ := by
  intro w
  rw [show pmR ⟨#[97, 112, 112, 101, 110, 100]⟩ = (2, 1, true) from by kernel_rfl]
  go_enter Tryz.func16, Tryz.ntmps16
  go_wp2_with fail
  have hq : TwC (w.alloc (.cells #[.int .i64 2, .int .i64 1] 30)) w.heap.size 2 1 := ealloc_at _ _ _ rfl
  obtain ⟨q0, q1, _, _⟩ := hq.cells
  refine bodyPost_ret (results_eff rfl _ _ w.heap.size q0 q1 rfl) rfl ?_
  exact ⟨rfl, (Only.refl _ w).alloc _⟩
set_option maxRecDepth 100000 in
set_option maxHeartbeats 2000000 in
theorem pm_40 : PmC ⟨#[111, 118, 101, 114]⟩ := by
  intro w
  rw [show pmR ⟨#[111, 118, 101, 114]⟩ = (2, 3, true) from by kernel_rfl]
  go_enter Tryz.func16, Tryz.ntmps16
  go_wp2_with fail
  have hq : TwC (w.alloc (.cells #[.int .i64 2, .int .i64 3] 30)) w.heap.size 2 3 := ealloc_at _ _ _ rfl
  obtain ⟨q0, q1, _, _⟩ := hq.cells
  refine bodyPost_ret (results_eff rfl _ _ w.heap.size q0 q1 rfl) rfl ?_
  exact ⟨rfl, (Only.refl _ w).alloc _⟩
end Go.Proofs.YtodbkihobgdpdaaGreatDoor
