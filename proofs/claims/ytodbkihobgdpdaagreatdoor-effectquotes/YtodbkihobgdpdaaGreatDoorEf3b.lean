/- Primitives, some of them. -/
import Derived.Test.YtodbkihobgdpdaaGreatDoorEf2
namespace Go.Proofs.YtodbkihobgdpdaaGreatDoor
open Go.RowKit
set_option linter.unusedSimpArgs false
set_option linter.unusedVariables false
set_option maxRecDepth 100000 in
set_option maxHeartbeats 2000000 in
theorem pm_1 : PmC ⟨#[46]⟩ := by
  intro w
  rw [show pmR ⟨#[46]⟩ = (1, 0, true) from by kernel_rfl]
  go_enter Tryz.func16, Tryz.ntmps16
  go_wp2_with fail
  have hq : TwC (w.alloc (.cells #[.int .i64 1, .int .i64 0] 30)) w.heap.size 1 0 := ealloc_at _ _ _ rfl
  obtain ⟨q0, q1, _, _⟩ := hq.cells
  refine bodyPost_ret (results_eff rfl _ _ w.heap.size q0 q1 rfl) rfl ?_
  exact ⟨rfl, (Only.refl _ w).alloc _⟩
set_option maxRecDepth 100000 in
set_option maxHeartbeats 2000000 in
theorem pm_7 : PmC ⟨#[98, 111, 111, 108, 63]⟩ := by
  intro w
  rw [show pmR ⟨#[98, 111, 111, 108, 63]⟩ = (1, 1, true) from by kernel_rfl]
  go_enter Tryz.func16, Tryz.ntmps16
  go_wp2_with fail
  have hq : TwC (w.alloc (.cells #[.int .i64 1, .int .i64 1] 30)) w.heap.size 1 1 := ealloc_at _ _ _ rfl
  obtain ⟨q0, q1, _, _⟩ := hq.cells
  refine bodyPost_ret (results_eff rfl _ _ w.heap.size q0 q1 rfl) rfl ?_
  exact ⟨rfl, (Only.refl _ w).alloc _⟩
set_option maxRecDepth 100000 in
set_option maxHeartbeats 2000000 in
theorem pm_13 : PmC ⟨#[114, 101, 118, 101, 114, 115, 101]⟩ := by
  intro w
  rw [show pmR ⟨#[114, 101, 118, 101, 114, 115, 101]⟩ = (1, 1, true) from by kernel_rfl]
  go_enter Tryz.func16, Tryz.ntmps16
  go_wp2_with fail
  have hq : TwC (w.alloc (.cells #[.int .i64 1, .int .i64 1] 30)) w.heap.size 1 1 := ealloc_at _ _ _ rfl
  obtain ⟨q0, q1, _, _⟩ := hq.cells
  refine bodyPost_ret (results_eff rfl _ _ w.heap.size q0 q1 rfl) rfl ?_
  exact ⟨rfl, (Only.refl _ w).alloc _⟩
set_option maxRecDepth 100000 in
set_option maxHeartbeats 2000000 in
theorem pm_19 : PmC ⟨#[117, 110, 112, 97, 105, 114]⟩ := by
  intro w
  rw [show pmR ⟨#[117, 110, 112, 97, 105, 114]⟩ = (1, 2, true) from by kernel_rfl]
  go_enter Tryz.func16, Tryz.ntmps16
  go_wp2_with fail
  have hq : TwC (w.alloc (.cells #[.int .i64 1, .int .i64 2] 30)) w.heap.size 1 2 := ealloc_at _ _ _ rfl
  obtain ⟨q0, q1, _, _⟩ := hq.cells
  refine bodyPost_ret (results_eff rfl _ _ w.heap.size q0 q1 rfl) rfl ?_
  exact ⟨rfl, (Only.refl _ w).alloc _⟩
set_option maxRecDepth 100000 in
set_option maxHeartbeats 2000000 in
theorem pm_25 : PmC ⟨#[47]⟩ := by
  intro w
  rw [show pmR ⟨#[47]⟩ = (2, 1, true) from by kernel_rfl]
  go_enter Tryz.func16, Tryz.ntmps16
  go_wp2_with fail
  have hq : TwC (w.alloc (.cells #[.int .i64 2, .int .i64 1] 30)) w.heap.size 2 1 := ealloc_at _ _ _ rfl
  obtain ⟨q0, q1, _, _⟩ := hq.cells
  refine bodyPost_ret (results_eff rfl _ _ w.heap.size q0 q1 rfl) rfl ?_
  exact ⟨rfl, (Only.refl _ w).alloc _⟩
set_option maxRecDepth 100000 in
set_option maxHeartbeats 2000000 in
theorem pm_31 : PmC ⟨#[61]⟩ := by
  intro w
  rw [show pmR ⟨#[61]⟩ = (2, 1, true) from by kernel_rfl]
  go_enter Tryz.func16, Tryz.ntmps16
  go_wp2_with fail
  have hq : TwC (w.alloc (.cells #[.int .i64 2, .int .i64 1] 30)) w.heap.size 2 1 := ealloc_at _ _ _ rfl
  obtain ⟨q0, q1, _, _⟩ := hq.cells
  refine bodyPost_ret (results_eff rfl _ _ w.heap.size q0 q1 rfl) rfl ?_
  exact ⟨rfl, (Only.refl _ w).alloc _⟩
set_option maxRecDepth 100000 in
set_option maxHeartbeats 2000000 in
theorem pm_37 : PmC ⟨#[99, 117, 114, 114, 121]⟩ := by
  intro w
  rw [show pmR ⟨#[99, 117, 114, 114, 121]⟩ = (2, 1, true) from by kernel_rfl]
  go_enter Tryz.func16, Tryz.ntmps16
  go_wp2_with fail
  have hq : TwC (w.alloc (.cells #[.int .i64 2, .int .i64 1] 30)) w.heap.size 2 1 := ealloc_at _ _ _ rfl
  obtain ⟨q0, q1, _, _⟩ := hq.cells
  refine bodyPost_ret (results_eff rfl _ _ w.heap.size q0 q1 rfl) rfl ?_
  exact ⟨rfl, (Only.refl _ w).alloc _⟩
set_option maxRecDepth 100000 in
set_option maxHeartbeats 2000000 in
theorem pm_43 : PmC ⟨#[114, 111, 116]⟩ := by
  intro w
  rw [show pmR ⟨#[114, 111, 116]⟩ = (3, 3, true) from by kernel_rfl]
  go_enter Tryz.func16, Tryz.ntmps16
  go_wp2_with fail
  have hq : TwC (w.alloc (.cells #[.int .i64 3, .int .i64 3] 30)) w.heap.size 3 3 := ealloc_at _ _ _ rfl
  obtain ⟨q0, q1, _, _⟩ := hq.cells
  refine bodyPost_ret (results_eff rfl _ _ w.heap.size q0 q1 rfl) rfl ?_
  exact ⟨rfl, (Only.refl _ w).alloc _⟩
end Go.Proofs.YtodbkihobgdpdaaGreatDoor
