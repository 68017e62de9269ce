/- Primitives, some of them. -/
import Derived.Test.YtodbkihobgdpdaaGreatDoorEf2
namespace Go.Proofs.YtodbkihobgdpdaaGreatDoor
open Go.RowKit
set_option linter.unusedSimpArgs false
set_option linter.unusedVariables false
set_option maxRecDepth 100000 in
set_option maxHeartbeats 2000000 in
theorem pm_0 : PmC ⟨#[100, 114, 111, 112]⟩ := by
  intro w
  rw [show pmR ⟨#[100, 114, 111, 112]⟩ = (1, 0, true) from by kernel_rfl]
  go_enter Tryz.func16, Tryz.ntmps16
  go_wp2_with fail
  have hq : TwC (w.alloc (.cells #[.int .i64 1, .int .i64 0] 30)) w.heap.size 1 0 := ealloc_at _ _ _ rfl
  obtain ⟨q0, q1, _, _⟩ := hq.cells
  refine bodyPost_ret (results_eff rfl _ _ w.heap.size q0 q1 rfl) rfl ?_
  exact ⟨rfl, (Only.refl _ w).alloc _⟩
set_option maxRecDepth 100000 in
set_option maxHeartbeats 2000000 in
theorem pm_6 : PmC ⟨#[115, 116, 114, 63]⟩ := by
  intro w
  rw [show pmR ⟨#[115, 116, 114, 63]⟩ = (1, 1, true) from by kernel_rfl]
  go_enter Tryz.func16, Tryz.ntmps16
  go_wp2_with fail
  have hq : TwC (w.alloc (.cells #[.int .i64 1, .int .i64 1] 30)) w.heap.size 1 1 := ealloc_at _ _ _ rfl
  obtain ⟨q0, q1, _, _⟩ := hq.cells
  refine bodyPost_ret (results_eff rfl _ _ w.heap.size q0 q1 rfl) rfl ?_
  exact ⟨rfl, (Only.refl _ w).alloc _⟩
set_option maxRecDepth 100000 in
set_option maxHeartbeats 2000000 in
theorem pm_12 : PmC ⟨#[119, 114, 97, 112]⟩ := by
  intro w
  rw [show pmR ⟨#[119, 114, 97, 112]⟩ = (1, 1, true) from by kernel_rfl]
  go_enter Tryz.func16, Tryz.ntmps16
  go_wp2_with fail
  have hq : TwC (w.alloc (.cells #[.int .i64 1, .int .i64 1] 30)) w.heap.size 1 1 := ealloc_at _ _ _ rfl
  obtain ⟨q0, q1, _, _⟩ := hq.cells
  refine bodyPost_ret (results_eff rfl _ _ w.heap.size q0 q1 rfl) rfl ?_
  exact ⟨rfl, (Only.refl _ w).alloc _⟩
set_option maxRecDepth 100000 in
set_option maxHeartbeats 2000000 in
theorem pm_18 : PmC ⟨#[100, 117, 112]⟩ := by
  intro w
  rw [show pmR ⟨#[100, 117, 112]⟩ = (1, 2, true) from by kernel_rfl]
  go_enter Tryz.func16, Tryz.ntmps16
  go_wp2_with fail
  have hq : TwC (w.alloc (.cells #[.int .i64 1, .int .i64 2] 30)) w.heap.size 1 2 := ealloc_at _ _ _ rfl
  obtain ⟨q0, q1, _, _⟩ := hq.cells
  refine bodyPost_ret (results_eff rfl _ _ w.heap.size q0 q1 rfl) rfl ?_
  exact ⟨rfl, (Only.refl _ w).alloc _⟩
set_option maxRecDepth 100000 in
set_option maxHeartbeats 2000000 in
theorem pm_24 : PmC ⟨#[42]⟩ := by
  intro w
  rw [show pmR ⟨#[42]⟩ = (2, 1, true) from by kernel_rfl]
  go_enter Tryz.func16, Tryz.ntmps16
  go_wp2_with fail
  have hq : TwC (w.alloc (.cells #[.int .i64 2, .int .i64 1] 30)) w.heap.size 2 1 := ealloc_at _ _ _ rfl
  obtain ⟨q0, q1, _, _⟩ := hq.cells
  refine bodyPost_ret (results_eff rfl _ _ w.heap.size q0 q1 rfl) rfl ?_
  exact ⟨rfl, (Only.refl _ w).alloc _⟩
set_option maxRecDepth 100000 in
set_option maxHeartbeats 2000000 in
theorem pm_30 : PmC ⟨#[62]⟩ := by
  intro w
  rw [show pmR ⟨#[62]⟩ = (2, 1, true) from by kernel_rfl]
  go_enter Tryz.func16, Tryz.ntmps16
  go_wp2_with fail
  have hq : TwC (w.alloc (.cells #[.int .i64 2, .int .i64 1] 30)) w.heap.size 2 1 := ealloc_at _ _ _ rfl
  obtain ⟨q0, q1, _, _⟩ := hq.cells
  refine bodyPost_ret (results_eff rfl _ _ w.heap.size q0 q1 rfl) rfl ?_
  exact ⟨rfl, (Only.refl _ w).alloc _⟩
set_option maxRecDepth 100000 in
set_option maxHeartbeats 2000000 in
theorem pm_36 : PmC ⟨#[112, 97, 105, 114]⟩ := by
  intro w
  rw [show pmR ⟨#[112, 97, 105, 114]⟩ = (2, 1, true) from by kernel_rfl]
  go_enter Tryz.func16, Tryz.ntmps16
  go_wp2_with fail
  have hq : TwC (w.alloc (.cells #[.int .i64 2, .int .i64 1] 30)) w.heap.size 2 1 := ealloc_at _ _ _ rfl
  obtain ⟨q0, q1, _, _⟩ := hq.cells
  refine bodyPost_ret (results_eff rfl _ _ w.heap.size q0 q1 rfl) rfl ?_
  exact ⟨rfl, (Only.refl _ w).alloc _⟩
set_option maxRecDepth 100000 in
set_option maxHeartbeats 2000000 in
theorem pm_42 : PmC ⟨#[115, 108, 105, 99, 101]⟩ := by
  intro w
  rw [show pmR ⟨#[115, 108, 105, 99, 101]⟩ = (3, 1, true) from by kernel_rfl]
  go_enter Tryz.func16, Tryz.ntmps16
  go_wp2_with fail
  have hq : TwC (w.alloc (.cells #[.int .i64 3, .int .i64 1] 30)) w.heap.size 3 1 := ealloc_at _ _ _ rfl
  obtain ⟨q0, q1, _, _⟩ := hq.cells
  refine bodyPost_ret (results_eff rfl _ _ w.heap.size q0 q1 rfl) rfl ?_
  exact ⟨rfl, (Only.refl _ w).alloc _⟩
end Go.Proofs.YtodbkihobgdpdaaGreatDoor
