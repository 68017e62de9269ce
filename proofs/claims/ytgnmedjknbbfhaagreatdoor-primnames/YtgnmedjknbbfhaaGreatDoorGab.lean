/- Primitives, some of them. The document on primitives, some of them. Primitives, some of them. The document on primitives, some of them. Primitives: all. Trees of values and items, whatever they hold, and how they lie in memory. -/
import Derived.Test.YtgnmedjknbbfhaaGreatDoorGaa
import Derived.Test.YtgnmedjknbbfhaaGreatDoorRows
import Derived.Maps.AppendAt
namespace Go.Proofs.YtgnmedjknbbfhaaGreatDoor
open Go.RowKit
set_option linter.unusedSimpArgs false
set_option linter.unusedVariables false
set_option maxRecDepth 100000 in
set_option maxHeartbeats 2000000 in
theorem pm_4 : PmC ⟨#[110, 111, 116]⟩ := by
  intro w
  rw [show pmR ⟨#[110, 111, 116]⟩ = (1, 1, true) from by kernel_rfl]
  go_enter Tryz.func40, Tryz.ntmps40
  go_wp2_with fail
  have hq : TwC (w.alloc (.cells #[.int .i64 1, .int .i64 1] 39)) w.heap.size 1 1 := ealloc_at _ _ _ rfl
  obtain ⟨q0, q1, _, _⟩ := hq.cells
  refine bodyPost_ret (results_eff rfl _ _ w.heap.size q0 q1 rfl) rfl ?_
  exact ⟨rfl, (Only.refl _ w).alloc _⟩
set_option maxRecDepth 100000 in
set_option maxHeartbeats 2000000 in
theorem pm_10 : PmC ⟨#[98, 111, 120, 63]⟩ := by
  intro w
  rw [show pmR ⟨#[98, 111, 120, 63]⟩ = (1, 1, true) from by kernel_rfl]
  go_enter Tryz.func40, Tryz.ntmps40
  go_wp2_with fail
  have hq : TwC (w.alloc (.cells #[.int .i64 1, .int .i64 1] 39)) w.heap.size 1 1 := ealloc_at _ _ _ rfl
  obtain ⟨q0, q1, _, _⟩ := hq.cells
  refine bodyPost_ret (results_eff rfl _ _ w.heap.size q0 q1 rfl) rfl ?_
  exact ⟨rfl, (Only.refl _ w).alloc _⟩
set_option maxRecDepth 100000 in
set_option maxHeartbeats 2000000 in
theorem pm_16 : PmC ⟨#[98, 111, 120]⟩ := by
  intro w
  rw [show pmR ⟨#[98, 111, 120]⟩ = (1, 1, true) from by kernel_rfl]
  go_enter Tryz.func40, Tryz.ntmps40
  go_wp2_with fail
  have hq : TwC (w.alloc (.cells #[.int .i64 1, .int .i64 1] 39)) w.heap.size 1 1 := ealloc_at _ _ _ rfl
  obtain ⟨q0, q1, _, _⟩ := hq.cells
  refine bodyPost_ret (results_eff rfl _ _ w.heap.size q0 q1 rfl) rfl ?_
  exact ⟨rfl, (Only.refl _ w).alloc _⟩
set_option maxRecDepth 100000 in
set_option maxHeartbeats 2000000 in
theorem pm_22 : PmC ⟨#[43]⟩ := by
  intro w
  rw [show pmR ⟨#[43]⟩ = (2, 1, true) from by kernel_rfl]
  go_enter Tryz.func40, Tryz.ntmps40
  go_wp2_with fail
  have hq : TwC (w.alloc (.cells #[.int .i64 2, .int .i64 1] 39)) w.heap.size 2 1 := ealloc_at _ _ _ rfl
  obtain ⟨q0, q1, _, _⟩ := hq.cells
  refine bodyPost_ret (results_eff rfl _ _ w.heap.size q0 q1 rfl) rfl ?_
  exact ⟨rfl, (Only.refl _ w).alloc _⟩
set_option maxRecDepth 100000 in
set_option maxHeartbeats 2000000 in
theorem pm_28 : PmC ⟨#[109, 97, 120]⟩ := by
  intro w
  rw [show pmR ⟨#[109, 97, 120]⟩ = (2, 1, true) from by kernel_rfl]
  go_enter Tryz.func40, Tryz.ntmps40
  go_wp2_with fail
  have hq : TwC (w.alloc (.cells #[.int .i64 2, .int .i64 1] 39)) w.heap.size 2 1 := ealloc_at _ _ _ rfl
  obtain ⟨q0, q1, _, _⟩ := hq.cells
  refine bodyPost_ret (results_eff rfl _ _ w.heap.size q0 q1 rfl) rfl ?_
  exact ⟨rfl, (Only.refl _ w).alloc _⟩
set_option maxRecDepth 100000 in
set_option maxHeartbeats 2000000 in
theorem pm_34 : PmC ⟨#[97, 112, 112, 101, 110, 100]⟩ := by
  intro w
  rw [show pmR ⟨#[97, 112, 112, 101, 110, 100]⟩ = (2, 1, true) from by kernel_rfl]
  go_enter Tryz.func40, Tryz.ntmps40
  go_wp2_with fail
  have hq : TwC (w.alloc (.cells #[.int .i64 2, .int .i64 1] 39)) w.heap.size 2 1 := ealloc_at _ _ _ rfl
  obtain ⟨q0, q1, _, _⟩ := hq.cells
  refine bodyPost_ret (results_eff rfl _ _ w.heap.size q0 q1 rfl) rfl ?_
  exact ⟨rfl, (Only.refl _ w).alloc _⟩
set_option maxRecDepth 100000 in
set_option maxHeartbeats 2000000 in
theorem pm_40 : PmC ⟨#[111, 118, 101, 114]⟩ := by
  intro w
  rw [show pmR ⟨#[111, 118, 101, 114]⟩ = (2, 3, true) from by kernel_rfl]
  go_enter Tryz.func40, Tryz.ntmps40
  go_wp2_with fail
  have hq : TwC (w.alloc (.cells #[.int .i64 2, .int .i64 3] 39)) w.heap.size 2 3 := ealloc_at _ _ _ rfl
  obtain ⟨q0, q1, _, _⟩ := hq.cells
  refine bodyPost_ret (results_eff rfl _ _ w.heap.size q0 q1 rfl) rfl ?_
  exact ⟨rfl, (Only.refl _ w).alloc _⟩
end Go.Proofs.YtgnmedjknbbfhaaGreatDoor
namespace Go.Proofs.YtgnmedjknbbfhaaGreatDoor
open Go.RowKit
set_option linter.unusedSimpArgs false
set_option linter.unusedVariables false
set_option maxRecDepth 100000 in
set_option maxHeartbeats 2000000 in
theorem rm_4 : RmC ⟨#[110, 111, 116]⟩ := by
  intro w
  rw [show pmR ⟨#[110, 111, 116]⟩ = (1, 1, true) from by kernel_rfl]
  have HM : Hid (∀ w1, Calls Tryz.prog 41 #[.string ⟨#[110, 111, 116]⟩] w1 fun e w' => ∃ v, e = .returned (.tuple #[.int .i64 0, v, .bool false]) ∧ Hid ((∃ ao c, v = .slice ao 0 c) ∧ Only (fun _ => False) w1 w')) := by
    intro w1
    go_enter Tryz.func41, Tryz.ntmps41
    go_wp2_with fail
    go_ret3
    exact ⟨_, rfl, ⟨_, _, rfl⟩, Only.refl _ w1⟩
  go_enter Tryz.func21, Tryz.ntmps21
  go_wp2_with fail
  refine (show Calls Tryz.prog 41 _ _ _ from HM.out _).mono ?_
  rintro e w1 ⟨v, rfl, h1⟩
  obtain ⟨⟨ao, c, rfl⟩, o1⟩ := h1.out
  have O1 : Hid (Only (fun _ => False) w w1) := o1
  clear h1 o1 HM
  go_wp2_with fail
  go_ret3
  exact ⟨rfl, O1.out⟩
set_option maxRecDepth 100000 in
set_option maxHeartbeats 2000000 in
theorem rm_10 : RmC ⟨#[98, 111, 120, 63]⟩ := by
  intro w
  rw [show pmR ⟨#[98, 111, 120, 63]⟩ = (1, 1, true) from by kernel_rfl]
  have HM : Hid (∀ w1, Calls Tryz.prog 41 #[.string ⟨#[98, 111, 120, 63]⟩] w1 fun e w' => ∃ v, e = .returned (.tuple #[.int .i64 0, v, .bool false]) ∧ Hid ((∃ ao c, v = .slice ao 0 c) ∧ Only (fun _ => False) w1 w')) := by
    intro w1
    go_enter Tryz.func41, Tryz.ntmps41
    go_wp2_with fail
    go_ret3
    exact ⟨_, rfl, ⟨_, _, rfl⟩, Only.refl _ w1⟩
  go_enter Tryz.func21, Tryz.ntmps21
  go_wp2_with fail
  refine (show Calls Tryz.prog 41 _ _ _ from HM.out _).mono ?_
  rintro e w1 ⟨v, rfl, h1⟩
  obtain ⟨⟨ao, c, rfl⟩, o1⟩ := h1.out
  have O1 : Hid (Only (fun _ => False) w w1) := o1
  clear h1 o1 HM
  go_wp2_with fail
  go_ret3
  exact ⟨rfl, O1.out⟩
set_option maxRecDepth 100000 in
set_option maxHeartbeats 2000000 in
theorem rm_16 : RmC ⟨#[98, 111, 120]⟩ := by
  intro w
  rw [show pmR ⟨#[98, 111, 120]⟩ = (1, 1, true) from by kernel_rfl]
  have HM : Hid (∀ w1, Calls Tryz.prog 41 #[.string ⟨#[98, 111, 120]⟩] w1 fun e w' => ∃ v, e = .returned (.tuple #[.int .i64 0, v, .bool false]) ∧ Hid ((∃ ao c, v = .slice ao 0 c) ∧ Only (fun _ => False) w1 w')) := by
    intro w1
    go_enter Tryz.func41, Tryz.ntmps41
    go_wp2_with fail
    go_ret3
    exact ⟨_, rfl, ⟨_, _, rfl⟩, Only.refl _ w1⟩
  go_enter Tryz.func21, Tryz.ntmps21
  go_wp2_with fail
  refine (show Calls Tryz.prog 41 _ _ _ from HM.out _).mono ?_
  rintro e w1 ⟨v, rfl, h1⟩
  obtain ⟨⟨ao, c, rfl⟩, o1⟩ := h1.out
  have O1 : Hid (Only (fun _ => False) w w1) := o1
  clear h1 o1 HM
  go_wp2_with fail
  go_ret3
  exact ⟨rfl, O1.out⟩
set_option maxRecDepth 100000 in
set_option maxHeartbeats 2000000 in
theorem rm_22 : RmC ⟨#[43]⟩ := by
  intro w
  rw [show pmR ⟨#[43]⟩ = (2, 1, true) from by kernel_rfl]
  have HM : Hid (∀ w1, Calls Tryz.prog 41 #[.string ⟨#[43]⟩] w1 fun e w' => ∃ v, e = .returned (.tuple #[.int .i64 0, v, .bool false]) ∧ Hid ((∃ ao c, v = .slice ao 0 c) ∧ Only (fun _ => False) w1 w')) := by
    intro w1
    go_enter Tryz.func41, Tryz.ntmps41
    go_wp2_with fail
    go_ret3
    exact ⟨_, rfl, ⟨_, _, rfl⟩, Only.refl _ w1⟩
  go_enter Tryz.func21, Tryz.ntmps21
  go_wp2_with fail
  refine (show Calls Tryz.prog 41 _ _ _ from HM.out _).mono ?_
  rintro e w1 ⟨v, rfl, h1⟩
  obtain ⟨⟨ao, c, rfl⟩, o1⟩ := h1.out
  have O1 : Hid (Only (fun _ => False) w w1) := o1
  clear h1 o1 HM
  go_wp2_with fail
  go_ret3
  exact ⟨rfl, O1.out⟩
set_option maxRecDepth 100000 in
set_option maxHeartbeats 2000000 in
theorem rm_28 : RmC ⟨#[109, 97, 120]⟩ := by
  intro w
  rw [show pmR ⟨#[109, 97, 120]⟩ = (2, 1, true) from by kernel_rfl]
  have HM : Hid (∀ w1, Calls Tryz.prog 41 #[.string ⟨#[109, 97, 120]⟩] w1 fun e w' => ∃ v, e = .returned (.tuple #[.int .i64 0, v, .bool false]) ∧ Hid ((∃ ao c, v = .slice ao 0 c) ∧ Only (fun _ => False) w1 w')) := by
    intro w1
    go_enter Tryz.func41, Tryz.ntmps41
    go_wp2_with fail
    go_ret3
    exact ⟨_, rfl, ⟨_, _, rfl⟩, Only.refl _ w1⟩
  go_enter Tryz.func21, Tryz.ntmps21
  go_wp2_with fail
  refine (show Calls Tryz.prog 41 _ _ _ from HM.out _).mono ?_
  rintro e w1 ⟨v, rfl, h1⟩
  obtain ⟨⟨ao, c, rfl⟩, o1⟩ := h1.out
  have O1 : Hid (Only (fun _ => False) w w1) := o1
  clear h1 o1 HM
  go_wp2_with fail
  go_ret3
  exact ⟨rfl, O1.out⟩
set_option maxRecDepth 100000 in
set_option maxHeartbeats 2000000 in
theorem rm_34 : RmC ⟨#[97, 112, 112, 101, 110, 100]⟩ := by
  intro w
  rw [show pmR ⟨#[97, 112, 112, 101, 110, 100]⟩ = (2, 1, true) from by kernel_rfl]
  have HM : Hid (∀ w1, Calls Tryz.prog 41 #[.string ⟨#[97, 112, 112, 101, 110, 100]⟩] w1 fun e w' => ∃ v, e = .returned (.tuple #[.int .i64 0, v, .bool false]) ∧ Hid ((∃ ao c, v = .slice ao 0 c) ∧ Only (fun _ => False) w1 w')) := by
    intro w1
    go_enter Tryz.func41, Tryz.ntmps41
    go_wp2_with fail
    go_ret3
    exact ⟨_, rfl, ⟨_, _, rfl⟩, Only.refl _ w1⟩
  go_enter Tryz.func21, Tryz.ntmps21
  go_wp2_with fail
  refine (show Calls Tryz.prog 41 _ _ _ from HM.out _).mono ?_
  rintro e w1 ⟨v, rfl, h1⟩
  obtain ⟨⟨ao, c, rfl⟩, o1⟩ := h1.out
  have O1 : Hid (Only (fun _ => False) w w1) := o1
  clear h1 o1 HM
  go_wp2_with fail
  go_ret3
  exact ⟨rfl, O1.out⟩
set_option maxRecDepth 100000 in
set_option maxHeartbeats 2000000 in
theorem rm_40 : RmC ⟨#[111, 118, 101, 114]⟩ := by
  intro w
  rw [show pmR ⟨#[111, 118, 101, 114]⟩ = (2, 3, true) from by kernel_rfl]
  have HM : Hid (∀ w1, Calls Tryz.prog 41 #[.string ⟨#[111, 118, 101, 114]⟩] w1 fun e w' => ∃ v, e = .returned (.tuple #[.int .i64 2, v, .bool true]) ∧ Hid ((∃ ao c, v = .slice ao 3 c) ∧ Only (fun _ => False) w1 w')) := by
    intro w1
    go_enter Tryz.func41, Tryz.ntmps41
    go_wp2_with fail
    go_ret3
    exact ⟨_, rfl, ⟨_, _, rfl⟩, (Only.refl _ w1).alloc _⟩
  go_enter Tryz.func21, Tryz.ntmps21
  go_wp2_with fail
  refine (show Calls Tryz.prog 41 _ _ _ from HM.out _).mono ?_
  rintro e w1 ⟨v, rfl, h1⟩
  obtain ⟨⟨ao, c, rfl⟩, o1⟩ := h1.out
  have O1 : Hid (Only (fun _ => False) w w1) := o1
  clear h1 o1 HM
  go_wp2_with fail
  go_ret3
  exact ⟨rfl, O1.out⟩
end Go.Proofs.YtgnmedjknbbfhaaGreatDoor
namespace Go.Proofs.YtgnmedjknbbfhaaGreatDoor
open Go.RowKit
set_option linter.unusedSimpArgs false
set_option linter.unusedVariables false
set_option maxRecDepth 100000 in
set_option maxHeartbeats 2000000 in
theorem pm_5 : PmC ⟨#[105, 110, 116, 63]⟩ := by
  intro w
  rw [show pmR ⟨#[105, 110, 116, 63]⟩ = (1, 1, true) from by kernel_rfl]
  go_enter Tryz.func40, Tryz.ntmps40
  go_wp2_with fail
  have hq : TwC (w.alloc (.cells #[.int .i64 1, .int .i64 1] 39)) w.heap.size 1 1 := ealloc_at _ _ _ rfl
  obtain ⟨q0, q1, _, _⟩ := hq.cells
  refine bodyPost_ret (results_eff rfl _ _ w.heap.size q0 q1 rfl) rfl ?_
  exact ⟨rfl, (Only.refl _ w).alloc _⟩
set_option maxRecDepth 100000 in
set_option maxHeartbeats 2000000 in
theorem pm_11 : PmC ⟨#[108, 101, 110, 103, 116, 104]⟩ := by
  intro w
  rw [show pmR ⟨#[108, 101, 110, 103, 116, 104]⟩ = (1, 1, true) from by kernel_rfl]
  go_enter Tryz.func40, Tryz.ntmps40
  go_wp2_with fail
  have hq : TwC (w.alloc (.cells #[.int .i64 1, .int .i64 1] 39)) w.heap.size 1 1 := ealloc_at _ _ _ rfl
  obtain ⟨q0, q1, _, _⟩ := hq.cells
  refine bodyPost_ret (results_eff rfl _ _ w.heap.size q0 q1 rfl) rfl ?_
  exact ⟨rfl, (Only.refl _ w).alloc _⟩
set_option maxRecDepth 100000 in
set_option maxHeartbeats 2000000 in
theorem pm_17 : PmC ⟨#[103, 101, 116]⟩ := by
  intro w
  rw [show pmR ⟨#[103, 101, 116]⟩ = (1, 1, true) from by kernel_rfl]
  go_enter Tryz.func40, Tryz.ntmps40
  go_wp2_with fail
  have hq : TwC (w.alloc (.cells #[.int .i64 1, .int .i64 1] 39)) w.heap.size 1 1 := ealloc_at _ _ _ rfl
  obtain ⟨q0, q1, _, _⟩ := hq.cells
  refine bodyPost_ret (results_eff rfl _ _ w.heap.size q0 q1 rfl) rfl ?_
  exact ⟨rfl, (Only.refl _ w).alloc _⟩
set_option maxRecDepth 100000 in
set_option maxHeartbeats 2000000 in
theorem pm_23 : PmC ⟨#[45]⟩ := by
  intro w
  rw [show pmR ⟨#[45]⟩ = (2, 1, true) from by kernel_rfl]
  go_enter Tryz.func40, Tryz.ntmps40
  go_wp2_with fail
  have hq : TwC (w.alloc (.cells #[.int .i64 2, .int .i64 1] 39)) w.heap.size 2 1 := ealloc_at _ _ _ rfl
  obtain ⟨q0, q1, _, _⟩ := hq.cells
  refine bodyPost_ret (results_eff rfl _ _ w.heap.size q0 q1 rfl) rfl ?_
  exact ⟨rfl, (Only.refl _ w).alloc _⟩
set_option maxRecDepth 100000 in
set_option maxHeartbeats 2000000 in
theorem pm_29 : PmC ⟨#[60]⟩ := by
  intro w
  rw [show pmR ⟨#[60]⟩ = (2, 1, true) from by kernel_rfl]
  go_enter Tryz.func40, Tryz.ntmps40
  go_wp2_with fail
  have hq : TwC (w.alloc (.cells #[.int .i64 2, .int .i64 1] 39)) w.heap.size 2 1 := ealloc_at _ _ _ rfl
  obtain ⟨q0, q1, _, _⟩ := hq.cells
  refine bodyPost_ret (results_eff rfl _ _ w.heap.size q0 q1 rfl) rfl ?_
  exact ⟨rfl, (Only.refl _ w).alloc _⟩
set_option maxRecDepth 100000 in
set_option maxHeartbeats 2000000 in
theorem pm_35 : PmC ⟨#[110, 116, 104]⟩ := by
  intro w
  rw [show pmR ⟨#[110, 116, 104]⟩ = (2, 1, true) from by kernel_rfl]
  go_enter Tryz.func40, Tryz.ntmps40
  go_wp2_with fail
  have hq : TwC (w.alloc (.cells #[.int .i64 2, .int .i64 1] 39)) w.heap.size 2 1 := ealloc_at _ _ _ rfl
  obtain ⟨q0, q1, _, _⟩ := hq.cells
  refine bodyPost_ret (results_eff rfl _ _ w.heap.size q0 q1 rfl) rfl ?_
  exact ⟨rfl, (Only.refl _ w).alloc _⟩
set_option maxRecDepth 100000 in
set_option maxHeartbeats 2000000 in
theorem pm_41 : PmC ⟨#[116, 117, 99, 107]⟩ := by
  intro w
  rw [show pmR ⟨#[116, 117, 99, 107]⟩ = (2, 3, true) from by kernel_rfl]
  go_enter Tryz.func40, Tryz.ntmps40
  go_wp2_with fail
  have hq : TwC (w.alloc (.cells #[.int .i64 2, .int .i64 3] 39)) w.heap.size 2 3 := ealloc_at _ _ _ rfl
  obtain ⟨q0, q1, _, _⟩ := hq.cells
  refine bodyPost_ret (results_eff rfl _ _ w.heap.size q0 q1 rfl) rfl ?_
  exact ⟨rfl, (Only.refl _ w).alloc _⟩
end Go.Proofs.YtgnmedjknbbfhaaGreatDoor
namespace Go.Proofs.YtgnmedjknbbfhaaGreatDoor
open Go.RowKit
set_option linter.unusedSimpArgs false
set_option linter.unusedVariables false
set_option maxRecDepth 100000 in
set_option maxHeartbeats 2000000 in
theorem rm_5 : RmC ⟨#[105, 110, 116, 63]⟩ := by
  intro w
  rw [show pmR ⟨#[105, 110, 116, 63]⟩ = (1, 1, true) from by kernel_rfl]
  have HM : Hid (∀ w1, Calls Tryz.prog 41 #[.string ⟨#[105, 110, 116, 63]⟩] w1 fun e w' => ∃ v, e = .returned (.tuple #[.int .i64 0, v, .bool false]) ∧ Hid ((∃ ao c, v = .slice ao 0 c) ∧ Only (fun _ => False) w1 w')) := by
    intro w1
    go_enter Tryz.func41, Tryz.ntmps41
    go_wp2_with fail
    go_ret3
    exact ⟨_, rfl, ⟨_, _, rfl⟩, Only.refl _ w1⟩
  go_enter Tryz.func21, Tryz.ntmps21
  go_wp2_with fail
  refine (show Calls Tryz.prog 41 _ _ _ from HM.out _).mono ?_
  rintro e w1 ⟨v, rfl, h1⟩
  obtain ⟨⟨ao, c, rfl⟩, o1⟩ := h1.out
  have O1 : Hid (Only (fun _ => False) w w1) := o1
  clear h1 o1 HM
  go_wp2_with fail
  go_ret3
  exact ⟨rfl, O1.out⟩
set_option maxRecDepth 100000 in
set_option maxHeartbeats 2000000 in
theorem rm_11 : RmC ⟨#[108, 101, 110, 103, 116, 104]⟩ := by
  intro w
  rw [show pmR ⟨#[108, 101, 110, 103, 116, 104]⟩ = (1, 1, true) from by kernel_rfl]
  have HM : Hid (∀ w1, Calls Tryz.prog 41 #[.string ⟨#[108, 101, 110, 103, 116, 104]⟩] w1 fun e w' => ∃ v, e = .returned (.tuple #[.int .i64 0, v, .bool false]) ∧ Hid ((∃ ao c, v = .slice ao 0 c) ∧ Only (fun _ => False) w1 w')) := by
    intro w1
    go_enter Tryz.func41, Tryz.ntmps41
    go_wp2_with fail
    go_ret3
    exact ⟨_, rfl, ⟨_, _, rfl⟩, Only.refl _ w1⟩
  go_enter Tryz.func21, Tryz.ntmps21
  go_wp2_with fail
  refine (show Calls Tryz.prog 41 _ _ _ from HM.out _).mono ?_
  rintro e w1 ⟨v, rfl, h1⟩
  obtain ⟨⟨ao, c, rfl⟩, o1⟩ := h1.out
  have O1 : Hid (Only (fun _ => False) w w1) := o1
  clear h1 o1 HM
  go_wp2_with fail
  go_ret3
  exact ⟨rfl, O1.out⟩
set_option maxRecDepth 100000 in
set_option maxHeartbeats 2000000 in
theorem rm_17 : RmC ⟨#[103, 101, 116]⟩ := by
  intro w
  rw [show pmR ⟨#[103, 101, 116]⟩ = (1, 1, true) from by kernel_rfl]
  have HM : Hid (∀ w1, Calls Tryz.prog 41 #[.string ⟨#[103, 101, 116]⟩] w1 fun e w' => ∃ v, e = .returned (.tuple #[.int .i64 0, v, .bool false]) ∧ Hid ((∃ ao c, v = .slice ao 0 c) ∧ Only (fun _ => False) w1 w')) := by
    intro w1
    go_enter Tryz.func41, Tryz.ntmps41
    go_wp2_with fail
    go_ret3
    exact ⟨_, rfl, ⟨_, _, rfl⟩, Only.refl _ w1⟩
  go_enter Tryz.func21, Tryz.ntmps21
  go_wp2_with fail
  refine (show Calls Tryz.prog 41 _ _ _ from HM.out _).mono ?_
  rintro e w1 ⟨v, rfl, h1⟩
  obtain ⟨⟨ao, c, rfl⟩, o1⟩ := h1.out
  have O1 : Hid (Only (fun _ => False) w w1) := o1
  clear h1 o1 HM
  go_wp2_with fail
  go_ret3
  exact ⟨rfl, O1.out⟩
set_option maxRecDepth 100000 in
set_option maxHeartbeats 2000000 in
theorem rm_23 : RmC ⟨#[45]⟩ := by
  intro w
  rw [show pmR ⟨#[45]⟩ = (2, 1, true) from by kernel_rfl]
  have HM : Hid (∀ w1, Calls Tryz.prog 41 #[.string ⟨#[45]⟩] w1 fun e w' => ∃ v, e = .returned (.tuple #[.int .i64 0, v, .bool false]) ∧ Hid ((∃ ao c, v = .slice ao 0 c) ∧ Only (fun _ => False) w1 w')) := by
    intro w1
    go_enter Tryz.func41, Tryz.ntmps41
    go_wp2_with fail
    go_ret3
    exact ⟨_, rfl, ⟨_, _, rfl⟩, Only.refl _ w1⟩
  go_enter Tryz.func21, Tryz.ntmps21
  go_wp2_with fail
  refine (show Calls Tryz.prog 41 _ _ _ from HM.out _).mono ?_
  rintro e w1 ⟨v, rfl, h1⟩
  obtain ⟨⟨ao, c, rfl⟩, o1⟩ := h1.out
  have O1 : Hid (Only (fun _ => False) w w1) := o1
  clear h1 o1 HM
  go_wp2_with fail
  go_ret3
  exact ⟨rfl, O1.out⟩
set_option maxRecDepth 100000 in
set_option maxHeartbeats 2000000 in
theorem rm_29 : RmC ⟨#[60]⟩ := by
  intro w
  rw [show pmR ⟨#[60]⟩ = (2, 1, true) from by kernel_rfl]
  have HM : Hid (∀ w1, Calls Tryz.prog 41 #[.string ⟨#[60]⟩] w1 fun e w' => ∃ v, e = .returned (.tuple #[.int .i64 0, v, .bool false]) ∧ Hid ((∃ ao c, v = .slice ao 0 c) ∧ Only (fun _ => False) w1 w')) := by
    intro w1
    go_enter Tryz.func41, Tryz.ntmps41
    go_wp2_with fail
    go_ret3
    exact ⟨_, rfl, ⟨_, _, rfl⟩, Only.refl _ w1⟩
  go_enter Tryz.func21, Tryz.ntmps21
  go_wp2_with fail
  refine (show Calls Tryz.prog 41 _ _ _ from HM.out _).mono ?_
  rintro e w1 ⟨v, rfl, h1⟩
  obtain ⟨⟨ao, c, rfl⟩, o1⟩ := h1.out
  have O1 : Hid (Only (fun _ => False) w w1) := o1
  clear h1 o1 HM
  go_wp2_with fail
  go_ret3
  exact ⟨rfl, O1.out⟩
set_option maxRecDepth 100000 in
set_option maxHeartbeats 2000000 in
theorem rm_35 : RmC ⟨#[110, 116, 104]⟩ := by
  intro w
  rw [show pmR ⟨#[110, 116, 104]⟩ = (2, 1, true) from by kernel_rfl]
  have HM : Hid (∀ w1, Calls Tryz.prog 41 #[.string ⟨#[110, 116, 104]⟩] w1 fun e w' => ∃ v, e = .returned (.tuple #[.int .i64 0, v, .bool false]) ∧ Hid ((∃ ao c, v = .slice ao 0 c) ∧ Only (fun _ => False) w1 w')) := by
    intro w1
    go_enter Tryz.func41, Tryz.ntmps41
    go_wp2_with fail
    go_ret3
    exact ⟨_, rfl, ⟨_, _, rfl⟩, Only.refl _ w1⟩
  go_enter Tryz.func21, Tryz.ntmps21
  go_wp2_with fail
  refine (show Calls Tryz.prog 41 _ _ _ from HM.out _).mono ?_
  rintro e w1 ⟨v, rfl, h1⟩
  obtain ⟨⟨ao, c, rfl⟩, o1⟩ := h1.out
  have O1 : Hid (Only (fun _ => False) w w1) := o1
  clear h1 o1 HM
  go_wp2_with fail
  go_ret3
  exact ⟨rfl, O1.out⟩
set_option maxRecDepth 100000 in
set_option maxHeartbeats 2000000 in
theorem rm_41 : RmC ⟨#[116, 117, 99, 107]⟩ := by
  intro w
  rw [show pmR ⟨#[116, 117, 99, 107]⟩ = (2, 3, true) from by kernel_rfl]
  have HM : Hid (∀ w1, Calls Tryz.prog 41 #[.string ⟨#[116, 117, 99, 107]⟩] w1 fun e w' => ∃ v, e = .returned (.tuple #[.int .i64 2, v, .bool true]) ∧ Hid ((∃ ao c, v = .slice ao 3 c) ∧ Only (fun _ => False) w1 w')) := by
    intro w1
    go_enter Tryz.func41, Tryz.ntmps41
    go_wp2_with fail
    go_ret3
    exact ⟨_, rfl, ⟨_, _, rfl⟩, (Only.refl _ w1).alloc _⟩
  go_enter Tryz.func21, Tryz.ntmps21
  go_wp2_with fail
  refine (show Calls Tryz.prog 41 _ _ _ from HM.out _).mono ?_
  rintro e w1 ⟨v, rfl, h1⟩
  obtain ⟨⟨ao, c, rfl⟩, o1⟩ := h1.out
  have O1 : Hid (Only (fun _ => False) w w1) := o1
  clear h1 o1 HM
  go_wp2_with fail
  go_ret3
  exact ⟨rfl, O1.out⟩
end Go.Proofs.YtgnmedjknbbfhaaGreatDoor
namespace Go.Proofs.YtgnmedjknbbfhaaGreatDoor
open Go.RowKit
set_option linter.unusedSimpArgs false
set_option linter.unusedVariables false
theorem pm_cases (s : ByteArray) : (∃ k : Fin 44, s = ⟨(pmL[k.1]'(k.2)).1.toArray⟩) ∨ ∀ (k : Nat) (h : k < 44), s.toList ≠ (pmL[k]'h).1 := by
  by_cases h : ∃ k : Fin 44, s.toList = (pmL[k.1]'(k.2)).1
  · obtain ⟨k, hk⟩ := h
    exact .inl ⟨k, to_lit hk⟩
  · exact .inr fun k hk e => h ⟨⟨k, hk⟩, e⟩
theorem pm_none {s : ByteArray} (hn : ∀ (k : Nat) (h : k < 44), s.toList ≠ (pmL[k]'h).1) : pmR s = (0, 0, false) :=
  pmF_no _ _ fun x hx => by
    obtain ⟨k, hk, rfl⟩ := List.getElem_of_mem hx
    exact hn k hk
set_option maxRecDepth 100000 in
set_option maxHeartbeats 4000000 in
theorem pm_no {s : ByteArray} (hn : ∀ (k : Nat) (h : k < 44), s.toList ≠ (pmL[k]'h).1) : PmC s := by
  intro w
  rw [pm_none hn]
  have n0 : (s.toList == [100, 114, 111, 112]) = false := beq_false_of_ne (show s.toList ≠ [100, 114, 111, 112] from hn 0 (by decide))
  have n1 : (s.toList == [46]) = false := beq_false_of_ne (show s.toList ≠ [46] from hn 1 (by decide))
  have n2 : (s.toList == [110, 101, 103]) = false := beq_false_of_ne (show s.toList ≠ [110, 101, 103] from hn 2 (by decide))
  have n3 : (s.toList == [97, 98, 115]) = false := beq_false_of_ne (show s.toList ≠ [97, 98, 115] from hn 3 (by decide))
  have n4 : (s.toList == [110, 111, 116]) = false := beq_false_of_ne (show s.toList ≠ [110, 111, 116] from hn 4 (by decide))
  have n5 : (s.toList == [105, 110, 116, 63]) = false := beq_false_of_ne (show s.toList ≠ [105, 110, 116, 63] from hn 5 (by decide))
  have n6 : (s.toList == [115, 116, 114, 63]) = false := beq_false_of_ne (show s.toList ≠ [115, 116, 114, 63] from hn 6 (by decide))
  have n7 : (s.toList == [98, 111, 111, 108, 63]) = false := beq_false_of_ne (show s.toList ≠ [98, 111, 111, 108, 63] from hn 7 (by decide))
  have n8 : (s.toList == [108, 105, 115, 116, 63]) = false := beq_false_of_ne (show s.toList ≠ [108, 105, 115, 116, 63] from hn 8 (by decide))
  have n9 : (s.toList == [113, 117, 111, 116, 63]) = false := beq_false_of_ne (show s.toList ≠ [113, 117, 111, 116, 63] from hn 9 (by decide))
  have n10 : (s.toList == [98, 111, 120, 63]) = false := beq_false_of_ne (show s.toList ≠ [98, 111, 120, 63] from hn 10 (by decide))
  have n11 : (s.toList == [108, 101, 110, 103, 116, 104]) = false := beq_false_of_ne (show s.toList ≠ [108, 101, 110, 103, 116, 104] from hn 11 (by decide))
  have n12 : (s.toList == [119, 114, 97, 112]) = false := beq_false_of_ne (show s.toList ≠ [119, 114, 97, 112] from hn 12 (by decide))
  have n13 : (s.toList == [114, 101, 118, 101, 114, 115, 101]) = false := beq_false_of_ne (show s.toList ≠ [114, 101, 118, 101, 114, 115, 101] from hn 13 (by decide))
  have n14 : (s.toList == [62, 115, 116, 114]) = false := beq_false_of_ne (show s.toList ≠ [62, 115, 116, 114] from hn 14 (by decide))
  have n15 : (s.toList == [62, 105, 110, 116]) = false := beq_false_of_ne (show s.toList ≠ [62, 105, 110, 116] from hn 15 (by decide))
  have n16 : (s.toList == [98, 111, 120]) = false := beq_false_of_ne (show s.toList ≠ [98, 111, 120] from hn 16 (by decide))
  have n17 : (s.toList == [103, 101, 116]) = false := beq_false_of_ne (show s.toList ≠ [103, 101, 116] from hn 17 (by decide))
  have n18 : (s.toList == [100, 117, 112]) = false := beq_false_of_ne (show s.toList ≠ [100, 117, 112] from hn 18 (by decide))
  have n19 : (s.toList == [117, 110, 112, 97, 105, 114]) = false := beq_false_of_ne (show s.toList ≠ [117, 110, 112, 97, 105, 114] from hn 19 (by decide))
  have n20 : (s.toList == [112, 117, 116]) = false := beq_false_of_ne (show s.toList ≠ [112, 117, 116] from hn 20 (by decide))
  have n21 : (s.toList == [110, 105, 112]) = false := beq_false_of_ne (show s.toList ≠ [110, 105, 112] from hn 21 (by decide))
  have n22 : (s.toList == [43]) = false := beq_false_of_ne (show s.toList ≠ [43] from hn 22 (by decide))
  have n23 : (s.toList == [45]) = false := beq_false_of_ne (show s.toList ≠ [45] from hn 23 (by decide))
  have n24 : (s.toList == [42]) = false := beq_false_of_ne (show s.toList ≠ [42] from hn 24 (by decide))
  have n25 : (s.toList == [47]) = false := beq_false_of_ne (show s.toList ≠ [47] from hn 25 (by decide))
  have n26 : (s.toList == [109, 111, 100]) = false := beq_false_of_ne (show s.toList ≠ [109, 111, 100] from hn 26 (by decide))
  have n27 : (s.toList == [109, 105, 110]) = false := beq_false_of_ne (show s.toList ≠ [109, 105, 110] from hn 27 (by decide))
  have n28 : (s.toList == [109, 97, 120]) = false := beq_false_of_ne (show s.toList ≠ [109, 97, 120] from hn 28 (by decide))
  have n29 : (s.toList == [60]) = false := beq_false_of_ne (show s.toList ≠ [60] from hn 29 (by decide))
  have n30 : (s.toList == [62]) = false := beq_false_of_ne (show s.toList ≠ [62] from hn 30 (by decide))
  have n31 : (s.toList == [61]) = false := beq_false_of_ne (show s.toList ≠ [61] from hn 31 (by decide))
  have n32 : (s.toList == [97, 110, 100]) = false := beq_false_of_ne (show s.toList ≠ [97, 110, 100] from hn 32 (by decide))
  have n33 : (s.toList == [111, 114]) = false := beq_false_of_ne (show s.toList ≠ [111, 114] from hn 33 (by decide))
  have n34 : (s.toList == [97, 112, 112, 101, 110, 100]) = false := beq_false_of_ne (show s.toList ≠ [97, 112, 112, 101, 110, 100] from hn 34 (by decide))
  have n35 : (s.toList == [110, 116, 104]) = false := beq_false_of_ne (show s.toList ≠ [110, 116, 104] from hn 35 (by decide))
  have n36 : (s.toList == [112, 97, 105, 114]) = false := beq_false_of_ne (show s.toList ≠ [112, 97, 105, 114] from hn 36 (by decide))
  have n37 : (s.toList == [99, 117, 114, 114, 121]) = false := beq_false_of_ne (show s.toList ≠ [99, 117, 114, 114, 121] from hn 37 (by decide))
  have n38 : (s.toList == [99, 111, 109, 112, 111, 115, 101]) = false := beq_false_of_ne (show s.toList ≠ [99, 111, 109, 112, 111, 115, 101] from hn 38 (by decide))
  have n39 : (s.toList == [115, 119, 97, 112]) = false := beq_false_of_ne (show s.toList ≠ [115, 119, 97, 112] from hn 39 (by decide))
  have n40 : (s.toList == [111, 118, 101, 114]) = false := beq_false_of_ne (show s.toList ≠ [111, 118, 101, 114] from hn 40 (by decide))
  have n41 : (s.toList == [116, 117, 99, 107]) = false := beq_false_of_ne (show s.toList ≠ [116, 117, 99, 107] from hn 41 (by decide))
  have n42 : (s.toList == [115, 108, 105, 99, 101]) = false := beq_false_of_ne (show s.toList ≠ [115, 108, 105, 99, 101] from hn 42 (by decide))
  have n43 : (s.toList == [114, 111, 116]) = false := beq_false_of_ne (show s.toList ≠ [114, 111, 116] from hn 43 (by decide))
  clear hn
  go_enter Tryz.func40, Tryz.ntmps40
  go_wp2_with fail
  have hq : TwC (w.alloc (.cells #[.int .i64 0, .int .i64 0] 39)) w.heap.size 0 0 := ealloc_at _ _ _ rfl
  obtain ⟨q0, q1, _, _⟩ := hq.cells
  refine bodyPost_ret (results_eff rfl _ _ w.heap.size q0 q1 rfl) rfl ?_
  exact ⟨rfl, (Only.refl _ w).alloc _⟩
set_option maxRecDepth 100000 in
set_option maxHeartbeats 4000000 in
theorem rm_no {s : ByteArray} (hn : ∀ (k : Nat) (h : k < 44), s.toList ≠ (pmL[k]'h).1) : RmC s := by
  intro w
  rw [pm_none hn]
  have n0 : (s.toList == [100, 114, 111, 112]) = false := beq_false_of_ne (show s.toList ≠ [100, 114, 111, 112] from hn 0 (by decide))
  have n1 : (s.toList == [46]) = false := beq_false_of_ne (show s.toList ≠ [46] from hn 1 (by decide))
  have n2 : (s.toList == [110, 101, 103]) = false := beq_false_of_ne (show s.toList ≠ [110, 101, 103] from hn 2 (by decide))
  have n3 : (s.toList == [97, 98, 115]) = false := beq_false_of_ne (show s.toList ≠ [97, 98, 115] from hn 3 (by decide))
  have n4 : (s.toList == [110, 111, 116]) = false := beq_false_of_ne (show s.toList ≠ [110, 111, 116] from hn 4 (by decide))
  have n5 : (s.toList == [105, 110, 116, 63]) = false := beq_false_of_ne (show s.toList ≠ [105, 110, 116, 63] from hn 5 (by decide))
  have n6 : (s.toList == [115, 116, 114, 63]) = false := beq_false_of_ne (show s.toList ≠ [115, 116, 114, 63] from hn 6 (by decide))
  have n7 : (s.toList == [98, 111, 111, 108, 63]) = false := beq_false_of_ne (show s.toList ≠ [98, 111, 111, 108, 63] from hn 7 (by decide))
  have n8 : (s.toList == [108, 105, 115, 116, 63]) = false := beq_false_of_ne (show s.toList ≠ [108, 105, 115, 116, 63] from hn 8 (by decide))
  have n9 : (s.toList == [113, 117, 111, 116, 63]) = false := beq_false_of_ne (show s.toList ≠ [113, 117, 111, 116, 63] from hn 9 (by decide))
  have n10 : (s.toList == [98, 111, 120, 63]) = false := beq_false_of_ne (show s.toList ≠ [98, 111, 120, 63] from hn 10 (by decide))
  have n11 : (s.toList == [108, 101, 110, 103, 116, 104]) = false := beq_false_of_ne (show s.toList ≠ [108, 101, 110, 103, 116, 104] from hn 11 (by decide))
  have n12 : (s.toList == [119, 114, 97, 112]) = false := beq_false_of_ne (show s.toList ≠ [119, 114, 97, 112] from hn 12 (by decide))
  have n13 : (s.toList == [114, 101, 118, 101, 114, 115, 101]) = false := beq_false_of_ne (show s.toList ≠ [114, 101, 118, 101, 114, 115, 101] from hn 13 (by decide))
  have n14 : (s.toList == [62, 115, 116, 114]) = false := beq_false_of_ne (show s.toList ≠ [62, 115, 116, 114] from hn 14 (by decide))
  have n15 : (s.toList == [62, 105, 110, 116]) = false := beq_false_of_ne (show s.toList ≠ [62, 105, 110, 116] from hn 15 (by decide))
  have n16 : (s.toList == [98, 111, 120]) = false := beq_false_of_ne (show s.toList ≠ [98, 111, 120] from hn 16 (by decide))
  have n17 : (s.toList == [103, 101, 116]) = false := beq_false_of_ne (show s.toList ≠ [103, 101, 116] from hn 17 (by decide))
  have n18 : (s.toList == [100, 117, 112]) = false := beq_false_of_ne (show s.toList ≠ [100, 117, 112] from hn 18 (by decide))
  have n19 : (s.toList == [117, 110, 112, 97, 105, 114]) = false := beq_false_of_ne (show s.toList ≠ [117, 110, 112, 97, 105, 114] from hn 19 (by decide))
  have n20 : (s.toList == [112, 117, 116]) = false := beq_false_of_ne (show s.toList ≠ [112, 117, 116] from hn 20 (by decide))
  have n21 : (s.toList == [110, 105, 112]) = false := beq_false_of_ne (show s.toList ≠ [110, 105, 112] from hn 21 (by decide))
  have n22 : (s.toList == [43]) = false := beq_false_of_ne (show s.toList ≠ [43] from hn 22 (by decide))
  have n23 : (s.toList == [45]) = false := beq_false_of_ne (show s.toList ≠ [45] from hn 23 (by decide))
  have n24 : (s.toList == [42]) = false := beq_false_of_ne (show s.toList ≠ [42] from hn 24 (by decide))
  have n25 : (s.toList == [47]) = false := beq_false_of_ne (show s.toList ≠ [47] from hn 25 (by decide))
  have n26 : (s.toList == [109, 111, 100]) = false := beq_false_of_ne (show s.toList ≠ [109, 111, 100] from hn 26 (by decide))
  have n27 : (s.toList == [109, 105, 110]) = false := beq_false_of_ne (show s.toList ≠ [109, 105, 110] from hn 27 (by decide))
  have n28 : (s.toList == [109, 97, 120]) = false := beq_false_of_ne (show s.toList ≠ [109, 97, 120] from hn 28 (by decide))
  have n29 : (s.toList == [60]) = false := beq_false_of_ne (show s.toList ≠ [60] from hn 29 (by decide))
  have n30 : (s.toList == [62]) = false := beq_false_of_ne (show s.toList ≠ [62] from hn 30 (by decide))
  have n31 : (s.toList == [61]) = false := beq_false_of_ne (show s.toList ≠ [61] from hn 31 (by decide))
  have n32 : (s.toList == [97, 110, 100]) = false := beq_false_of_ne (show s.toList ≠ [97, 110, 100] from hn 32 (by decide))
  have n33 : (s.toList == [111, 114]) = false := beq_false_of_ne (show s.toList ≠ [111, 114] from hn 33 (by decide))
  have n34 : (s.toList == [97, 112, 112, 101, 110, 100]) = false := beq_false_of_ne (show s.toList ≠ [97, 112, 112, 101, 110, 100] from hn 34 (by decide))
  have n35 : (s.toList == [110, 116, 104]) = false := beq_false_of_ne (show s.toList ≠ [110, 116, 104] from hn 35 (by decide))
  have n36 : (s.toList == [112, 97, 105, 114]) = false := beq_false_of_ne (show s.toList ≠ [112, 97, 105, 114] from hn 36 (by decide))
  have n37 : (s.toList == [99, 117, 114, 114, 121]) = false := beq_false_of_ne (show s.toList ≠ [99, 117, 114, 114, 121] from hn 37 (by decide))
  have n38 : (s.toList == [99, 111, 109, 112, 111, 115, 101]) = false := beq_false_of_ne (show s.toList ≠ [99, 111, 109, 112, 111, 115, 101] from hn 38 (by decide))
  have n39 : (s.toList == [115, 119, 97, 112]) = false := beq_false_of_ne (show s.toList ≠ [115, 119, 97, 112] from hn 39 (by decide))
  have n40 : (s.toList == [111, 118, 101, 114]) = false := beq_false_of_ne (show s.toList ≠ [111, 118, 101, 114] from hn 40 (by decide))
  have n41 : (s.toList == [116, 117, 99, 107]) = false := beq_false_of_ne (show s.toList ≠ [116, 117, 99, 107] from hn 41 (by decide))
  have n42 : (s.toList == [115, 108, 105, 99, 101]) = false := beq_false_of_ne (show s.toList ≠ [115, 108, 105, 99, 101] from hn 42 (by decide))
  have n43 : (s.toList == [114, 111, 116]) = false := beq_false_of_ne (show s.toList ≠ [114, 111, 116] from hn 43 (by decide))
  clear hn
  have HM : Hid (∀ w1, Calls Tryz.prog 41 #[.string s] w1 fun e w' => e = .returned (.tuple #[.int .i64 0, .slice none 0 0, .bool false]) ∧ w' = w1) := by
    intro w1
    go_enter Tryz.func41, Tryz.ntmps41
    go_wp2_with fail
    go_ret3
    exact ⟨rfl, rfl⟩
  go_enter Tryz.func21, Tryz.ntmps21
  go_wp2_with fail
  refine (show Calls Tryz.prog 41 _ _ _ from HM.out _).mono ?_
  rintro e w1 ⟨rfl, rfl⟩
  clear HM
  go_wp2_with fail
  go_ret3
  exact ⟨rfl, Only.refl _ _⟩
theorem prim_any (s : ByteArray) : PmC s := by
  rcases pm_cases s with ⟨k, rfl⟩ | h
  · match k with
    | ⟨0, _⟩ => exact pm_0
    | ⟨1, _⟩ => exact pm_1
    | ⟨2, _⟩ => exact pm_2
    | ⟨3, _⟩ => exact pm_3
    | ⟨4, _⟩ => exact pm_4
    | ⟨5, _⟩ => exact pm_5
    | ⟨6, _⟩ => exact pm_6
    | ⟨7, _⟩ => exact pm_7
    | ⟨8, _⟩ => exact pm_8
    | ⟨9, _⟩ => exact pm_9
    | ⟨10, _⟩ => exact pm_10
    | ⟨11, _⟩ => exact pm_11
    | ⟨12, _⟩ => exact pm_12
    | ⟨13, _⟩ => exact pm_13
    | ⟨14, _⟩ => exact pm_14
    | ⟨15, _⟩ => exact pm_15
    | ⟨16, _⟩ => exact pm_16
    | ⟨17, _⟩ => exact pm_17
    | ⟨18, _⟩ => exact pm_18
    | ⟨19, _⟩ => exact pm_19
    | ⟨20, _⟩ => exact pm_20
    | ⟨21, _⟩ => exact pm_21
    | ⟨22, _⟩ => exact pm_22
    | ⟨23, _⟩ => exact pm_23
    | ⟨24, _⟩ => exact pm_24
    | ⟨25, _⟩ => exact pm_25
    | ⟨26, _⟩ => exact pm_26
    | ⟨27, _⟩ => exact pm_27
    | ⟨28, _⟩ => exact pm_28
    | ⟨29, _⟩ => exact pm_29
    | ⟨30, _⟩ => exact pm_30
    | ⟨31, _⟩ => exact pm_31
    | ⟨32, _⟩ => exact pm_32
    | ⟨33, _⟩ => exact pm_33
    | ⟨34, _⟩ => exact pm_34
    | ⟨35, _⟩ => exact pm_35
    | ⟨36, _⟩ => exact pm_36
    | ⟨37, _⟩ => exact pm_37
    | ⟨38, _⟩ => exact pm_38
    | ⟨39, _⟩ => exact pm_39
    | ⟨40, _⟩ => exact pm_40
    | ⟨41, _⟩ => exact pm_41
    | ⟨42, _⟩ => exact pm_42
    | ⟨43, _⟩ => exact pm_43
    | ⟨k + 44, h⟩ => exact absurd h (by omega)
  · exact pm_no h
theorem rprim_any (s : ByteArray) : RmC s := by
  rcases pm_cases s with ⟨k, rfl⟩ | h
  · match k with
    | ⟨0, _⟩ => exact rm_0
    | ⟨1, _⟩ => exact rm_1
    | ⟨2, _⟩ => exact rm_2
    | ⟨3, _⟩ => exact rm_3
    | ⟨4, _⟩ => exact rm_4
    | ⟨5, _⟩ => exact rm_5
    | ⟨6, _⟩ => exact rm_6
    | ⟨7, _⟩ => exact rm_7
    | ⟨8, _⟩ => exact rm_8
    | ⟨9, _⟩ => exact rm_9
    | ⟨10, _⟩ => exact rm_10
    | ⟨11, _⟩ => exact rm_11
    | ⟨12, _⟩ => exact rm_12
    | ⟨13, _⟩ => exact rm_13
    | ⟨14, _⟩ => exact rm_14
    | ⟨15, _⟩ => exact rm_15
    | ⟨16, _⟩ => exact rm_16
    | ⟨17, _⟩ => exact rm_17
    | ⟨18, _⟩ => exact rm_18
    | ⟨19, _⟩ => exact rm_19
    | ⟨20, _⟩ => exact rm_20
    | ⟨21, _⟩ => exact rm_21
    | ⟨22, _⟩ => exact rm_22
    | ⟨23, _⟩ => exact rm_23
    | ⟨24, _⟩ => exact rm_24
    | ⟨25, _⟩ => exact rm_25
    | ⟨26, _⟩ => exact rm_26
    | ⟨27, _⟩ => exact rm_27
    | ⟨28, _⟩ => exact rm_28
    | ⟨29, _⟩ => exact rm_29
    | ⟨30, _⟩ => exact rm_30
    | ⟨31, _⟩ => exact rm_31
    | ⟨32, _⟩ => exact rm_32
    | ⟨33, _⟩ => exact rm_33
    | ⟨34, _⟩ => exact rm_34
    | ⟨35, _⟩ => exact rm_35
    | ⟨36, _⟩ => exact rm_36
    | ⟨37, _⟩ => exact rm_37
    | ⟨38, _⟩ => exact rm_38
    | ⟨39, _⟩ => exact rm_39
    | ⟨40, _⟩ => exact rm_40
    | ⟨41, _⟩ => exact rm_41
    | ⟨42, _⟩ => exact rm_42
    | ⟨43, _⟩ => exact rm_43
    | ⟨k + 44, h⟩ => exact absurd h (by omega)
  · exact rm_no h
end Go.Proofs.YtgnmedjknbbfhaaGreatDoor
namespace Go.Proofs.YtgnmedjknbbfhaaGreatDoor
open Go.RowKit
set_option linter.unusedSimpArgs false
set_option linter.unusedVariables false
/-- a value or an item as a tree: its kind, its number, its text, its parts -/
structure Vt where
  k : Int
  n : Int
  s : ByteArray
  l : List Vt
/-- the value v is the tree t (i: as an item), within the blocks S; d: how deep it is at most -/
def TiAt (w : World) (S : Nat → Prop) : Nat → Bool → Vt → Value → Prop
  | 0, _, _, _ => False
  | d + 1, true, t, v => (t.k = 7 ∧ t.l = [] ∧ v = .iface 147 (.agg #[.string t.s])) ∨ (t.k = 8 ∧ t.l = [] ∧ v = .nilIface) ∨ (t.k ≠ 7 ∧ t.k ≠ 8 ∧ ∃ u, v = .iface 125 (.agg #[u]) ∧ TiAt w S d false t u)
  | d + 1, false, t, v => (t.k = 1 ∧ t.l = [] ∧ v = .iface 55 (.agg #[.int .i64 t.n])) ∨ (t.k = 2 ∧ t.l = [] ∧ v = .iface 79 (.agg #[.string t.s])) ∨ (t.k = 3 ∧ t.l = [] ∧ v = .iface 59 (.agg #[.bool (t.n != 0)])) ∨ (t.k = 6 ∧ t.l = [] ∧ v = .iface 87 (.agg #[.int .i64 t.n])) ∨ (t.k = 8 ∧ t.l = [] ∧ v = .nilIface) ∨
    ((t.k = 4 ∨ t.k = 5) ∧ ∃ ao cap, v = .iface (if t.k = 4 then 81 else 85) (.agg #[.slice ao t.l.length cap]) ∧ t.l.length ≤ cap ∧ ∀ i x, t.l[i]? = some x → ∃ g k u, ao = some ⟨g, k, none⟩ ∧ S g ∧ w.cell? ⟨g, k + i, none⟩ = some u ∧ TiAt w S d (decide (t.k = 5)) x u)
theorem TiAt.step {w w' : World} {S S' : Nat → Prop} (hS : ∀ b, S b → S' b) (hk : ∀ (a : Addr) u, S a.block → w.cell? a = some u → w'.cell? a = some u) : ∀ {d d' : Nat} {i : Bool} {t : Vt} {v : Value}, d ≤ d' → TiAt w S d i t v → TiAt w' S' d' i t v := by
  intro d
  induction d with
  | zero => intro d' i t v _ h; exact h.elim
  | succ d ih =>
    intro d' i t v hd h
    obtain ⟨e, rfl⟩ : ∃ e, d' = e + 1 := ⟨d' - 1, by omega⟩
    cases i with
    | true =>
      rcases h with h | h | ⟨h, h', u, hv, hu⟩
      · exact .inl h
      · exact .inr (.inl h)
      · exact .inr (.inr ⟨h, h', u, hv, ih (by omega) hu⟩)
    | false =>
      rcases h with h | h | h | h | h | ⟨h, ao, cap, hv, hc, hl⟩
      · exact .inl h
      · exact .inr (.inl h)
      · exact .inr (.inr (.inl h))
      · exact .inr (.inr (.inr (.inl h)))
      · exact .inr (.inr (.inr (.inr (.inl h))))
      · refine .inr (.inr (.inr (.inr (.inr ⟨h, ao, cap, hv, hc, fun i x hx => ?_⟩))))
        obtain ⟨g, k, u, ha, hg, hu, ht⟩ := hl i x hx
        exact ⟨g, k, u, ha, hS g hg, hk _ _ hg hu, ih (by omega) ht⟩
theorem TiAt.only {w w' : World} {S bs : Nat → Prop} {d : Nat} {i : Bool} {t : Vt} {v : Value} (h : TiAt w S d i t v) (o : Only bs w w') (hb : ∀ b, S b → ¬ bs b) : TiAt w' S d i t v :=
  TiAt.step (fun _ g => g) (fun a u hs hc => o.cell hc (hb _ hs)) (Nat.le_refl _) h
/-- a row of trees that was made since block B, in a block of its own beside those of its trees -/
def RiAt (w : World) (B : Nat) (T : TypeId) (d : Nat) (i : Bool) (v : Value) (l : List Vt) : Prop :=
  ∃ us S, w.ownsRow B T 1 v l.length us ∧ (∀ (j : Nat) (x : Vt), l[j]? = some x → ∃ u, us[j]? = some u ∧ TiAt w S d i x u) ∧ ∀ b, S b → B ≤ b ∧ b < w.heap.size ∧ v.ownBlock ≠ some b
theorem ri_nil (w : World) (B : Nat) (T : TypeId) (d : Nat) (i : Bool) : RiAt w B T d i (.slice none 0 0) [] :=
  ⟨[], fun _ => False, ⟨rfl, .inl ⟨rfl, rfl⟩⟩, fun j x h => by simp at h, fun b h => h.elim⟩
theorem RiAt.form {w : World} {B : Nat} {T : TypeId} {d : Nat} {i : Bool} {v : Value} {l : List Vt} (h : RiAt w B T d i v l) : ∃ ao cap, v = .slice ao l.length cap := by
  obtain ⟨us, S, ho, _⟩ := h
  rcases ho.2 with ⟨h1, h2⟩ | ⟨g, cap, cur, h1, _⟩
  · exact ⟨_, _, by rw [h1, h2]⟩
  · exact ⟨_, _, h1⟩
theorem RiAt.only {w w' : World} {B : Nat} {T : TypeId} {d : Nat} {i : Bool} {v : Value} {l : List Vt} {bs : Nat → Prop} (h : RiAt w B T d i v l) (o : Only bs w w') (hb : ∀ b, B ≤ b → ¬ bs b) : RiAt w' B T d i v l := by
  obtain ⟨us, S, ho, ht, hS⟩ := h
  refine ⟨us, S, o.owns ho (fun k hk => hb k (ho.lt k hk).1), fun j x hx => ?_, fun b hbS => ?_⟩
  · obtain ⟨u, hu, h2⟩ := ht j x hx
    exact ⟨u, hu, h2.only o (fun b hbS => hb b (hS b hbS).1)⟩
  · obtain ⟨h1, h2, h3⟩ := hS b hbS
    exact ⟨h1, Nat.lt_of_lt_of_le h2 o.size, h3⟩
theorem RiAt.deep {w : World} {B : Nat} {T : TypeId} {d d' : Nat} {i : Bool} {v : Value} {l : List Vt} (h : RiAt w B T d i v l) (hd : d ≤ d') : RiAt w B T d' i v l := by
  obtain ⟨us, S, ho, ht, hS⟩ := h
  refine ⟨us, S, ho, fun j x hx => ?_, hS⟩
  obtain ⟨u, hu, h2⟩ := ht j x hx
  exact ⟨u, hu, h2.step (fun _ g => g) (fun _ _ _ g => g) hd⟩
/-- what a value is that was made since block B -/
def NiAt (w : World) (B : Nat) (d : Nat) (i : Bool) (t : Vt) (v : Value) : Prop := ∃ S, TiAt w S d i t v ∧ ∀ b, S b → B ≤ b ∧ b < w.heap.size
theorem NiAt.only {w w' : World} {B : Nat} {d : Nat} {i : Bool} {v : Value} {t : Vt} {bs : Nat → Prop} (h : NiAt w B d i t v) (o : Only bs w w') (hb : ∀ b, B ≤ b → ¬ bs b) : NiAt w' B d i t v := by
  obtain ⟨S, ht, hS⟩ := h
  exact ⟨S, ht.only o (fun b hbS => hb b (hS b hbS).1), fun b hbS => ⟨(hS b hbS).1, Nat.lt_of_lt_of_le (hS b hbS).2 o.size⟩⟩
theorem NiAt.lower {w : World} {B C : Nat} {d : Nat} {i : Bool} {v : Value} {t : Vt} (h : NiAt w B d i t v) (hC : C ≤ B) : NiAt w C d i t v := by
  obtain ⟨S, ht, hS⟩ := h
  exact ⟨S, ht, fun b hbS => ⟨Nat.le_trans hC (hS b hbS).1, (hS b hbS).2⟩⟩
theorem NiAt.deep {w : World} {B : Nat} {d d' : Nat} {i : Bool} {v : Value} {t : Vt} (h : NiAt w B d i t v) (hd : d ≤ d') : NiAt w B d' i t v := by
  obtain ⟨S, ht, hS⟩ := h
  exact ⟨S, ht.step (fun _ g => g) (fun _ _ _ g => g) hd, hS⟩
/-- a tree is put behind a row: what the append leaves -/
theorem RiAt.snoc {w w' : World} {B C : Nat} {T : TypeId} {d : Nat} {i : Bool} {v v' : Value} {l : List Vt} {t : Vt} {u : Value} {us : List Value} {S : Nat → Prop} (hg : w.grownBy w' v.ownBlock) (ho : w.ownsRow B T 1 v l.length us) (ht : ∀ (j : Nat) (x : Vt), l[j]? = some x → ∃ u, us[j]? = some u ∧ TiAt w S d i x u) (hS : ∀ b, S b → B ≤ b ∧ b < w.heap.size ∧ v.ownBlock ≠ some b)
    (hn : NiAt w C d i t u) (hC : B ≤ C) (hv : ∀ k, v.ownBlock = some k → k < C) (ho' : w'.ownsRow B T 1 v' (l.length + 1) (us ++ [u])) (hat : v'.ownBlock = v.ownBlock ∨ v'.ownBlock = some w.heap.size) : RiAt w' B T d i v' (l ++ [t]) := by
  obtain ⟨S1, t1, s1⟩ := hn
  have oo : Only (fun k => v.ownBlock = some k) w w' := (Only.refl _ w).grown hg (fun k e _ => e)
  have a1 : ∀ b, S b → ¬ v.ownBlock = some b := fun b h => (hS b h).2.2
  have a2 : ∀ b, S1 b → ¬ v.ownBlock = some b := fun b h e => by have := hv b e; have := (s1 b h).1; omega
  have hl : us.length = l.length := by have := ho.1; omega
  refine ⟨us ++ [u], fun b => S b ∨ S1 b, by simpa using ho', fun j x hx => ?_, fun b hb => ?_⟩
  · by_cases hj : j < l.length
    · rw [List.getElem?_append_left hj] at hx
      obtain ⟨u', h1, h2⟩ := ht j x hx
      refine ⟨u', by rw [List.getElem?_append_left (by omega)]; exact h1, h2.step (fun _ g => .inl g) (fun a y hs hc => oo.cell hc (a1 _ hs)) (Nat.le_refl _)⟩
    · have hj2 : j < (l ++ [t]).length := (List.getElem?_eq_some_iff.1 hx).1
      have hj3 : j = l.length := by simp at hj2; omega
      subst hj3
      simp at hx
      subst hx
      exact ⟨u, by rw [← hl]; simp, t1.step (fun _ g => .inr g) (fun a y hs hc => oo.cell hc (a2 _ hs)) (Nat.le_refl _)⟩
  · have h1 : B ≤ b ∧ b < w.heap.size ∧ v.ownBlock ≠ some b := by
      rcases hb with h | h
      · exact hS b h
      · exact ⟨Nat.le_trans hC (s1 b h).1, (s1 b h).2, a2 b h⟩
    refine ⟨h1.1, Nat.lt_of_lt_of_le h1.2.1 oo.size, ?_⟩
    rcases hat with e | e <;> rw [e]
    · exact h1.2.2
    · intro e2
      injection e2 with e2
      have := h1.2.1
      omega
theorem addr_ad (g k : Nat) : (⟨g, 0, none⟩ : Addr).add k = ⟨g, k, none⟩ := by
  show (if k = 0 then _ else _) = _
  split
  · rename_i h; rw [h]
  · simp
/-- a row as a list or a quotation -/
theorem RiAt.tree {w : World} {B : Nat} {T : TypeId} {d : Nat} {v : Value} {l : List Vt} {t : Vt} (hk : t.k = 4 ∨ t.k = 5) (hl0 : t.l = l) (h : RiAt w B T d (decide (t.k = 5)) v l) : NiAt w B (d + 1) false t (.iface (if t.k = 4 then 81 else 85) (.agg #[v])) := by
  obtain ⟨us, S, ho, ht, hS⟩ := h
  subst hl0
  refine ⟨fun b => S b ∨ v.ownBlock = some b, .inr (.inr (.inr (.inr (.inr ⟨hk, ?_⟩)))), fun b hb => ?_⟩
  · rcases ho.2 with ⟨rfl, h2⟩ | ⟨g, cap, cur, hv, hB, hg, hn, hcm, hcs, htk⟩
    · exact ⟨none, 0, by rw [h2], by omega, fun i x hx => by have := (List.getElem?_eq_some_iff.1 hx).1; omega⟩
    · refine ⟨some ⟨g, 0, none⟩, cap, by rw [hv], hn, fun i x hx => ?_⟩
      obtain ⟨u, h1, h2⟩ := ht i x hx
      have hc := ho.cells (g := g) (by rw [hv]; rfl) i u h1
      rw [addr_ad] at hc
      exact ⟨g, 0, u, rfl, .inr (by rw [hv]; rfl), by simpa using hc, h2.step (fun _ g => .inl g) (fun _ _ _ g => g) (Nat.le_refl _)⟩
  · rcases hb with h | h
    · exact ⟨(hS b h).1, (hS b h).2.1⟩
    · exact ho.lt b h
/-- the slice lv holds the trees l as the document has them -/
def VsAt (w : World) (S : Nat → Prop) : Nat → List Vt → Value → Prop
  | 0, _, _ => False
  | d + 1, l, lv => ∃ ao cap, lv = .slice ao l.length cap ∧ l.length ≤ cap ∧ ∀ (i : Nat) (x : Vt), l[i]? = some x → ∃ g k lx, ao = some ⟨g, k, none⟩ ∧ S g ∧ (w.cell? ⟨g, k + i * 4, none⟩ = some (.int .i64 x.k) ∧ w.cell? ⟨g, k + i * 4 + 1, none⟩ = some (.int .i64 x.n) ∧ w.cell? ⟨g, k + i * 4 + 2, none⟩ = some (.string x.s) ∧ w.cell? ⟨g, k + i * 4 + 3, none⟩ = some lx) ∧ VsAt w S d x.l lx
theorem VsAt.step {w w' : World} {S S' : Nat → Prop} (hS : ∀ b, S b → S' b) (hk : ∀ (a : Addr) u, S a.block → w.cell? a = some u → w'.cell? a = some u) : ∀ {d d' : Nat} {l : List Vt} {v : Value}, d ≤ d' → VsAt w S d l v → VsAt w' S' d' l v := by
  intro d
  induction d with
  | zero => intro d' t v _ h; exact h.elim
  | succ d ih =>
    intro d' t v hd h
    obtain ⟨e, rfl⟩ : ∃ e, d' = e + 1 := ⟨d' - 1, by omega⟩
    obtain ⟨ao, cap, hv, hc, hl⟩ := h
    refine ⟨ao, cap, hv, hc, fun i x hx => ?_⟩
    obtain ⟨g, k, lx, ha, hg, ⟨c0, c1, c2, c3⟩, ht⟩ := hl i x hx
    exact ⟨g, k, lx, ha, hS g hg, ⟨hk _ _ hg c0, hk _ _ hg c1, hk _ _ hg c2, hk _ _ hg c3⟩, ih (by omega) ht⟩
theorem VsAt.only {w w' : World} {S : Nat → Prop} {d : Nat} {l : List Vt} {v : Value} (h : VsAt w S d l v) (o : Only (fun _ => False) w w') : VsAt w' S d l v :=
  h.step (fun _ g => g) (fun a u _ hc => o.cell hc (fun g => g)) (Nat.le_refl _)
theorem VsAt.form {w : World} {S : Nat → Prop} {d : Nat} {l : List Vt} {lv : Value} (h : VsAt w S d l lv) : ∃ ao cap, lv = .slice ao l.length cap := by
  cases d with
  | zero => exact h.elim
  | succ d => obtain ⟨ao, cap, hv, _⟩ := h; exact ⟨ao, cap, hv⟩
/-- what a tree holds is within the bounds of the second form: texts and lists of at most 2^20 -/
def SmT : Nat → Vt → Prop
  | 0, _ => False
  | d + 1, t => t.s.size ≤ 268435456 ∧ t.l.length ≤ 1048576 ∧ (-9223372036854775808 ≤ t.k ∧ t.k ≤ 9223372036854775807) ∧ (-9223372036854775808 ≤ t.n ∧ t.n ≤ 9223372036854775807) ∧ ∀ x ∈ t.l, SmT d x
theorem SmT.mono : ∀ {d d' : Nat} {t : Vt}, d ≤ d' → SmT d t → SmT d' t
  | 0, _, _, _, h => h.elim
  | d + 1, 0, t, hd, h => by omega
  | d + 1, e + 1, t, hd, h => ⟨h.1, h.2.1, h.2.2.1, h.2.2.2.1, fun x hx => (h.2.2.2.2 x hx).mono (by omega)⟩
end Go.Proofs.YtgnmedjknbbfhaaGreatDoor
