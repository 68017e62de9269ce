/- The document on primitives, some of them. -/
import Derived.Test.YtodbkihobgdpdaaGreatDoorEf2
namespace Go.Proofs.YtodbkihobgdpdaaGreatDoor
open Go.RowKit
set_option linter.unusedSimpArgs false
set_option linter.unusedVariables false
set_option maxRecDepth 100000 in
set_option maxHeartbeats 2000000 in
theorem rm_2 : RmC ⟨#[110, 101, 103]⟩ := by
  intro w
  rw [show pmR ⟨#[110, 101, 103]⟩ = (1, 1, true) from by kernel_rfl]
  have HM : Hid (∀ w1, Calls Tryz.prog 31 #[.string ⟨#[110, 101, 103]⟩] w1 fun e w' => ∃ v, e = .returned (.tuple #[.int .i64 0, v, .bool false]) ∧ Hid ((∃ ao c, v = .slice ao 0 c) ∧ Only (fun _ => False) w1 w')) := by
    intro w1
    go_enter Tryz.func31, Tryz.ntmps31
    go_wp2_with fail
    go_ret3
    exact ⟨_, rfl, ⟨_, _, rfl⟩, Only.refl _ w1⟩
  go_enter Tryz.func17, Tryz.ntmps17
  go_wp2_with fail
  refine (show Calls Tryz.prog 31 _ _ _ from HM.out _).mono ?_
  rintro e w1 ⟨v, rfl, h1⟩
  obtain ⟨⟨ao, c, rfl⟩, o1⟩ := h1.out
  have O1 : Hid (Only (fun _ => False) w w1) := o1
  clear h1 o1 HM
  go_wp2_with fail
  go_ret3
  exact ⟨rfl, O1.out⟩
set_option maxRecDepth 100000 in
set_option maxHeartbeats 2000000 in
theorem rm_8 : RmC ⟨#[108, 105, 115, 116, 63]⟩ := by
  intro w
  rw [show pmR ⟨#[108, 105, 115, 116, 63]⟩ = (1, 1, true) from by kernel_rfl]
  have HM : Hid (∀ w1, Calls Tryz.prog 31 #[.string ⟨#[108, 105, 115, 116, 63]⟩] w1 fun e w' => ∃ v, e = .returned (.tuple #[.int .i64 0, v, .bool false]) ∧ Hid ((∃ ao c, v = .slice ao 0 c) ∧ Only (fun _ => False) w1 w')) := by
    intro w1
    go_enter Tryz.func31, Tryz.ntmps31
    go_wp2_with fail
    go_ret3
    exact ⟨_, rfl, ⟨_, _, rfl⟩, Only.refl _ w1⟩
  go_enter Tryz.func17, Tryz.ntmps17
  go_wp2_with fail
  refine (show Calls Tryz.prog 31 _ _ _ from HM.out _).mono ?_
  rintro e w1 ⟨v, rfl, h1⟩
  obtain ⟨⟨ao, c, rfl⟩, o1⟩ := h1.out
  have O1 : Hid (Only (fun _ => False) w w1) := o1
  clear h1 o1 HM
  go_wp2_with fail
  go_ret3
  exact ⟨rfl, O1.out⟩
set_option maxRecDepth 100000 in
set_option maxHeartbeats 2000000 in
theorem rm_14 : RmC ⟨#[62, 115, 116, 114]⟩ := by
  intro w
  rw [show pmR ⟨#[62, 115, 116, 114]⟩ = (1, 1, true) from by kernel_rfl]
  have HM : Hid (∀ w1, Calls Tryz.prog 31 #[.string ⟨#[62, 115, 116, 114]⟩] w1 fun e w' => ∃ v, e = .returned (.tuple #[.int .i64 0, v, .bool false]) ∧ Hid ((∃ ao c, v = .slice ao 0 c) ∧ Only (fun _ => False) w1 w')) := by
    intro w1
    go_enter Tryz.func31, Tryz.ntmps31
    go_wp2_with fail
    go_ret3
    exact ⟨_, rfl, ⟨_, _, rfl⟩, Only.refl _ w1⟩
  go_enter Tryz.func17, Tryz.ntmps17
  go_wp2_with fail
  refine (show Calls Tryz.prog 31 _ _ _ from HM.out _).mono ?_
  rintro e w1 ⟨v, rfl, h1⟩
  obtain ⟨⟨ao, c, rfl⟩, o1⟩ := h1.out
  have O1 : Hid (Only (fun _ => False) w w1) := o1
  clear h1 o1 HM
  go_wp2_with fail
  go_ret3
  exact ⟨rfl, O1.out⟩
set_option maxRecDepth 100000 in
set_option maxHeartbeats 2000000 in
theorem rm_20 : RmC ⟨#[112, 117, 116]⟩ := by
  intro w
  rw [show pmR ⟨#[112, 117, 116]⟩ = (2, 0, true) from by kernel_rfl]
  have HM : Hid (∀ w1, Calls Tryz.prog 31 #[.string ⟨#[112, 117, 116]⟩] w1 fun e w' => ∃ v, e = .returned (.tuple #[.int .i64 0, v, .bool false]) ∧ Hid ((∃ ao c, v = .slice ao 0 c) ∧ Only (fun _ => False) w1 w')) := by
    intro w1
    go_enter Tryz.func31, Tryz.ntmps31
    go_wp2_with fail
    go_ret3
    exact ⟨_, rfl, ⟨_, _, rfl⟩, Only.refl _ w1⟩
  go_enter Tryz.func17, Tryz.ntmps17
  go_wp2_with fail
  refine (show Calls Tryz.prog 31 _ _ _ from HM.out _).mono ?_
  rintro e w1 ⟨v, rfl, h1⟩
  obtain ⟨⟨ao, c, rfl⟩, o1⟩ := h1.out
  have O1 : Hid (Only (fun _ => False) w w1) := o1
  clear h1 o1 HM
  go_wp2_with fail
  go_ret3
  exact ⟨rfl, O1.out⟩
set_option maxRecDepth 100000 in
set_option maxHeartbeats 2000000 in
theorem rm_26 : RmC ⟨#[109, 111, 100]⟩ := by
  intro w
  rw [show pmR ⟨#[109, 111, 100]⟩ = (2, 1, true) from by kernel_rfl]
  have HM : Hid (∀ w1, Calls Tryz.prog 31 #[.string ⟨#[109, 111, 100]⟩] w1 fun e w' => ∃ v, e = .returned (.tuple #[.int .i64 0, v, .bool false]) ∧ Hid ((∃ ao c, v = .slice ao 0 c) ∧ Only (fun _ => False) w1 w')) := by
    intro w1
    go_enter Tryz.func31, Tryz.ntmps31
    go_wp2_with fail
    go_ret3
    exact ⟨_, rfl, ⟨_, _, rfl⟩, Only.refl _ w1⟩
  go_enter Tryz.func17, Tryz.ntmps17
  go_wp2_with fail
  refine (show Calls Tryz.prog 31 _ _ _ from HM.out _).mono ?_
  rintro e w1 ⟨v, rfl, h1⟩
  obtain ⟨⟨ao, c, rfl⟩, o1⟩ := h1.out
  have O1 : Hid (Only (fun _ => False) w w1) := o1
  clear h1 o1 HM
  go_wp2_with fail
  go_ret3
  exact ⟨rfl, O1.out⟩
set_option maxRecDepth 100000 in
set_option maxHeartbeats 2000000 in
theorem rm_32 : RmC ⟨#[97, 110, 100]⟩ := by
  intro w
  rw [show pmR ⟨#[97, 110, 100]⟩ = (2, 1, true) from by kernel_rfl]
  have HM : Hid (∀ w1, Calls Tryz.prog 31 #[.string ⟨#[97, 110, 100]⟩] w1 fun e w' => ∃ v, e = .returned (.tuple #[.int .i64 0, v, .bool false]) ∧ Hid ((∃ ao c, v = .slice ao 0 c) ∧ Only (fun _ => False) w1 w')) := by
    intro w1
    go_enter Tryz.func31, Tryz.ntmps31
    go_wp2_with fail
    go_ret3
    exact ⟨_, rfl, ⟨_, _, rfl⟩, Only.refl _ w1⟩
  go_enter Tryz.func17, Tryz.ntmps17
  go_wp2_with fail
  refine (show Calls Tryz.prog 31 _ _ _ from HM.out _).mono ?_
  rintro e w1 ⟨v, rfl, h1⟩
  obtain ⟨⟨ao, c, rfl⟩, o1⟩ := h1.out
  have O1 : Hid (Only (fun _ => False) w w1) := o1
  clear h1 o1 HM
  go_wp2_with fail
  go_ret3
  exact ⟨rfl, O1.out⟩
set_option maxRecDepth 100000 in
set_option maxHeartbeats 2000000 in
theorem rm_38 : RmC ⟨#[99, 111, 109, 112, 111, 115, 101]⟩ := by
  intro w
  rw [show pmR ⟨#[99, 111, 109, 112, 111, 115, 101]⟩ = (2, 1, true) from by kernel_rfl]
  have HM : Hid (∀ w1, Calls Tryz.prog 31 #[.string ⟨#[99, 111, 109, 112, 111, 115, 101]⟩] w1 fun e w' => ∃ v, e = .returned (.tuple #[.int .i64 0, v, .bool false]) ∧ Hid ((∃ ao c, v = .slice ao 0 c) ∧ Only (fun _ => False) w1 w')) := by
    intro w1
    go_enter Tryz.func31, Tryz.ntmps31
    go_wp2_with fail
    go_ret3
    exact ⟨_, rfl, ⟨_, _, rfl⟩, Only.refl _ w1⟩
  go_enter Tryz.func17, Tryz.ntmps17
  go_wp2_with fail
  refine (show Calls Tryz.prog 31 _ _ _ from HM.out _).mono ?_
  rintro e w1 ⟨v, rfl, h1⟩
  obtain ⟨⟨ao, c, rfl⟩, o1⟩ := h1.out
  have O1 : Hid (Only (fun _ => False) w w1) := o1
  clear h1 o1 HM
  go_wp2_with fail
  go_ret3
  exact ⟨rfl, O1.out⟩
end Go.Proofs.YtodbkihobgdpdaaGreatDoor
