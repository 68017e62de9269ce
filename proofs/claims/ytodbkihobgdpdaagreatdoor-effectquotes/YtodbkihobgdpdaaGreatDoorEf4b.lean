/- The document on primitives, some of them. -/
import Derived.Test.YtodbkihobgdpdaaGreatDoorEf2
namespace Go.Proofs.YtodbkihobgdpdaaGreatDoor
open Go.RowKit
set_option linter.unusedSimpArgs false
set_option linter.unusedVariables false
set_option maxRecDepth 100000 in
set_option maxHeartbeats 2000000 in
theorem rm_1 : RmC ⟨#[46]⟩ := by
  intro w
  rw [show pmR ⟨#[46]⟩ = (1, 0, true) from by kernel_rfl]
  have HM : Hid (∀ w1, Calls Tryz.prog 31 #[.string ⟨#[46]⟩] w1 fun e w' => ∃ v, e = .returned (.tuple #[.int .i64 0, v, .bool false]) ∧ Hid ((∃ ao c, v = .slice ao 0 c) ∧ Only (fun _ => False) w1 w')) := by
    intro w1
    go_enter Tryz.func31, Tryz.ntmps31
    go_wp2_with fail
    go_ret3
    exact ⟨_, rfl, ⟨_, _, rfl⟩, Only.refl _ w1⟩
  go_enter Tryz.func17, Tryz.ntmps17
  go_wp2_with fail
  refine (show Calls Tryz.prog 31 _ _ _ from HM.out _).mono ?_
  rintro e w1 ⟨v, rfl, h1⟩
  obtain ⟨⟨ao, c, rfl⟩, o1⟩ := h1.out
  have O1 : Hid (Only (fun _ => False) w w1) := o1
  clear h1 o1 HM
  go_wp2_with fail
  go_ret3
  exact ⟨rfl, O1.out⟩
set_option maxRecDepth 100000 in
set_option maxHeartbeats 2000000 in
theorem rm_7 : RmC ⟨#[98, 111, 111, 108, 63]⟩ := by
  intro w
  rw [show pmR ⟨#[98, 111, 111, 108, 63]⟩ = (1, 1, true) from by kernel_rfl]
  have HM : Hid (∀ w1, Calls Tryz.prog 31 #[.string ⟨#[98, 111, 111, 108, 63]⟩] w1 fun e w' => ∃ v, e = .returned (.tuple #[.int .i64 0, v, .bool false]) ∧ Hid ((∃ ao c, v = .slice ao 0 c) ∧ Only (fun _ => False) w1 w')) := by
    intro w1
    go_enter Tryz.func31, Tryz.ntmps31
    go_wp2_with fail
    go_ret3
    exact ⟨_, rfl, ⟨_, _, rfl⟩, Only.refl _ w1⟩
  go_enter Tryz.func17, Tryz.ntmps17
  go_wp2_with fail
  refine (show Calls Tryz.prog 31 _ _ _ from HM.out _).mono ?_
  rintro e w1 ⟨v, rfl, h1⟩
  obtain ⟨⟨ao, c, rfl⟩, o1⟩ := h1.out
  have O1 : Hid (Only (fun _ => False) w w1) := o1
  clear h1 o1 HM
  go_wp2_with fail
  go_ret3
  exact ⟨rfl, O1.out⟩
set_option maxRecDepth 100000 in
set_option maxHeartbeats 2000000 in
theorem rm_13 : RmC ⟨#[114, 101, 118, 101, 114, 115, 101]⟩ := by
  intro w
  rw [show pmR ⟨#[114, 101, 118, 101, 114, 115, 101]⟩ = (1, 1, true) from by kernel_rfl]
  have HM : Hid (∀ w1, Calls Tryz.prog 31 #[.string ⟨#[114, 101, 118, 101, 114, 115, 101]⟩] w1 fun e w' => ∃ v, e = .returned (.tuple #[.int .i64 0, v, .bool false]) ∧ Hid ((∃ ao c, v = .slice ao 0 c) ∧ Only (fun _ => False) w1 w')) := by
    intro w1
    go_enter Tryz.func31, Tryz.ntmps31
    go_wp2_with fail
    go_ret3
    exact ⟨_, rfl, ⟨_, _, rfl⟩, Only.refl _ w1⟩
  go_enter Tryz.func17, Tryz.ntmps17
  go_wp2_with fail
  refine (show Calls Tryz.prog 31 _ _ _ from HM.out _).mono ?_
  rintro e w1 ⟨v, rfl, h1⟩
  obtain ⟨⟨ao, c, rfl⟩, o1⟩ := h1.out
  have O1 : Hid (Only (fun _ => False) w w1) := o1
  clear h1 o1 HM
  go_wp2_with fail
  go_ret3
  exact ⟨rfl, O1.out⟩
set_option maxRecDepth 100000 in
set_option maxHeartbeats 2000000 in
theorem rm_19 : RmC ⟨#[117, 110, 112, 97, 105, 114]⟩ := by
  intro w
  rw [show pmR ⟨#[117, 110, 112, 97, 105, 114]⟩ = (1, 2, true) from by kernel_rfl]
  have HM : Hid (∀ w1, Calls Tryz.prog 31 #[.string ⟨#[117, 110, 112, 97, 105, 114]⟩] w1 fun e w' => ∃ v, e = .returned (.tuple #[.int .i64 0, v, .bool false]) ∧ Hid ((∃ ao c, v = .slice ao 0 c) ∧ Only (fun _ => False) w1 w')) := by
    intro w1
    go_enter Tryz.func31, Tryz.ntmps31
    go_wp2_with fail
    go_ret3
    exact ⟨_, rfl, ⟨_, _, rfl⟩, Only.refl _ w1⟩
  go_enter Tryz.func17, Tryz.ntmps17
  go_wp2_with fail
  refine (show Calls Tryz.prog 31 _ _ _ from HM.out _).mono ?_
  rintro e w1 ⟨v, rfl, h1⟩
  obtain ⟨⟨ao, c, rfl⟩, o1⟩ := h1.out
  have O1 : Hid (Only (fun _ => False) w w1) := o1
  clear h1 o1 HM
  go_wp2_with fail
  go_ret3
  exact ⟨rfl, O1.out⟩
set_option maxRecDepth 100000 in
set_option maxHeartbeats 2000000 in
theorem rm_25 : RmC ⟨#[47]⟩ := by
  intro w
  rw [show pmR ⟨#[47]⟩ = (2, 1, true) from by kernel_rfl]
  have HM : Hid (∀ w1, Calls Tryz.prog 31 #[.string ⟨#[47]⟩] w1 fun e w' => ∃ v, e = .returned (.tuple #[.int .i64 0, v, .bool false]) ∧ Hid ((∃ ao c, v = .slice ao 0 c) ∧ Only (fun _ => False) w1 w')) := by
    intro w1
    go_enter Tryz.func31, Tryz.ntmps31
    go_wp2_with fail
    go_ret3
    exact ⟨_, rfl, ⟨_, _, rfl⟩, Only.refl _ w1⟩
  go_enter Tryz.func17, Tryz.ntmps17
  go_wp2_with fail
  refine (show Calls Tryz.prog 31 _ _ _ from HM.out _).mono ?_
  rintro e w1 ⟨v, rfl, h1⟩
  obtain ⟨⟨ao, c, rfl⟩, o1⟩ := h1.out
  have O1 : Hid (Only (fun _ => False) w w1) := o1
  clear h1 o1 HM
  go_wp2_with fail
  go_ret3
  exact ⟨rfl, O1.out⟩
set_option maxRecDepth 100000 in
set_option maxHeartbeats 2000000 in
theorem rm_31 : RmC ⟨#[61]⟩ := by
  intro w
  rw [show pmR ⟨#[61]⟩ = (2, 1, true) from by kernel_rfl]
  have HM : Hid (∀ w1, Calls Tryz.prog 31 #[.string ⟨#[61]⟩] w1 fun e w' => ∃ v, e = .returned (.tuple #[.int .i64 0, v, .bool false]) ∧ Hid ((∃ ao c, v = .slice ao 0 c) ∧ Only (fun _ => False) w1 w')) := by
    intro w1
    go_enter Tryz.func31, Tryz.ntmps31
    go_wp2_with fail
    go_ret3
    exact ⟨_, rfl, ⟨_, _, rfl⟩, Only.refl _ w1⟩
  go_enter Tryz.func17, Tryz.ntmps17
  go_wp2_with fail
  refine (show Calls Tryz.prog 31 _ _ _ from HM.out _).mono ?_
  rintro e w1 ⟨v, rfl, h1⟩
  obtain ⟨⟨ao, c, rfl⟩, o1⟩ := h1.out
  have O1 : Hid (Only (fun _ => False) w w1) := o1
  clear h1 o1 HM
  go_wp2_with fail
  go_ret3
  exact ⟨rfl, O1.out⟩
set_option maxRecDepth 100000 in
set_option maxHeartbeats 2000000 in
theorem rm_37 : RmC ⟨#[99, 117, 114, 114, 121]⟩ := by
  intro w
  rw [show pmR ⟨#[99, 117, 114, 114, 121]⟩ = (2, 1, true) from by kernel_rfl]
  have HM : Hid (∀ w1, Calls Tryz.prog 31 #[.string ⟨#[99, 117, 114, 114, 121]⟩] w1 fun e w' => ∃ v, e = .returned (.tuple #[.int .i64 0, v, .bool false]) ∧ Hid ((∃ ao c, v = .slice ao 0 c) ∧ Only (fun _ => False) w1 w')) := by
    intro w1
    go_enter Tryz.func31, Tryz.ntmps31
    go_wp2_with fail
    go_ret3
    exact ⟨_, rfl, ⟨_, _, rfl⟩, Only.refl _ w1⟩
  go_enter Tryz.func17, Tryz.ntmps17
  go_wp2_with fail
  refine (show Calls Tryz.prog 31 _ _ _ from HM.out _).mono ?_
  rintro e w1 ⟨v, rfl, h1⟩
  obtain ⟨⟨ao, c, rfl⟩, o1⟩ := h1.out
  have O1 : Hid (Only (fun _ => False) w w1) := o1
  clear h1 o1 HM
  go_wp2_with fail
  go_ret3
  exact ⟨rfl, O1.out⟩
set_option maxRecDepth 100000 in
set_option maxHeartbeats 2000000 in
theorem rm_43 : RmC ⟨#[114, 111, 116]⟩ := by
  intro w
  rw [show pmR ⟨#[114, 111, 116]⟩ = (3, 3, true) from by kernel_rfl]
  have HM : Hid (∀ w1, Calls Tryz.prog 31 #[.string ⟨#[114, 111, 116]⟩] w1 fun e w' => ∃ v, e = .returned (.tuple #[.int .i64 3, v, .bool true]) ∧ Hid ((∃ ao c, v = .slice ao 3 c) ∧ Only (fun _ => False) w1 w')) := by
    intro w1
    go_enter Tryz.func31, Tryz.ntmps31
    go_wp2_with fail
    go_ret3
    exact ⟨_, rfl, ⟨_, _, rfl⟩, (Only.refl _ w1).alloc _⟩
  go_enter Tryz.func17, Tryz.ntmps17
  go_wp2_with fail
  refine (show Calls Tryz.prog 31 _ _ _ from HM.out _).mono ?_
  rintro e w1 ⟨v, rfl, h1⟩
  obtain ⟨⟨ao, c, rfl⟩, o1⟩ := h1.out
  have O1 : Hid (Only (fun _ => False) w w1) := o1
  clear h1 o1 HM
  go_wp2_with fail
  go_ret3
  exact ⟨rfl, O1.out⟩
end Go.Proofs.YtodbkihobgdpdaaGreatDoor
