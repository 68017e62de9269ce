/- Primitives, some of them. The document on primitives, some of them. Primitives: all. All forty primitives: their contracts, and how many values each leaves. -/
import Derived.Test.YtbhpjakjlfkfiaaGreatDoorGat
import Derived.Test.YtbhpjakjlfkfiaaGreatDoorGal
import Derived.Test.YtbhpjakjlfkfiaaGreatDoorGam
import Derived.Test.YtbhpjakjlfkfiaaGreatDoorGan
import Derived.Test.YtbhpjakjlfkfiaaGreatDoorGao
import Derived.Test.YtbhpjakjlfkfiaaGreatDoorGap
import Derived.Test.YtbhpjakjlfkfiaaGreatDoorGaq
import Derived.Test.YtbhpjakjlfkfiaaGreatDoorGar
import Derived.Test.YtbhpjakjlfkfiaaGreatDoorGas
namespace Go.Proofs.YtbhpjakjlfkfiaaGreatDoor
open Go.RowKit
set_option linter.unusedSimpArgs false
set_option linter.unusedVariables false
set_option maxRecDepth 100000 in
set_option maxHeartbeats 2000000 in
theorem pm_5 : PmC ⟨#[105, 110, 116, 63]⟩ := by
  intro w
  rw [show pmR ⟨#[105, 110, 116, 63]⟩ = (1, 1, true) from by kernel_rfl]
  go_enter Tryz.func40, Tryz.ntmps40
  go_wp2_with fail
  have hq : TwC (w.alloc (.cells #[.int .i64 1, .int .i64 1] 39)) w.heap.size 1 1 := ealloc_at _ _ _ rfl
  obtain ⟨q0, q1, _, _⟩ := hq.cells
  refine bodyPost_ret (results_eff rfl _ _ w.heap.size q0 q1 rfl) rfl ?_
  exact ⟨rfl, (Only.refl _ w).alloc _⟩
set_option maxRecDepth 100000 in
set_option maxHeartbeats 2000000 in
theorem pm_11 : PmC ⟨#[108, 101, 110, 103, 116, 104]⟩ := by
  intro w
  rw [show pmR ⟨#[108, 101, 110, 103, 116, 104]⟩ = (1, 1, true) from by kernel_rfl]
  go_enter Tryz.func40, Tryz.ntmps40
  go_wp2_with fail
  have hq : TwC (w.alloc (.cells #[.int .i64 1, .int .i64 1] 39)) w.heap.size 1 1 := ealloc_at _ _ _ rfl
  obtain ⟨q0, q1, _, _⟩ := hq.cells
  refine bodyPost_ret (results_eff rfl _ _ w.heap.size q0 q1 rfl) rfl ?_
  exact ⟨rfl, (Only.refl _ w).alloc _⟩
set_option maxRecDepth 100000 in
set_option maxHeartbeats 2000000 in
theorem pm_17 : PmC ⟨#[103, 101, 116]⟩ := by
  intro w
  rw [show pmR ⟨#[103, 101, 116]⟩ = (1, 1, true) from by kernel_rfl]
  go_enter Tryz.func40, Tryz.ntmps40
  go_wp2_with fail
  have hq : TwC (w.alloc (.cells #[.int .i64 1, .int .i64 1] 39)) w.heap.size 1 1 := ealloc_at _ _ _ rfl
  obtain ⟨q0, q1, _, _⟩ := hq.cells
  refine bodyPost_ret (results_eff rfl _ _ w.heap.size q0 q1 rfl) rfl ?_
  exact ⟨rfl, (Only.refl _ w).alloc _⟩
set_option maxRecDepth 100000 in
set_option maxHeartbeats 2000000 in
theorem pm_23 : PmC ⟨#[45]⟩ := by
  intro w
  rw [show pmR ⟨#[45]⟩ = (2, 1, true) from by kernel_rfl]
  go_enter Tryz.func40, Tryz.ntmps40
  go_wp2_with fail
  have hq : TwC (w.alloc (.cells #[.int .i64 2, .int .i64 1] 39)) w.heap.size 2 1 := ealloc_at _ _ _ rfl
  obtain ⟨q0, q1, _, _⟩ := hq.cells
  refine bodyPost_ret (results_eff rfl _ _ w.heap.size q0 q1 rfl) rfl ?_
  exact ⟨rfl, (Only.refl _ w).alloc _⟩
set_option maxRecDepth 100000 in
set_option maxHeartbeats 2000000 in
theorem pm_29 : PmC ⟨#[60]⟩ := by
  intro w
  rw [show pmR ⟨#[60]⟩ = (2, 1, true) from by kernel_rfl]
  go_enter Tryz.func40, Tryz.ntmps40
  go_wp2_with fail
  have hq : TwC (w.alloc (.cells #[.int .i64 2, .int .i64 1] 39)) w.heap.size 2 1 := ealloc_at _ _ _ rfl
  obtain ⟨q0, q1, _, _⟩ := hq.cells
  refine bodyPost_ret (results_eff rfl _ _ w.heap.size q0 q1 rfl) rfl ?_
  exact ⟨rfl, (Only.refl _ w).alloc _⟩
set_option maxRecDepth 100000 in
set_option maxHeartbeats 2000000 in
theorem pm_35 : PmC ⟨#[110, 116, 104]⟩ := by
  intro w
  rw [show pmR ⟨#[110, 116, 104]⟩ = (2, 1, true) from by kernel_rfl]
  go_enter Tryz.func40, Tryz.ntmps40
  go_wp2_with fail
  have hq : TwC (w.alloc (.cells #[.int .i64 2, .int .i64 1] 39)) w.heap.size 2 1 := ealloc_at _ _ _ rfl
  obtain ⟨q0, q1, _, _⟩ := hq.cells
  refine bodyPost_ret (results_eff rfl _ _ w.heap.size q0 q1 rfl) rfl ?_
  exact ⟨rfl, (Only.refl _ w).alloc _⟩
set_option maxRecDepth 100000 in
set_option maxHeartbeats 2000000 in
theorem pm_41 : PmC ⟨#[116, 117, 99, 107]⟩ := by
  intro w
  rw [show pmR ⟨#[116, 117, 99, 107]⟩ = (2, 3, true) from by kernel_rfl]
  go_enter Tryz.func40, Tryz.ntmps40
  go_wp2_with fail
  have hq : TwC (w.alloc (.cells #[.int .i64 2, .int .i64 3] 39)) w.heap.size 2 3 := ealloc_at _ _ _ rfl
  obtain ⟨q0, q1, _, _⟩ := hq.cells
  refine bodyPost_ret (results_eff rfl _ _ w.heap.size q0 q1 rfl) rfl ?_
  exact ⟨rfl, (Only.refl _ w).alloc _⟩
end Go.Proofs.YtbhpjakjlfkfiaaGreatDoor
namespace Go.Proofs.YtbhpjakjlfkfiaaGreatDoor
open Go.RowKit
set_option linter.unusedSimpArgs false
set_option linter.unusedVariables false
set_option maxRecDepth 100000 in
set_option maxHeartbeats 2000000 in
theorem rm_5 : RmC ⟨#[105, 110, 116, 63]⟩ := by
  intro w
  rw [show pmR ⟨#[105, 110, 116, 63]⟩ = (1, 1, true) from by kernel_rfl]
  have HM : Hid (∀ w1, Calls Tryz.prog 41 #[.string ⟨#[105, 110, 116, 63]⟩] w1 fun e w' => ∃ v, e = .returned (.tuple #[.int .i64 0, v, .bool false]) ∧ Hid ((∃ ao c, v = .slice ao 0 c) ∧ Only (fun _ => False) w1 w')) := by
    intro w1
    go_enter Tryz.func41, Tryz.ntmps41
    go_wp2_with fail
    go_ret3
    exact ⟨_, rfl, ⟨_, _, rfl⟩, Only.refl _ w1⟩
  go_enter Tryz.func21, Tryz.ntmps21
  go_wp2_with fail
  refine (show Calls Tryz.prog 41 _ _ _ from HM.out _).mono ?_
  rintro e w1 ⟨v, rfl, h1⟩
  obtain ⟨⟨ao, c, rfl⟩, o1⟩ := h1.out
  have O1 : Hid (Only (fun _ => False) w w1) := o1
  clear h1 o1 HM
  go_wp2_with fail
  go_ret3
  exact ⟨rfl, O1.out⟩
set_option maxRecDepth 100000 in
set_option maxHeartbeats 2000000 in
theorem rm_11 : RmC ⟨#[108, 101, 110, 103, 116, 104]⟩ := by
  intro w
  rw [show pmR ⟨#[108, 101, 110, 103, 116, 104]⟩ = (1, 1, true) from by kernel_rfl]
  have HM : Hid (∀ w1, Calls Tryz.prog 41 #[.string ⟨#[108, 101, 110, 103, 116, 104]⟩] w1 fun e w' => ∃ v, e = .returned (.tuple #[.int .i64 0, v, .bool false]) ∧ Hid ((∃ ao c, v = .slice ao 0 c) ∧ Only (fun _ => False) w1 w')) := by
    intro w1
    go_enter Tryz.func41, Tryz.ntmps41
    go_wp2_with fail
    go_ret3
    exact ⟨_, rfl, ⟨_, _, rfl⟩, Only.refl _ w1⟩
  go_enter Tryz.func21, Tryz.ntmps21
  go_wp2_with fail
  refine (show Calls Tryz.prog 41 _ _ _ from HM.out _).mono ?_
  rintro e w1 ⟨v, rfl, h1⟩
  obtain ⟨⟨ao, c, rfl⟩, o1⟩ := h1.out
  have O1 : Hid (Only (fun _ => False) w w1) := o1
  clear h1 o1 HM
  go_wp2_with fail
  go_ret3
  exact ⟨rfl, O1.out⟩
set_option maxRecDepth 100000 in
set_option maxHeartbeats 2000000 in
theorem rm_17 : RmC ⟨#[103, 101, 116]⟩ := by
  intro w
  rw [show pmR ⟨#[103, 101, 116]⟩ = (1, 1, true) from by kernel_rfl]
  have HM : Hid (∀ w1, Calls Tryz.prog 41 #[.string ⟨#[103, 101, 116]⟩] w1 fun e w' => ∃ v, e = .returned (.tuple #[.int .i64 0, v, .bool false]) ∧ Hid ((∃ ao c, v = .slice ao 0 c) ∧ Only (fun _ => False) w1 w')) := by
    intro w1
    go_enter Tryz.func41, Tryz.ntmps41
    go_wp2_with fail
    go_ret3
    exact ⟨_, rfl, ⟨_, _, rfl⟩, Only.refl _ w1⟩
  go_enter Tryz.func21, Tryz.ntmps21
  go_wp2_with fail
  refine (show Calls Tryz.prog 41 _ _ _ from HM.out _).mono ?_
  rintro e w1 ⟨v, rfl, h1⟩
  obtain ⟨⟨ao, c, rfl⟩, o1⟩ := h1.out
  have O1 : Hid (Only (fun _ => False) w w1) := o1
  clear h1 o1 HM
  go_wp2_with fail
  go_ret3
  exact ⟨rfl, O1.out⟩
set_option maxRecDepth 100000 in
set_option maxHeartbeats 2000000 in
theorem rm_23 : RmC ⟨#[45]⟩ := by
  intro w
  rw [show pmR ⟨#[45]⟩ = (2, 1, true) from by kernel_rfl]
  have HM : Hid (∀ w1, Calls Tryz.prog 41 #[.string ⟨#[45]⟩] w1 fun e w' => ∃ v, e = .returned (.tuple #[.int .i64 0, v, .bool false]) ∧ Hid ((∃ ao c, v = .slice ao 0 c) ∧ Only (fun _ => False) w1 w')) := by
    intro w1
    go_enter Tryz.func41, Tryz.ntmps41
    go_wp2_with fail
    go_ret3
    exact ⟨_, rfl, ⟨_, _, rfl⟩, Only.refl _ w1⟩
  go_enter Tryz.func21, Tryz.ntmps21
  go_wp2_with fail
  refine (show Calls Tryz.prog 41 _ _ _ from HM.out _).mono ?_
  rintro e w1 ⟨v, rfl, h1⟩
  obtain ⟨⟨ao, c, rfl⟩, o1⟩ := h1.out
  have O1 : Hid (Only (fun _ => False) w w1) := o1
  clear h1 o1 HM
  go_wp2_with fail
  go_ret3
  exact ⟨rfl, O1.out⟩
set_option maxRecDepth 100000 in
set_option maxHeartbeats 2000000 in
theorem rm_29 : RmC ⟨#[60]⟩ := by
  intro w
  rw [show pmR ⟨#[60]⟩ = (2, 1, true) from by kernel_rfl]
  have HM : Hid (∀ w1, Calls Tryz.prog 41 #[.string ⟨#[60]⟩] w1 fun e w' => ∃ v, e = .returned (.tuple #[.int .i64 0, v, .bool false]) ∧ Hid ((∃ ao c, v = .slice ao 0 c) ∧ Only (fun _ => False) w1 w')) := by
    intro w1
    go_enter Tryz.func41, Tryz.ntmps41
    go_wp2_with fail
    go_ret3
    exact ⟨_, rfl, ⟨_, _, rfl⟩, Only.refl _ w1⟩
  go_enter Tryz.func21, Tryz.ntmps21
  go_wp2_with fail
  refine (show Calls Tryz.prog 41 _ _ _ from HM.out _).mono ?_
  rintro e w1 ⟨v, rfl, h1⟩
  obtain ⟨⟨ao, c, rfl⟩, o1⟩ := h1.out
  have O1 : Hid (Only (fun _ => False) w w1) := o1
  clear h1 o1 HM
  go_wp2_with fail
  go_ret3
  exact ⟨rfl, O1.out⟩
set_option maxRecDepth 100000 in
set_option maxHeartbeats 2000000 in
theorem rm_35 : RmC ⟨#[110, 116, 104]⟩ := by
  intro w
  rw [show pmR ⟨#[110, 116, 104]⟩ = (2, 1, true) from by kernel_rfl]
  have HM : Hid (∀ w1, Calls Tryz.prog 41 #[.string ⟨#[110, 116, 104]⟩] w1 fun e w' => ∃ v, e = .returned (.tuple #[.int .i64 0, v, .bool false]) ∧ Hid ((∃ ao c, v = .slice ao 0 c) ∧ Only (fun _ => False) w1 w')) := by
    intro w1
    go_enter Tryz.func41, Tryz.ntmps41
    go_wp2_with fail
    go_ret3
    exact ⟨_, rfl, ⟨_, _, rfl⟩, Only.refl _ w1⟩
  go_enter Tryz.func21, Tryz.ntmps21
  go_wp2_with fail
  refine (show Calls Tryz.prog 41 _ _ _ from HM.out _).mono ?_
  rintro e w1 ⟨v, rfl, h1⟩
  obtain ⟨⟨ao, c, rfl⟩, o1⟩ := h1.out
  have O1 : Hid (Only (fun _ => False) w w1) := o1
  clear h1 o1 HM
  go_wp2_with fail
  go_ret3
  exact ⟨rfl, O1.out⟩
set_option maxRecDepth 100000 in
set_option maxHeartbeats 2000000 in
theorem rm_41 : RmC ⟨#[116, 117, 99, 107]⟩ := by
  intro w
  rw [show pmR ⟨#[116, 117, 99, 107]⟩ = (2, 3, true) from by kernel_rfl]
  have HM : Hid (∀ w1, Calls Tryz.prog 41 #[.string ⟨#[116, 117, 99, 107]⟩] w1 fun e w' => ∃ v, e = .returned (.tuple #[.int .i64 2, v, .bool true]) ∧ Hid ((∃ ao c, v = .slice ao 3 c) ∧ Only (fun _ => False) w1 w')) := by
    intro w1
    go_enter Tryz.func41, Tryz.ntmps41
    go_wp2_with fail
    go_ret3
    exact ⟨_, rfl, ⟨_, _, rfl⟩, (Only.refl _ w1).alloc _⟩
  go_enter Tryz.func21, Tryz.ntmps21
  go_wp2_with fail
  refine (show Calls Tryz.prog 41 _ _ _ from HM.out _).mono ?_
  rintro e w1 ⟨v, rfl, h1⟩
  obtain ⟨⟨ao, c, rfl⟩, o1⟩ := h1.out
  have O1 : Hid (Only (fun _ => False) w w1) := o1
  clear h1 o1 HM
  go_wp2_with fail
  go_ret3
  exact ⟨rfl, O1.out⟩
end Go.Proofs.YtbhpjakjlfkfiaaGreatDoor
namespace Go.Proofs.YtbhpjakjlfkfiaaGreatDoor
open Go.RowKit
set_option linter.unusedSimpArgs false
set_option linter.unusedVariables false
theorem pm_cases (s : ByteArray) : (∃ k : Fin 44, s = ⟨(pmL[k.1]'(k.2)).1.toArray⟩) ∨ ∀ (k : Nat) (h : k < 44), s.toList ≠ (pmL[k]'h).1 := by
  by_cases h : ∃ k : Fin 44, s.toList = (pmL[k.1]'(k.2)).1
  · obtain ⟨k, hk⟩ := h
    exact .inl ⟨k, to_lit hk⟩
  · exact .inr fun k hk e => h ⟨⟨k, hk⟩, e⟩
theorem pm_none {s : ByteArray} (hn : ∀ (k : Nat) (h : k < 44), s.toList ≠ (pmL[k]'h).1) : pmR s = (0, 0, false) :=
  pmF_no _ _ fun x hx => by
    obtain ⟨k, hk, rfl⟩ := List.getElem_of_mem hx
    exact hn k hk
set_option maxRecDepth 100000 in
set_option maxHeartbeats 4000000 in
theorem pm_no {s : ByteArray} (hn : ∀ (k : Nat) (h : k < 44), s.toList ≠ (pmL[k]'h).1) : PmC s := by
  intro w
  rw [pm_none hn]
  have n0 : (s.toList == [100, 114, 111, 112]) = false := beq_false_of_ne (show s.toList ≠ [100, 114, 111, 112] from hn 0 (by decide))
  have n1 : (s.toList == [46]) = false := beq_false_of_ne (show s.toList ≠ [46] from hn 1 (by decide))
  have n2 : (s.toList == [110, 101, 103]) = false := beq_false_of_ne (show s.toList ≠ [110, 101, 103] from hn 2 (by decide))
  have n3 : (s.toList == [97, 98, 115]) = false := beq_false_of_ne (show s.toList ≠ [97, 98, 115] from hn 3 (by decide))
  have n4 : (s.toList == [110, 111, 116]) = false := beq_false_of_ne (show s.toList ≠ [110, 111, 116] from hn 4 (by decide))
  have n5 : (s.toList == [105, 110, 116, 63]) = false := beq_false_of_ne (show s.toList ≠ [105, 110, 116, 63] from hn 5 (by decide))
  have n6 : (s.toList == [115, 116, 114, 63]) = false := beq_false_of_ne (show s.toList ≠ [115, 116, 114, 63] from hn 6 (by decide))
  have n7 : (s.toList == [98, 111, 111, 108, 63]) = false := beq_false_of_ne (show s.toList ≠ [98, 111, 111, 108, 63] from hn 7 (by decide))
  have n8 : (s.toList == [108, 105, 115, 116, 63]) = false := beq_false_of_ne (show s.toList ≠ [108, 105, 115, 116, 63] from hn 8 (by decide))
  have n9 : (s.toList == [113, 117, 111, 116, 63]) = false := beq_false_of_ne (show s.toList ≠ [113, 117, 111, 116, 63] from hn 9 (by decide))
  have n10 : (s.toList == [98, 111, 120, 63]) = false := beq_false_of_ne (show s.toList ≠ [98, 111, 120, 63] from hn 10 (by decide))
  have n11 : (s.toList == [108, 101, 110, 103, 116, 104]) = false := beq_false_of_ne (show s.toList ≠ [108, 101, 110, 103, 116, 104] from hn 11 (by decide))
  have n12 : (s.toList == [119, 114, 97, 112]) = false := beq_false_of_ne (show s.toList ≠ [119, 114, 97, 112] from hn 12 (by decide))
  have n13 : (s.toList == [114, 101, 118, 101, 114, 115, 101]) = false := beq_false_of_ne (show s.toList ≠ [114, 101, 118, 101, 114, 115, 101] from hn 13 (by decide))
  have n14 : (s.toList == [62, 115, 116, 114]) = false := beq_false_of_ne (show s.toList ≠ [62, 115, 116, 114] from hn 14 (by decide))
  have n15 : (s.toList == [62, 105, 110, 116]) = false := beq_false_of_ne (show s.toList ≠ [62, 105, 110, 116] from hn 15 (by decide))
  have n16 : (s.toList == [98, 111, 120]) = false := beq_false_of_ne (show s.toList ≠ [98, 111, 120] from hn 16 (by decide))
  have n17 : (s.toList == [103, 101, 116]) = false := beq_false_of_ne (show s.toList ≠ [103, 101, 116] from hn 17 (by decide))
  have n18 : (s.toList == [100, 117, 112]) = false := beq_false_of_ne (show s.toList ≠ [100, 117, 112] from hn 18 (by decide))
  have n19 : (s.toList == [117, 110, 112, 97, 105, 114]) = false := beq_false_of_ne (show s.toList ≠ [117, 110, 112, 97, 105, 114] from hn 19 (by decide))
  have n20 : (s.toList == [112, 117, 116]) = false := beq_false_of_ne (show s.toList ≠ [112, 117, 116] from hn 20 (by decide))
  have n21 : (s.toList == [110, 105, 112]) = false := beq_false_of_ne (show s.toList ≠ [110, 105, 112] from hn 21 (by decide))
  have n22 : (s.toList == [43]) = false := beq_false_of_ne (show s.toList ≠ [43] from hn 22 (by decide))
  have n23 : (s.toList == [45]) = false := beq_false_of_ne (show s.toList ≠ [45] from hn 23 (by decide))
  have n24 : (s.toList == [42]) = false := beq_false_of_ne (show s.toList ≠ [42] from hn 24 (by decide))
  have n25 : (s.toList == [47]) = false := beq_false_of_ne (show s.toList ≠ [47] from hn 25 (by decide))
  have n26 : (s.toList == [109, 111, 100]) = false := beq_false_of_ne (show s.toList ≠ [109, 111, 100] from hn 26 (by decide))
  have n27 : (s.toList == [109, 105, 110]) = false := beq_false_of_ne (show s.toList ≠ [109, 105, 110] from hn 27 (by decide))
  have n28 : (s.toList == [109, 97, 120]) = false := beq_false_of_ne (show s.toList ≠ [109, 97, 120] from hn 28 (by decide))
  have n29 : (s.toList == [60]) = false := beq_false_of_ne (show s.toList ≠ [60] from hn 29 (by decide))
  have n30 : (s.toList == [62]) = false := beq_false_of_ne (show s.toList ≠ [62] from hn 30 (by decide))
  have n31 : (s.toList == [61]) = false := beq_false_of_ne (show s.toList ≠ [61] from hn 31 (by decide))
  have n32 : (s.toList == [97, 110, 100]) = false := beq_false_of_ne (show s.toList ≠ [97, 110, 100] from hn 32 (by decide))
  have n33 : (s.toList == [111, 114]) = false := beq_false_of_ne (show s.toList ≠ [111, 114] from hn 33 (by decide))
  have n34 : (s.toList == [97, 112, 112, 101, 110, 100]) = false := beq_false_of_ne (show s.toList ≠ [97, 112, 112, 101, 110, 100] from hn 34 (by decide))
  have n35 : (s.toList == [110, 116, 104]) = false := beq_false_of_ne (show s.toList ≠ [110, 116, 104] from hn 35 (by decide))
  have n36 : (s.toList == [112, 97, 105, 114]) = false := beq_false_of_ne (show s.toList ≠ [112, 97, 105, 114] from hn 36 (by decide))
  have n37 : (s.toList == [99, 117, 114, 114, 121]) = false := beq_false_of_ne (show s.toList ≠ [99, 117, 114, 114, 121] from hn 37 (by decide))
  have n38 : (s.toList == [99, 111, 109, 112, 111, 115, 101]) = false := beq_false_of_ne (show s.toList ≠ [99, 111, 109, 112, 111, 115, 101] from hn 38 (by decide))
  have n39 : (s.toList == [115, 119, 97, 112]) = false := beq_false_of_ne (show s.toList ≠ [115, 119, 97, 112] from hn 39 (by decide))
  have n40 : (s.toList == [111, 118, 101, 114]) = false := beq_false_of_ne (show s.toList ≠ [111, 118, 101, 114] from hn 40 (by decide))
  have n41 : (s.toList == [116, 117, 99, 107]) = false := beq_false_of_ne (show s.toList ≠ [116, 117, 99, 107] from hn 41 (by decide))
  have n42 : (s.toList == [115, 108, 105, 99, 101]) = false := beq_false_of_ne (show s.toList ≠ [115, 108, 105, 99, 101] from hn 42 (by decide))
  have n43 : (s.toList == [114, 111, 116]) = false := beq_false_of_ne (show s.toList ≠ [114, 111, 116] from hn 43 (by decide))
  clear hn
  go_enter Tryz.func40, Tryz.ntmps40
  go_wp2_with fail
  have hq : TwC (w.alloc (.cells #[.int .i64 0, .int .i64 0] 39)) w.heap.size 0 0 := ealloc_at _ _ _ rfl
  obtain ⟨q0, q1, _, _⟩ := hq.cells
  refine bodyPost_ret (results_eff rfl _ _ w.heap.size q0 q1 rfl) rfl ?_
  exact ⟨rfl, (Only.refl _ w).alloc _⟩
set_option maxRecDepth 100000 in
set_option maxHeartbeats 4000000 in
theorem rm_no {s : ByteArray} (hn : ∀ (k : Nat) (h : k < 44), s.toList ≠ (pmL[k]'h).1) : RmC s := by
  intro w
  rw [pm_none hn]
  have n0 : (s.toList == [100, 114, 111, 112]) = false := beq_false_of_ne (show s.toList ≠ [100, 114, 111, 112] from hn 0 (by decide))
  have n1 : (s.toList == [46]) = false := beq_false_of_ne (show s.toList ≠ [46] from hn 1 (by decide))
  have n2 : (s.toList == [110, 101, 103]) = false := beq_false_of_ne (show s.toList ≠ [110, 101, 103] from hn 2 (by decide))
  have n3 : (s.toList == [97, 98, 115]) = false := beq_false_of_ne (show s.toList ≠ [97, 98, 115] from hn 3 (by decide))
  have n4 : (s.toList == [110, 111, 116]) = false := beq_false_of_ne (show s.toList ≠ [110, 111, 116] from hn 4 (by decide))
  have n5 : (s.toList == [105, 110, 116, 63]) = false := beq_false_of_ne (show s.toList ≠ [105, 110, 116, 63] from hn 5 (by decide))
  have n6 : (s.toList == [115, 116, 114, 63]) = false := beq_false_of_ne (show s.toList ≠ [115, 116, 114, 63] from hn 6 (by decide))
  have n7 : (s.toList == [98, 111, 111, 108, 63]) = false := beq_false_of_ne (show s.toList ≠ [98, 111, 111, 108, 63] from hn 7 (by decide))
  have n8 : (s.toList == [108, 105, 115, 116, 63]) = false := beq_false_of_ne (show s.toList ≠ [108, 105, 115, 116, 63] from hn 8 (by decide))
  have n9 : (s.toList == [113, 117, 111, 116, 63]) = false := beq_false_of_ne (show s.toList ≠ [113, 117, 111, 116, 63] from hn 9 (by decide))
  have n10 : (s.toList == [98, 111, 120, 63]) = false := beq_false_of_ne (show s.toList ≠ [98, 111, 120, 63] from hn 10 (by decide))
  have n11 : (s.toList == [108, 101, 110, 103, 116, 104]) = false := beq_false_of_ne (show s.toList ≠ [108, 101, 110, 103, 116, 104] from hn 11 (by decide))
  have n12 : (s.toList == [119, 114, 97, 112]) = false := beq_false_of_ne (show s.toList ≠ [119, 114, 97, 112] from hn 12 (by decide))
  have n13 : (s.toList == [114, 101, 118, 101, 114, 115, 101]) = false := beq_false_of_ne (show s.toList ≠ [114, 101, 118, 101, 114, 115, 101] from hn 13 (by decide))
  have n14 : (s.toList == [62, 115, 116, 114]) = false := beq_false_of_ne (show s.toList ≠ [62, 115, 116, 114] from hn 14 (by decide))
  have n15 : (s.toList == [62, 105, 110, 116]) = false := beq_false_of_ne (show s.toList ≠ [62, 105, 110, 116] from hn 15 (by decide))
  have n16 : (s.toList == [98, 111, 120]) = false := beq_false_of_ne (show s.toList ≠ [98, 111, 120] from hn 16 (by decide))
  have n17 : (s.toList == [103, 101, 116]) = false := beq_false_of_ne (show s.toList ≠ [103, 101, 116] from hn 17 (by decide))
  have n18 : (s.toList == [100, 117, 112]) = false := beq_false_of_ne (show s.toList ≠ [100, 117, 112] from hn 18 (by decide))
  have n19 : (s.toList == [117, 110, 112, 97, 105, 114]) = false := beq_false_of_ne (show s.toList ≠ [117, 110, 112, 97, 105, 114] from hn 19 (by decide))
  have n20 : (s.toList == [112, 117, 116]) = false := beq_false_of_ne (show s.toList ≠ [112, 117, 116] from hn 20 (by decide))
  have n21 : (s.toList == [110, 105, 112]) = false := beq_false_of_ne (show s.toList ≠ [110, 105, 112] from hn 21 (by decide))
  have n22 : (s.toList == [43]) = false := beq_false_of_ne (show s.toList ≠ [43] from hn 22 (by decide))
  have n23 : (s.toList == [45]) = false := beq_false_of_ne (show s.toList ≠ [45] from hn 23 (by decide))
  have n24 : (s.toList == [42]) = false := beq_false_of_ne (show s.toList ≠ [42] from hn 24 (by decide))
  have n25 : (s.toList == [47]) = false := beq_false_of_ne (show s.toList ≠ [47] from hn 25 (by decide))
  have n26 : (s.toList == [109, 111, 100]) = false := beq_false_of_ne (show s.toList ≠ [109, 111, 100] from hn 26 (by decide))
  have n27 : (s.toList == [109, 105, 110]) = false := beq_false_of_ne (show s.toList ≠ [109, 105, 110] from hn 27 (by decide))
  have n28 : (s.toList == [109, 97, 120]) = false := beq_false_of_ne (show s.toList ≠ [109, 97, 120] from hn 28 (by decide))
  have n29 : (s.toList == [60]) = false := beq_false_of_ne (show s.toList ≠ [60] from hn 29 (by decide))
  have n30 : (s.toList == [62]) = false := beq_false_of_ne (show s.toList ≠ [62] from hn 30 (by decide))
  have n31 : (s.toList == [61]) = false := beq_false_of_ne (show s.toList ≠ [61] from hn 31 (by decide))
  have n32 : (s.toList == [97, 110, 100]) = false := beq_false_of_ne (show s.toList ≠ [97, 110, 100] from hn 32 (by decide))
  have n33 : (s.toList == [111, 114]) = false := beq_false_of_ne (show s.toList ≠ [111, 114] from hn 33 (by decide))
  have n34 : (s.toList == [97, 112, 112, 101, 110, 100]) = false := beq_false_of_ne (show s.toList ≠ [97, 112, 112, 101, 110, 100] from hn 34 (by decide))
  have n35 : (s.toList == [110, 116, 104]) = false := beq_false_of_ne (show s.toList ≠ [110, 116, 104] from hn 35 (by decide))
  have n36 : (s.toList == [112, 97, 105, 114]) = false := beq_false_of_ne (show s.toList ≠ [112, 97, 105, 114] from hn 36 (by decide))
  have n37 : (s.toList == [99, 117, 114, 114, 121]) = false := beq_false_of_ne (show s.toList ≠ [99, 117, 114, 114, 121] from hn 37 (by decide))
  have n38 : (s.toList == [99, 111, 109, 112, 111, 115, 101]) = false := beq_false_of_ne (show s.toList ≠ [99, 111, 109, 112, 111, 115, 101] from hn 38 (by decide))
  have n39 : (s.toList == [115, 119, 97, 112]) = false := beq_false_of_ne (show s.toList ≠ [115, 119, 97, 112] from hn 39 (by decide))
  have n40 : (s.toList == [111, 118, 101, 114]) = false := beq_false_of_ne (show s.toList ≠ [111, 118, 101, 114] from hn 40 (by decide))
  have n41 : (s.toList == [116, 117, 99, 107]) = false := beq_false_of_ne (show s.toList ≠ [116, 117, 99, 107] from hn 41 (by decide))
  have n42 : (s.toList == [115, 108, 105, 99, 101]) = false := beq_false_of_ne (show s.toList ≠ [115, 108, 105, 99, 101] from hn 42 (by decide))
  have n43 : (s.toList == [114, 111, 116]) = false := beq_false_of_ne (show s.toList ≠ [114, 111, 116] from hn 43 (by decide))
  clear hn
  have HM : Hid (∀ w1, Calls Tryz.prog 41 #[.string s] w1 fun e w' => e = .returned (.tuple #[.int .i64 0, .slice none 0 0, .bool false]) ∧ w' = w1) := by
    intro w1
    go_enter Tryz.func41, Tryz.ntmps41
    go_wp2_with fail
    go_ret3
    exact ⟨rfl, rfl⟩
  go_enter Tryz.func21, Tryz.ntmps21
  go_wp2_with fail
  refine (show Calls Tryz.prog 41 _ _ _ from HM.out _).mono ?_
  rintro e w1 ⟨rfl, rfl⟩
  clear HM
  go_wp2_with fail
  go_ret3
  exact ⟨rfl, Only.refl _ _⟩
theorem prim_any (s : ByteArray) : PmC s := by
  rcases pm_cases s with ⟨k, rfl⟩ | h
  · match k with
    | ⟨0, _⟩ => exact pm_0
    | ⟨1, _⟩ => exact pm_1
    | ⟨2, _⟩ => exact pm_2
    | ⟨3, _⟩ => exact pm_3
    | ⟨4, _⟩ => exact pm_4
    | ⟨5, _⟩ => exact pm_5
    | ⟨6, _⟩ => exact pm_6
    | ⟨7, _⟩ => exact pm_7
    | ⟨8, _⟩ => exact pm_8
    | ⟨9, _⟩ => exact pm_9
    | ⟨10, _⟩ => exact pm_10
    | ⟨11, _⟩ => exact pm_11
    | ⟨12, _⟩ => exact pm_12
    | ⟨13, _⟩ => exact pm_13
    | ⟨14, _⟩ => exact pm_14
    | ⟨15, _⟩ => exact pm_15
    | ⟨16, _⟩ => exact pm_16
    | ⟨17, _⟩ => exact pm_17
    | ⟨18, _⟩ => exact pm_18
    | ⟨19, _⟩ => exact pm_19
    | ⟨20, _⟩ => exact pm_20
    | ⟨21, _⟩ => exact pm_21
    | ⟨22, _⟩ => exact pm_22
    | ⟨23, _⟩ => exact pm_23
    | ⟨24, _⟩ => exact pm_24
    | ⟨25, _⟩ => exact pm_25
    | ⟨26, _⟩ => exact pm_26
    | ⟨27, _⟩ => exact pm_27
    | ⟨28, _⟩ => exact pm_28
    | ⟨29, _⟩ => exact pm_29
    | ⟨30, _⟩ => exact pm_30
    | ⟨31, _⟩ => exact pm_31
    | ⟨32, _⟩ => exact pm_32
    | ⟨33, _⟩ => exact pm_33
    | ⟨34, _⟩ => exact pm_34
    | ⟨35, _⟩ => exact pm_35
    | ⟨36, _⟩ => exact pm_36
    | ⟨37, _⟩ => exact pm_37
    | ⟨38, _⟩ => exact pm_38
    | ⟨39, _⟩ => exact pm_39
    | ⟨40, _⟩ => exact pm_40
    | ⟨41, _⟩ => exact pm_41
    | ⟨42, _⟩ => exact pm_42
    | ⟨43, _⟩ => exact pm_43
    | ⟨k + 44, h⟩ => exact absurd h (by omega)
  · exact pm_no h
theorem rprim_any (s : ByteArray) : RmC s := by
  rcases pm_cases s with ⟨k, rfl⟩ | h
  · match k with
    | ⟨0, _⟩ => exact rm_0
    | ⟨1, _⟩ => exact rm_1
    | ⟨2, _⟩ => exact rm_2
    | ⟨3, _⟩ => exact rm_3
    | ⟨4, _⟩ => exact rm_4
    | ⟨5, _⟩ => exact rm_5
    | ⟨6, _⟩ => exact rm_6
    | ⟨7, _⟩ => exact rm_7
    | ⟨8, _⟩ => exact rm_8
    | ⟨9, _⟩ => exact rm_9
    | ⟨10, _⟩ => exact rm_10
    | ⟨11, _⟩ => exact rm_11
    | ⟨12, _⟩ => exact rm_12
    | ⟨13, _⟩ => exact rm_13
    | ⟨14, _⟩ => exact rm_14
    | ⟨15, _⟩ => exact rm_15
    | ⟨16, _⟩ => exact rm_16
    | ⟨17, _⟩ => exact rm_17
    | ⟨18, _⟩ => exact rm_18
    | ⟨19, _⟩ => exact rm_19
    | ⟨20, _⟩ => exact rm_20
    | ⟨21, _⟩ => exact rm_21
    | ⟨22, _⟩ => exact rm_22
    | ⟨23, _⟩ => exact rm_23
    | ⟨24, _⟩ => exact rm_24
    | ⟨25, _⟩ => exact rm_25
    | ⟨26, _⟩ => exact rm_26
    | ⟨27, _⟩ => exact rm_27
    | ⟨28, _⟩ => exact rm_28
    | ⟨29, _⟩ => exact rm_29
    | ⟨30, _⟩ => exact rm_30
    | ⟨31, _⟩ => exact rm_31
    | ⟨32, _⟩ => exact rm_32
    | ⟨33, _⟩ => exact rm_33
    | ⟨34, _⟩ => exact rm_34
    | ⟨35, _⟩ => exact rm_35
    | ⟨36, _⟩ => exact rm_36
    | ⟨37, _⟩ => exact rm_37
    | ⟨38, _⟩ => exact rm_38
    | ⟨39, _⟩ => exact rm_39
    | ⟨40, _⟩ => exact rm_40
    | ⟨41, _⟩ => exact rm_41
    | ⟨42, _⟩ => exact rm_42
    | ⟨43, _⟩ => exact rm_43
    | ⟨k + 44, h⟩ => exact absurd h (by omega)
  · exact rm_no h
end Go.Proofs.YtbhpjakjlfkfiaaGreatDoor
namespace Go.Proofs.YtbhpjakjlfkfiaaGreatDoor
open Go.RowKit Go.Lib
set_option linter.unusedSimpArgs false
set_option linter.unusedVariables false
structure PrO (p : Pr) (k : Nat) : Prop where
  c : PrC p
  ok : ∀ d l ls, p.cy d l = .ok ls → ls.length = k
  er : ∀ d l n, p.cy d l = .error n → n ≠ 16
  ef : pmR p.name = ((p.ks.length : Int), (k : Int), true)
  lo : k ≤ 3
theorem one_ok {r : Except Int Vt} {ls : List Vt} (h : oneR r = .ok ls) : ls.length = 1 := by
  cases r with
  | error n => cases h
  | ok t => cases h; rfl
theorem one_er {r : Except Int Vt} {n : Int} (h : oneR r = .error n) : r = .error n := by
  cases r with
  | error n => cases h; rfl
  | ok t => cases h
theorem nm_er {rk : Int → Int → Int × Int} {a b n : Int} (h : nmR rk a b = .error n) (h16 : (rk a b).2 ≠ 16) : n ≠ 16 := by
  unfold nmR at h
  split at h
  · cases h
  · cases h; exact h16
theorem ar16 (op a b : Int) : arE op a b ≠ 16 := by
  unfold arE
  (repeat' split) <;> omega
theorem jn_er {x y : Vt} {n : Int} (h : jnR x y = .error n) : n ≠ 16 := by
  unfold jnR at h
  split at h
  · split at h <;> cases h
  · cases h; decide
theorem pc_er {a b : Int} {x : Vt} {n : Int} (h : pcR a b x = .error n) : n ≠ 16 := by
  unfold pcR at h
  split at h <;> split at h <;> cases h <;> decide
theorem nt_er {a : Int} {x : Vt} {n : Int} (h : ntR a x = .error n) : n ≠ 16 := by
  unfold ntR at h
  split at h
  · rename_i n' e
    cases h
    exact pc_er e
  · split at h <;> cases h
theorem nu_er {d : Nat} {l : List Vt} {n : Int} (h : nuR d l = .error n) : n ≠ 16 := by
  unfold nuR at h
  split at h
  · cases h
  · cases h
    rcases num_cases (l.getD 0 zT).s with e | e | e <;> rw [e] <;> decide
theorem un_ok {l ls : List Vt} (h : unR l = .ok ls) : ls.length = 2 := by
  unfold unR at h
  split at h
  · split at h
    · cases h; assumption
    · cases h
  · cases h
theorem un_er {l : List Vt} {n : Int} (h : unR l = .error n) : n ≠ 16 := by
  unfold unR at h
  split at h
  · split at h
    · cases h
    · cases h; decide
  · cases h; decide
def q0 : Pr := ⟨⟨#[100, 117, 112]⟩, [63], fun _ l => .ok (lsR [0, 0] l)⟩
theorem o0 : PrO q0 2 := ⟨⟨wt_0, cy_mv mv_0 (by decide) (by decide) (by decide), by decide, by decide⟩, fun d l ls h => (by cases h; rfl), fun d l n h => (by cases h), by kernel_rfl, by decide⟩
def q1 : Pr := ⟨⟨#[100, 114, 111, 112]⟩, [63], fun _ l => .ok (lsR [] l)⟩
theorem o1 : PrO q1 0 := ⟨⟨wt_1, cy_mv mv_1 (by decide) (by decide) (by decide), by decide, by decide⟩, fun d l ls h => (by cases h; rfl), fun d l n h => (by cases h), by kernel_rfl, by decide⟩
def q2 : Pr := ⟨⟨#[115, 119, 97, 112]⟩, [63, 63], fun _ l => .ok (lsR [1, 0] l)⟩
theorem o2 : PrO q2 2 := ⟨⟨wt_2, cy_mv mv_2 (by decide) (by decide) (by decide), by decide, by decide⟩, fun d l ls h => (by cases h; rfl), fun d l n h => (by cases h), by kernel_rfl, by decide⟩
def q3 : Pr := ⟨⟨#[111, 118, 101, 114]⟩, [63, 63], fun _ l => .ok (lsR [0, 1, 0] l)⟩
theorem o3 : PrO q3 3 := ⟨⟨wt_3, cy_mv mv_3 (by decide) (by decide) (by decide), by decide, by decide⟩, fun d l ls h => (by cases h; rfl), fun d l n h => (by cases h), by kernel_rfl, by decide⟩
def q4 : Pr := ⟨⟨#[114, 111, 116]⟩, [63, 63, 63], fun _ l => .ok (lsR [1, 2, 0] l)⟩
theorem o4 : PrO q4 3 := ⟨⟨wt_4, cy_mv mv_4 (by decide) (by decide) (by decide), by decide, by decide⟩, fun d l ls h => (by cases h; rfl), fun d l n h => (by cases h), by kernel_rfl, by decide⟩
def q5 : Pr := ⟨⟨#[110, 105, 112]⟩, [63, 63], fun _ l => .ok (lsR [1] l)⟩
theorem o5 : PrO q5 1 := ⟨⟨wt_5, cy_mv mv_5 (by decide) (by decide) (by decide), by decide, by decide⟩, fun d l ls h => (by cases h; rfl), fun d l n h => (by cases h), by kernel_rfl, by decide⟩
def q6 : Pr := ⟨⟨#[116, 117, 99, 107]⟩, [63, 63], fun _ l => .ok (lsR [1, 0, 1] l)⟩
theorem o6 : PrO q6 3 := ⟨⟨wt_6, cy_mv mv_6 (by decide) (by decide) (by decide), by decide, by decide⟩, fun d l ls h => (by cases h; rfl), fun d l n h => (by cases h), by kernel_rfl, by decide⟩
def q7 : Pr := ⟨⟨#[43]⟩, [1, 1], fun _ l => oneR (nmR (arK 43) (l.getD 0 zT).n (l.getD 1 zT).n)⟩
theorem o7 : PrO q7 1 := ⟨⟨wt_7, cy_md mn_7 (by kernel_rfl) md_add, by decide, by decide⟩, fun d l ls h => one_ok (r := (nmR (arK 43) (l.getD 0 zT).n (l.getD 1 zT).n)) h, fun d l n h => nm_er (one_er (r := (nmR (arK 43) (l.getD 0 zT).n (l.getD 1 zT).n)) h) (ar16 _ _ _), by kernel_rfl, by decide⟩
def q8 : Pr := ⟨⟨#[45]⟩, [1, 1], fun _ l => oneR (nmR (arK 45) (l.getD 0 zT).n (l.getD 1 zT).n)⟩
theorem o8 : PrO q8 1 := ⟨⟨wt_8, cy_md mn_8 (by kernel_rfl) md_sub, by decide, by decide⟩, fun d l ls h => one_ok (r := (nmR (arK 45) (l.getD 0 zT).n (l.getD 1 zT).n)) h, fun d l n h => nm_er (one_er (r := (nmR (arK 45) (l.getD 0 zT).n (l.getD 1 zT).n)) h) (ar16 _ _ _), by kernel_rfl, by decide⟩
def q9 : Pr := ⟨⟨#[42]⟩, [1, 1], fun _ l => oneR (nmR (arK 42) (l.getD 0 zT).n (l.getD 1 zT).n)⟩
theorem o9 : PrO q9 1 := ⟨⟨wt_9, cy_md mn_9 (by kernel_rfl) md_mul, by decide, by decide⟩, fun d l ls h => one_ok (r := (nmR (arK 42) (l.getD 0 zT).n (l.getD 1 zT).n)) h, fun d l n h => nm_er (one_er (r := (nmR (arK 42) (l.getD 0 zT).n (l.getD 1 zT).n)) h) (ar16 _ _ _), by kernel_rfl, by decide⟩
def q10 : Pr := ⟨⟨#[47]⟩, [1, 1], fun _ l => oneR (nmR (arK 47) (l.getD 0 zT).n (l.getD 1 zT).n)⟩
theorem o10 : PrO q10 1 := ⟨⟨wt_10, cy_md mn_10 (by kernel_rfl) md_div, by decide, by decide⟩, fun d l ls h => one_ok (r := (nmR (arK 47) (l.getD 0 zT).n (l.getD 1 zT).n)) h, fun d l n h => nm_er (one_er (r := (nmR (arK 47) (l.getD 0 zT).n (l.getD 1 zT).n)) h) (ar16 _ _ _), by kernel_rfl, by decide⟩
def q11 : Pr := ⟨⟨#[109, 111, 100]⟩, [1, 1], fun _ l => oneR (nmR (arK 37) (l.getD 0 zT).n (l.getD 1 zT).n)⟩
theorem o11 : PrO q11 1 := ⟨⟨wt_11, cy_md mn_11 (by kernel_rfl) md_mod, by decide, by decide⟩, fun d l ls h => one_ok (r := (nmR (arK 37) (l.getD 0 zT).n (l.getD 1 zT).n)) h, fun d l n h => nm_er (one_er (r := (nmR (arK 37) (l.getD 0 zT).n (l.getD 1 zT).n)) h) (ar16 _ _ _), by kernel_rfl, by decide⟩
def q12 : Pr := ⟨⟨#[110, 101, 103]⟩, [1], fun _ l => oneR (nmR ngK (l.getD 0 zT).n (l.getD 0 zT).n)⟩
theorem o12 : PrO q12 1 := ⟨⟨wt_12, cy_md mn_12 (by kernel_rfl) md_neg, by decide, by decide⟩, fun d l ls h => one_ok (r := (nmR ngK (l.getD 0 zT).n (l.getD 0 zT).n)) h, fun d l n h => nm_er (one_er (r := (nmR ngK (l.getD 0 zT).n (l.getD 0 zT).n)) h) (ar16 _ _ _), by kernel_rfl, by decide⟩
def q13 : Pr := ⟨⟨#[97, 98, 115]⟩, [1], fun _ l => oneR (nmR abK (l.getD 0 zT).n (l.getD 0 zT).n)⟩
theorem o13 : PrO q13 1 := ⟨⟨wt_13, cy_md mn_13 (by kernel_rfl) md_abs, by decide, by decide⟩, fun d l ls h => one_ok (r := (nmR abK (l.getD 0 zT).n (l.getD 0 zT).n)) h, fun d l n h => nm_er (one_er (r := (nmR abK (l.getD 0 zT).n (l.getD 0 zT).n)) h) (by unfold abK; split; exact ar16 _ _ _; (show (0 : Int) ≠ 16; decide)), by kernel_rfl, by decide⟩
def q14 : Pr := ⟨⟨#[109, 105, 110]⟩, [1, 1], fun _ l => oneR (nmR miK (l.getD 0 zT).n (l.getD 1 zT).n)⟩
theorem o14 : PrO q14 1 := ⟨⟨wt_14, cy_md mn_14 (by kernel_rfl) md_min, by decide, by decide⟩, fun d l ls h => one_ok (r := (nmR miK (l.getD 0 zT).n (l.getD 1 zT).n)) h, fun d l n h => nm_er (one_er (r := (nmR miK (l.getD 0 zT).n (l.getD 1 zT).n)) h) (by show (0 : Int) ≠ 16; decide), by kernel_rfl, by decide⟩
def q15 : Pr := ⟨⟨#[109, 97, 120]⟩, [1, 1], fun _ l => oneR (nmR maK (l.getD 0 zT).n (l.getD 1 zT).n)⟩
theorem o15 : PrO q15 1 := ⟨⟨wt_15, cy_md mn_15 (by kernel_rfl) md_max, by decide, by decide⟩, fun d l ls h => one_ok (r := (nmR maK (l.getD 0 zT).n (l.getD 1 zT).n)) h, fun d l n h => nm_er (one_er (r := (nmR maK (l.getD 0 zT).n (l.getD 1 zT).n)) h) (by show (0 : Int) ≠ 16; decide), by kernel_rfl, by decide⟩
def q16 : Pr := ⟨⟨#[60]⟩, [1, 1], fun _ l => oneR (.ok (boT (decide ((l.getD 0 zT).n < (l.getD 1 zT).n))))⟩
theorem o16 : PrO q16 1 := ⟨⟨wt_16, cy_md mn_16 (by kernel_rfl) (mh_lt ho_lt), by decide, by decide⟩, fun d l ls h => one_ok (r := (.ok (boT (decide ((l.getD 0 zT).n < (l.getD 1 zT).n))))) h, fun d l n h => (by cases (one_er (r := (.ok (boT (decide ((l.getD 0 zT).n < (l.getD 1 zT).n))))) h)), by kernel_rfl, by decide⟩
def q17 : Pr := ⟨⟨#[62]⟩, [1, 1], fun _ l => oneR (.ok (boT (decide ((l.getD 0 zT).n > (l.getD 1 zT).n))))⟩
theorem o17 : PrO q17 1 := ⟨⟨wt_17, cy_md mn_17 (by kernel_rfl) (mh_gt ho_gt), by decide, by decide⟩, fun d l ls h => one_ok (r := (.ok (boT (decide ((l.getD 0 zT).n > (l.getD 1 zT).n))))) h, fun d l n h => (by cases (one_er (r := (.ok (boT (decide ((l.getD 0 zT).n > (l.getD 1 zT).n))))) h)), by kernel_rfl, by decide⟩
def q18 : Pr := ⟨⟨#[61]⟩, [63, 63], fun d l => oneR (eqR d l)⟩
theorem o18 : PrO q18 1 := ⟨⟨wt_18, cy_md mn_18 (by kernel_rfl) md_eq, by decide, by decide⟩, fun d l ls h => one_ok (r := (eqR d l)) h, fun d l n h => (by cases (one_er (r := (eqR d l)) h)), by kernel_rfl, by decide⟩
def q19 : Pr := ⟨⟨#[97, 110, 100]⟩, [4, 4], fun _ l => oneR (.ok (boT (flB (l.getD 0 zT) && flB (l.getD 1 zT))))⟩
theorem o19 : PrO q19 1 := ⟨⟨wt_19, cy_md mn_19 (by kernel_rfl) (mh_and ho_and), by decide, by decide⟩, fun d l ls h => one_ok (r := (.ok (boT (flB (l.getD 0 zT) && flB (l.getD 1 zT))))) h, fun d l n h => (by cases (one_er (r := (.ok (boT (flB (l.getD 0 zT) && flB (l.getD 1 zT))))) h)), by kernel_rfl, by decide⟩
def q20 : Pr := ⟨⟨#[111, 114]⟩, [4, 4], fun _ l => oneR (.ok (boT (flB (l.getD 0 zT) || flB (l.getD 1 zT))))⟩
theorem o20 : PrO q20 1 := ⟨⟨wt_20, cy_md mn_20 (by kernel_rfl) (mh_or ho_or), by decide, by decide⟩, fun d l ls h => one_ok (r := (.ok (boT (flB (l.getD 0 zT) || flB (l.getD 1 zT))))) h, fun d l n h => (by cases (one_er (r := (.ok (boT (flB (l.getD 0 zT) || flB (l.getD 1 zT))))) h)), by kernel_rfl, by decide⟩
def q21 : Pr := ⟨⟨#[110, 111, 116]⟩, [4], fun _ l => oneR (.ok (boT (!flB (l.getD 0 zT))))⟩
theorem o21 : PrO q21 1 := ⟨⟨wt_21, cy_md mn_21 (by kernel_rfl) (mh_not ho_not), by decide, by decide⟩, fun d l ls h => one_ok (r := (.ok (boT (!flB (l.getD 0 zT))))) h, fun d l n h => (by cases (one_er (r := (.ok (boT (!flB (l.getD 0 zT))))) h)), by kernel_rfl, by decide⟩
def q22 : Pr := ⟨⟨#[105, 110, 116, 63]⟩, [63], fun _ l => oneR (.ok (boT (kd (l.getD 0 zT) == 1)))⟩
theorem o22 : PrO q22 1 := ⟨⟨wt_22, cy_md mn_22 (by kernel_rfl) (mh_intQ ho_intQ), by decide, by decide⟩, fun d l ls h => one_ok (r := (.ok (boT (kd (l.getD 0 zT) == 1)))) h, fun d l n h => (by cases (one_er (r := (.ok (boT (kd (l.getD 0 zT) == 1)))) h)), by kernel_rfl, by decide⟩
def q23 : Pr := ⟨⟨#[115, 116, 114, 63]⟩, [63], fun _ l => oneR (.ok (boT (kd (l.getD 0 zT) == 2)))⟩
theorem o23 : PrO q23 1 := ⟨⟨wt_23, cy_md mn_23 (by kernel_rfl) (mh_strQ ho_strQ), by decide, by decide⟩, fun d l ls h => one_ok (r := (.ok (boT (kd (l.getD 0 zT) == 2)))) h, fun d l n h => (by cases (one_er (r := (.ok (boT (kd (l.getD 0 zT) == 2)))) h)), by kernel_rfl, by decide⟩
def q24 : Pr := ⟨⟨#[98, 111, 111, 108, 63]⟩, [63], fun _ l => oneR (.ok (boT (kd (l.getD 0 zT) == 4)))⟩
theorem o24 : PrO q24 1 := ⟨⟨wt_24, cy_md mn_24 (by kernel_rfl) (mh_boolQ ho_boolQ), by decide, by decide⟩, fun d l ls h => one_ok (r := (.ok (boT (kd (l.getD 0 zT) == 4)))) h, fun d l n h => (by cases (one_er (r := (.ok (boT (kd (l.getD 0 zT) == 4)))) h)), by kernel_rfl, by decide⟩
def q25 : Pr := ⟨⟨#[108, 105, 115, 116, 63]⟩, [63], fun _ l => oneR (.ok (boT (kd (l.getD 0 zT) == 8)))⟩
theorem o25 : PrO q25 1 := ⟨⟨wt_25, cy_md mn_25 (by kernel_rfl) (mh_listQ ho_listQ), by decide, by decide⟩, fun d l ls h => one_ok (r := (.ok (boT (kd (l.getD 0 zT) == 8)))) h, fun d l n h => (by cases (one_er (r := (.ok (boT (kd (l.getD 0 zT) == 8)))) h)), by kernel_rfl, by decide⟩
def q26 : Pr := ⟨⟨#[113, 117, 111, 116, 63]⟩, [63], fun _ l => oneR (.ok (boT (kd (l.getD 0 zT) == 16)))⟩
theorem o26 : PrO q26 1 := ⟨⟨wt_26, cy_md mn_26 (by kernel_rfl) (mh_quotQ ho_quotQ), by decide, by decide⟩, fun d l ls h => one_ok (r := (.ok (boT (kd (l.getD 0 zT) == 16)))) h, fun d l n h => (by cases (one_er (r := (.ok (boT (kd (l.getD 0 zT) == 16)))) h)), by kernel_rfl, by decide⟩
def q27 : Pr := ⟨⟨#[98, 111, 120, 63]⟩, [63], fun _ l => oneR (.ok (boT (kd (l.getD 0 zT) == 32)))⟩
theorem o27 : PrO q27 1 := ⟨⟨wt_27, cy_md mn_27 (by kernel_rfl) (mh_boxQ ho_boxQ), by decide, by decide⟩, fun d l ls h => one_ok (r := (.ok (boT (kd (l.getD 0 zT) == 32)))) h, fun d l n h => (by cases (one_er (r := (.ok (boT (kd (l.getD 0 zT) == 32)))) h)), by kernel_rfl, by decide⟩
def q28 : Pr := ⟨⟨#[108, 101, 110, 103, 116, 104]⟩, [26], fun _ l => oneR (.ok (inT (lnT (l.getD 0 zT))))⟩
theorem o28 : PrO q28 1 := ⟨⟨wt_28, cy_md mn_28 (by kernel_rfl) md_length, by decide, by decide⟩, fun d l ls h => one_ok (r := (.ok (inT (lnT (l.getD 0 zT))))) h, fun d l n h => (by cases (one_er (r := (.ok (inT (lnT (l.getD 0 zT))))) h)), by kernel_rfl, by decide⟩
def q29 : Pr := ⟨⟨#[97, 112, 112, 101, 110, 100]⟩, [26, 26], fun _ l => oneR (jnR (l.getD 0 zT) (l.getD 1 zT))⟩
theorem o29 : PrO q29 1 := ⟨⟨wt_29, cy_md mn_29 (by kernel_rfl) md_append, by decide, by decide⟩, fun d l ls h => one_ok (r := (jnR (l.getD 0 zT) (l.getD 1 zT))) h, fun d l n h => jn_er (one_er (r := (jnR (l.getD 0 zT) (l.getD 1 zT))) h), by kernel_rfl, by decide⟩
def q30 : Pr := ⟨⟨#[110, 116, 104]⟩, [1, 10], fun _ l => oneR (ntR (l.getD 0 zT).n (l.getD 1 zT))⟩
theorem o30 : PrO q30 1 := ⟨⟨wt_30, cy_md mn_30 (by kernel_rfl) md_nth, by decide, by decide⟩, fun d l ls h => one_ok (r := (ntR (l.getD 0 zT).n (l.getD 1 zT))) h, fun d l n h => nt_er (one_er (r := (ntR (l.getD 0 zT).n (l.getD 1 zT))) h), by kernel_rfl, by decide⟩
def q31 : Pr := ⟨⟨#[115, 108, 105, 99, 101]⟩, [1, 1, 10], fun _ l => oneR (pcR (l.getD 0 zT).n (l.getD 1 zT).n (l.getD 2 zT))⟩
theorem o31 : PrO q31 1 := ⟨⟨wt_31, cy_md mn_31 (by kernel_rfl) md_slice, by decide, by decide⟩, fun d l ls h => one_ok (r := (pcR (l.getD 0 zT).n (l.getD 1 zT).n (l.getD 2 zT))) h, fun d l n h => pc_er (one_er (r := (pcR (l.getD 0 zT).n (l.getD 1 zT).n (l.getD 2 zT))) h), by kernel_rfl, by decide⟩
def q32 : Pr := ⟨⟨#[119, 114, 97, 112]⟩, [63], fun _ l => oneR (.ok (lisT l))⟩
theorem o32 : PrO q32 1 := ⟨⟨wt_32, cy_md mn_32 (by kernel_rfl) md_wrap, by decide, by decide⟩, fun d l ls h => one_ok (r := (.ok (lisT l))) h, fun d l n h => (by cases (one_er (r := (.ok (lisT l))) h)), by kernel_rfl, by decide⟩
def q33 : Pr := ⟨⟨#[112, 97, 105, 114]⟩, [63, 63], fun _ l => oneR (.ok (lisT l))⟩
theorem o33 : PrO q33 1 := ⟨⟨wt_33, cy_md mn_33 (by kernel_rfl) md_pair, by decide, by decide⟩, fun d l ls h => one_ok (r := (.ok (lisT l))) h, fun d l n h => (by cases (one_er (r := (.ok (lisT l))) h)), by kernel_rfl, by decide⟩
def q34 : Pr := ⟨⟨#[117, 110, 112, 97, 105, 114]⟩, [8], fun _ => unR⟩
theorem o34 : PrO q34 2 := ⟨⟨wt_34, cy_unpair mn_34, by decide, by decide⟩, fun d l ls h => un_ok h, fun d l n h => un_er h, by kernel_rfl, by decide⟩
def q35 : Pr := ⟨⟨#[114, 101, 118, 101, 114, 115, 101]⟩, [10], fun _ l => oneR (.ok (rvT (l.getD 0 zT)))⟩
theorem o35 : PrO q35 1 := ⟨⟨wt_35, cy_md mn_35 (by kernel_rfl) md_reverse, by decide, by decide⟩, fun d l ls h => one_ok (r := (.ok (rvT (l.getD 0 zT)))) h, fun d l n h => (by cases (one_er (r := (.ok (rvT (l.getD 0 zT)))) h)), by kernel_rfl, by decide⟩
def q36 : Pr := ⟨⟨#[99, 117, 114, 114, 121]⟩, [63, 16], fun _ l => oneR (jnR (quoT [l.getD 0 zT]) (l.getD 1 zT))⟩
theorem o36 : PrO q36 1 := ⟨⟨wt_36, cy_md mn_36 (by kernel_rfl) md_curry, by decide, by decide⟩, fun d l ls h => one_ok (r := (jnR (quoT [l.getD 0 zT]) (l.getD 1 zT))) h, fun d l n h => jn_er (one_er (r := (jnR (quoT [l.getD 0 zT]) (l.getD 1 zT))) h), by kernel_rfl, by decide⟩
def q37 : Pr := ⟨⟨#[99, 111, 109, 112, 111, 115, 101]⟩, [16, 16], fun _ l => oneR (jnR (l.getD 0 zT) (l.getD 1 zT))⟩
theorem o37 : PrO q37 1 := ⟨⟨wt_37, cy_md mn_37 (by kernel_rfl) md_compose, by decide, by decide⟩, fun d l ls h => one_ok (r := (jnR (l.getD 0 zT) (l.getD 1 zT))) h, fun d l n h => jn_er (one_er (r := (jnR (l.getD 0 zT) (l.getD 1 zT))) h), by kernel_rfl, by decide⟩
def q38 : Pr := ⟨⟨#[62, 115, 116, 114]⟩, [63], fun d l => oneR (txR d l)⟩
theorem o38 : PrO q38 1 := ⟨⟨wt_38, cy_md mn_38 (by kernel_rfl) md_str, by decide, by decide⟩, fun d l ls h => one_ok (r := (txR d l)) h, fun d l n h => (by cases (one_er (r := (txR d l)) h)), by kernel_rfl, by decide⟩
def q39 : Pr := ⟨⟨#[62, 105, 110, 116]⟩, [2], fun d l => oneR (nuR d l)⟩
theorem o39 : PrO q39 1 := ⟨⟨wt_39, cy_md mn_39 (by kernel_rfl) md_int, by decide, by decide⟩, fun d l ls h => one_ok (r := (nuR d l)) h, fun d l n h => nu_er (one_er (r := (nuR d l)) h), by kernel_rfl, by decide⟩
theorem pr_k {p : Pr} {k : Nat} (h : PrO p k) : k ≤ 3 := h.lo
theorem pr_all {s : ByteArray} (h : s.toList ∈ tbL) : ∃ p k, p.name = s ∧ PrO p k := by
  have inj : ∀ {t : ByteArray}, s.toList = t.toList → t = s := fun h => by
    apply ByteArray.ext
    have := congrArg List.toArray h.symm
    simpa [ByteArray.toList_eq] using this
  unfold tbL at h
  simp only [List.mem_cons, List.not_mem_nil, or_false] at h
  rcases h with h | h | h | h | h | h | h | h | h | h | h | h | h | h | h | h | h | h | h | h | h | h | h | h | h | h | h | h | h | h | h | h | h | h | h | h | h | h | h | h
  · exact ⟨q0, _, inj (t := q0.name) (h.trans (by kernel_rfl)), o0⟩
  · exact ⟨q1, _, inj (t := q1.name) (h.trans (by kernel_rfl)), o1⟩
  · exact ⟨q2, _, inj (t := q2.name) (h.trans (by kernel_rfl)), o2⟩
  · exact ⟨q3, _, inj (t := q3.name) (h.trans (by kernel_rfl)), o3⟩
  · exact ⟨q4, _, inj (t := q4.name) (h.trans (by kernel_rfl)), o4⟩
  · exact ⟨q5, _, inj (t := q5.name) (h.trans (by kernel_rfl)), o5⟩
  · exact ⟨q6, _, inj (t := q6.name) (h.trans (by kernel_rfl)), o6⟩
  · exact ⟨q7, _, inj (t := q7.name) (h.trans (by kernel_rfl)), o7⟩
  · exact ⟨q8, _, inj (t := q8.name) (h.trans (by kernel_rfl)), o8⟩
  · exact ⟨q9, _, inj (t := q9.name) (h.trans (by kernel_rfl)), o9⟩
  · exact ⟨q10, _, inj (t := q10.name) (h.trans (by kernel_rfl)), o10⟩
  · exact ⟨q11, _, inj (t := q11.name) (h.trans (by kernel_rfl)), o11⟩
  · exact ⟨q12, _, inj (t := q12.name) (h.trans (by kernel_rfl)), o12⟩
  · exact ⟨q13, _, inj (t := q13.name) (h.trans (by kernel_rfl)), o13⟩
  · exact ⟨q14, _, inj (t := q14.name) (h.trans (by kernel_rfl)), o14⟩
  · exact ⟨q15, _, inj (t := q15.name) (h.trans (by kernel_rfl)), o15⟩
  · exact ⟨q16, _, inj (t := q16.name) (h.trans (by kernel_rfl)), o16⟩
  · exact ⟨q17, _, inj (t := q17.name) (h.trans (by kernel_rfl)), o17⟩
  · exact ⟨q18, _, inj (t := q18.name) (h.trans (by kernel_rfl)), o18⟩
  · exact ⟨q19, _, inj (t := q19.name) (h.trans (by kernel_rfl)), o19⟩
  · exact ⟨q20, _, inj (t := q20.name) (h.trans (by kernel_rfl)), o20⟩
  · exact ⟨q21, _, inj (t := q21.name) (h.trans (by kernel_rfl)), o21⟩
  · exact ⟨q22, _, inj (t := q22.name) (h.trans (by kernel_rfl)), o22⟩
  · exact ⟨q23, _, inj (t := q23.name) (h.trans (by kernel_rfl)), o23⟩
  · exact ⟨q24, _, inj (t := q24.name) (h.trans (by kernel_rfl)), o24⟩
  · exact ⟨q25, _, inj (t := q25.name) (h.trans (by kernel_rfl)), o25⟩
  · exact ⟨q26, _, inj (t := q26.name) (h.trans (by kernel_rfl)), o26⟩
  · exact ⟨q27, _, inj (t := q27.name) (h.trans (by kernel_rfl)), o27⟩
  · exact ⟨q28, _, inj (t := q28.name) (h.trans (by kernel_rfl)), o28⟩
  · exact ⟨q29, _, inj (t := q29.name) (h.trans (by kernel_rfl)), o29⟩
  · exact ⟨q30, _, inj (t := q30.name) (h.trans (by kernel_rfl)), o30⟩
  · exact ⟨q31, _, inj (t := q31.name) (h.trans (by kernel_rfl)), o31⟩
  · exact ⟨q32, _, inj (t := q32.name) (h.trans (by kernel_rfl)), o32⟩
  · exact ⟨q33, _, inj (t := q33.name) (h.trans (by kernel_rfl)), o33⟩
  · exact ⟨q34, _, inj (t := q34.name) (h.trans (by kernel_rfl)), o34⟩
  · exact ⟨q35, _, inj (t := q35.name) (h.trans (by kernel_rfl)), o35⟩
  · exact ⟨q36, _, inj (t := q36.name) (h.trans (by kernel_rfl)), o36⟩
  · exact ⟨q37, _, inj (t := q37.name) (h.trans (by kernel_rfl)), o37⟩
  · exact ⟨q38, _, inj (t := q38.name) (h.trans (by kernel_rfl)), o38⟩
  · exact ⟨q39, _, inj (t := q39.name) (h.trans (by kernel_rfl)), o39⟩
end Go.Proofs.YtbhpjakjlfkfiaaGreatDoor
