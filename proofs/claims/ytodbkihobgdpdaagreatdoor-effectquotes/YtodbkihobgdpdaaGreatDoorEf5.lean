/- Primitives: all. -/
import Derived.Test.YtodbkihobgdpdaaGreatDoorEf3a
import Derived.Test.YtodbkihobgdpdaaGreatDoorEf4a
import Derived.Test.YtodbkihobgdpdaaGreatDoorEf3b
import Derived.Test.YtodbkihobgdpdaaGreatDoorEf4b
import Derived.Test.YtodbkihobgdpdaaGreatDoorEf3c
import Derived.Test.YtodbkihobgdpdaaGreatDoorEf4c
import Derived.Test.YtodbkihobgdpdaaGreatDoorEf3d
import Derived.Test.YtodbkihobgdpdaaGreatDoorEf4d
import Derived.Test.YtodbkihobgdpdaaGreatDoorEf3e
import Derived.Test.YtodbkihobgdpdaaGreatDoorEf4e
import Derived.Test.YtodbkihobgdpdaaGreatDoorEf3f
import Derived.Test.YtodbkihobgdpdaaGreatDoorEf4f
namespace Go.Proofs.YtodbkihobgdpdaaGreatDoor
open Go.RowKit
set_option linter.unusedSimpArgs false
set_option linter.unusedVariables false
theorem pm_cases (s : ByteArray) : (∃ k : Fin 44, s = ⟨(pmL[k.1]'(k.2)).1.toArray⟩) ∨ ∀ (k : Nat) (h : k < 44), s.toList ≠ (pmL[k]'h).1 := by
  by_cases h : ∃ k : Fin 44, s.toList = (pmL[k.1]'(k.2)).1
  · obtain ⟨k, hk⟩ := h
    exact .inl ⟨k, to_lit hk⟩
  · exact .inr fun k hk e => h ⟨⟨k, hk⟩, e⟩
theorem pm_none {s : ByteArray} (hn : ∀ (k : Nat) (h : k < 44), s.toList ≠ (pmL[k]'h).1) : pmR s = (0, 0, false) :=
  pmF_no _ _ fun x hx => by
    obtain ⟨k, hk, rfl⟩ := List.getElem_of_mem hx
    exact hn k hk
set_option maxRecDepth 100000 in
set_option maxHeartbeats 4000000 in
theorem pm_no {s : ByteArray} (hn : ∀ (k : Nat) (h : k < 44), s.toList ≠ (pmL[k]'h).1) : PmC s := by
  intro w
  rw [pm_none hn]
  have n0 : (s.toList == [100, 114, 111, 112]) = false := beq_false_of_ne (show s.toList ≠ [100, 114, 111, 112] from hn 0 (by decide))
  have n1 : (s.toList == [46]) = false := beq_false_of_ne (show s.toList ≠ [46] from hn 1 (by decide))
  have n2 : (s.toList == [110, 101, 103]) = false := beq_false_of_ne (show s.toList ≠ [110, 101, 103] from hn 2 (by decide))
  have n3 : (s.toList == [97, 98, 115]) = false := beq_false_of_ne (show s.toList ≠ [97, 98, 115] from hn 3 (by decide))
  have n4 : (s.toList == [110, 111, 116]) = false := beq_false_of_ne (show s.toList ≠ [110, 111, 116] from hn 4 (by decide))
  have n5 : (s.toList == [105, 110, 116, 63]) = false := beq_false_of_ne (show s.toList ≠ [105, 110, 116, 63] from hn 5 (by decide))
  have n6 : (s.toList == [115, 116, 114, 63]) = false := beq_false_of_ne (show s.toList ≠ [115, 116, 114, 63] from hn 6 (by decide))
  have n7 : (s.toList == [98, 111, 111, 108, 63]) = false := beq_false_of_ne (show s.toList ≠ [98, 111, 111, 108, 63] from hn 7 (by decide))
  have n8 : (s.toList == [108, 105, 115, 116, 63]) = false := beq_false_of_ne (show s.toList ≠ [108, 105, 115, 116, 63] from hn 8 (by decide))
  have n9 : (s.toList == [113, 117, 111, 116, 63]) = false := beq_false_of_ne (show s.toList ≠ [113, 117, 111, 116, 63] from hn 9 (by decide))
  have n10 : (s.toList == [98, 111, 120, 63]) = false := beq_false_of_ne (show s.toList ≠ [98, 111, 120, 63] from hn 10 (by decide))
  have n11 : (s.toList == [108, 101, 110, 103, 116, 104]) = false := beq_false_of_ne (show s.toList ≠ [108, 101, 110, 103, 116, 104] from hn 11 (by decide))
  have n12 : (s.toList == [119, 114, 97, 112]) = false := beq_false_of_ne (show s.toList ≠ [119, 114, 97, 112] from hn 12 (by decide))
  have n13 : (s.toList == [114, 101, 118, 101, 114, 115, 101]) = false := beq_false_of_ne (show s.toList ≠ [114, 101, 118, 101, 114, 115, 101] from hn 13 (by decide))
  have n14 : (s.toList == [62, 115, 116, 114]) = false := beq_false_of_ne (show s.toList ≠ [62, 115, 116, 114] from hn 14 (by decide))
  have n15 : (s.toList == [62, 105, 110, 116]) = false := beq_false_of_ne (show s.toList ≠ [62, 105, 110, 116] from hn 15 (by decide))
  have n16 : (s.toList == [98, 111, 120]) = false := beq_false_of_ne (show s.toList ≠ [98, 111, 120] from hn 16 (by decide))
  have n17 : (s.toList == [103, 101, 116]) = false := beq_false_of_ne (show s.toList ≠ [103, 101, 116] from hn 17 (by decide))
  have n18 : (s.toList == [100, 117, 112]) = false := beq_false_of_ne (show s.toList ≠ [100, 117, 112] from hn 18 (by decide))
  have n19 : (s.toList == [117, 110, 112, 97, 105, 114]) = false := beq_false_of_ne (show s.toList ≠ [117, 110, 112, 97, 105, 114] from hn 19 (by decide))
  have n20 : (s.toList == [112, 117, 116]) = false := beq_false_of_ne (show s.toList ≠ [112, 117, 116] from hn 20 (by decide))
  have n21 : (s.toList == [110, 105, 112]) = false := beq_false_of_ne (show s.toList ≠ [110, 105, 112] from hn 21 (by decide))
  have n22 : (s.toList == [43]) = false := beq_false_of_ne (show s.toList ≠ [43] from hn 22 (by decide))
  have n23 : (s.toList == [45]) = false := beq_false_of_ne (show s.toList ≠ [45] from hn 23 (by decide))
  have n24 : (s.toList == [42]) = false := beq_false_of_ne (show s.toList ≠ [42] from hn 24 (by decide))
  have n25 : (s.toList == [47]) = false := beq_false_of_ne (show s.toList ≠ [47] from hn 25 (by decide))
  have n26 : (s.toList == [109, 111, 100]) = false := beq_false_of_ne (show s.toList ≠ [109, 111, 100] from hn 26 (by decide))
  have n27 : (s.toList == [109, 105, 110]) = false := beq_false_of_ne (show s.toList ≠ [109, 105, 110] from hn 27 (by decide))
  have n28 : (s.toList == [109, 97, 120]) = false := beq_false_of_ne (show s.toList ≠ [109, 97, 120] from hn 28 (by decide))
  have n29 : (s.toList == [60]) = false := beq_false_of_ne (show s.toList ≠ [60] from hn 29 (by decide))
  have n30 : (s.toList == [62]) = false := beq_false_of_ne (show s.toList ≠ [62] from hn 30 (by decide))
  have n31 : (s.toList == [61]) = false := beq_false_of_ne (show s.toList ≠ [61] from hn 31 (by decide))
  have n32 : (s.toList == [97, 110, 100]) = false := beq_false_of_ne (show s.toList ≠ [97, 110, 100] from hn 32 (by decide))
  have n33 : (s.toList == [111, 114]) = false := beq_false_of_ne (show s.toList ≠ [111, 114] from hn 33 (by decide))
  have n34 : (s.toList == [97, 112, 112, 101, 110, 100]) = false := beq_false_of_ne (show s.toList ≠ [97, 112, 112, 101, 110, 100] from hn 34 (by decide))
  have n35 : (s.toList == [110, 116, 104]) = false := beq_false_of_ne (show s.toList ≠ [110, 116, 104] from hn 35 (by decide))
  have n36 : (s.toList == [112, 97, 105, 114]) = false := beq_false_of_ne (show s.toList ≠ [112, 97, 105, 114] from hn 36 (by decide))
  have n37 : (s.toList == [99, 117, 114, 114, 121]) = false := beq_false_of_ne (show s.toList ≠ [99, 117, 114, 114, 121] from hn 37 (by decide))
  have n38 : (s.toList == [99, 111, 109, 112, 111, 115, 101]) = false := beq_false_of_ne (show s.toList ≠ [99, 111, 109, 112, 111, 115, 101] from hn 38 (by decide))
  have n39 : (s.toList == [115, 119, 97, 112]) = false := beq_false_of_ne (show s.toList ≠ [115, 119, 97, 112] from hn 39 (by decide))
  have n40 : (s.toList == [111, 118, 101, 114]) = false := beq_false_of_ne (show s.toList ≠ [111, 118, 101, 114] from hn 40 (by decide))
  have n41 : (s.toList == [116, 117, 99, 107]) = false := beq_false_of_ne (show s.toList ≠ [116, 117, 99, 107] from hn 41 (by decide))
  have n42 : (s.toList == [115, 108, 105, 99, 101]) = false := beq_false_of_ne (show s.toList ≠ [115, 108, 105, 99, 101] from hn 42 (by decide))
  have n43 : (s.toList == [114, 111, 116]) = false := beq_false_of_ne (show s.toList ≠ [114, 111, 116] from hn 43 (by decide))
  clear hn
  go_enter Tryz.func16, Tryz.ntmps16
  go_wp2_with fail
  have hq : TwC (w.alloc (.cells #[.int .i64 0, .int .i64 0] 30)) w.heap.size 0 0 := ealloc_at _ _ _ rfl
  obtain ⟨q0, q1, _, _⟩ := hq.cells
  refine bodyPost_ret (results_eff rfl _ _ w.heap.size q0 q1 rfl) rfl ?_
  exact ⟨rfl, (Only.refl _ w).alloc _⟩
set_option maxRecDepth 100000 in
set_option maxHeartbeats 4000000 in
theorem rm_no {s : ByteArray} (hn : ∀ (k : Nat) (h : k < 44), s.toList ≠ (pmL[k]'h).1) : RmC s := by
  intro w
  rw [pm_none hn]
  have n0 : (s.toList == [100, 114, 111, 112]) = false := beq_false_of_ne (show s.toList ≠ [100, 114, 111, 112] from hn 0 (by decide))
  have n1 : (s.toList == [46]) = false := beq_false_of_ne (show s.toList ≠ [46] from hn 1 (by decide))
  have n2 : (s.toList == [110, 101, 103]) = false := beq_false_of_ne (show s.toList ≠ [110, 101, 103] from hn 2 (by decide))
  have n3 : (s.toList == [97, 98, 115]) = false := beq_false_of_ne (show s.toList ≠ [97, 98, 115] from hn 3 (by decide))
  have n4 : (s.toList == [110, 111, 116]) = false := beq_false_of_ne (show s.toList ≠ [110, 111, 116] from hn 4 (by decide))
  have n5 : (s.toList == [105, 110, 116, 63]) = false := beq_false_of_ne (show s.toList ≠ [105, 110, 116, 63] from hn 5 (by decide))
  have n6 : (s.toList == [115, 116, 114, 63]) = false := beq_false_of_ne (show s.toList ≠ [115, 116, 114, 63] from hn 6 (by decide))
  have n7 : (s.toList == [98, 111, 111, 108, 63]) = false := beq_false_of_ne (show s.toList ≠ [98, 111, 111, 108, 63] from hn 7 (by decide))
  have n8 : (s.toList == [108, 105, 115, 116, 63]) = false := beq_false_of_ne (show s.toList ≠ [108, 105, 115, 116, 63] from hn 8 (by decide))
  have n9 : (s.toList == [113, 117, 111, 116, 63]) = false := beq_false_of_ne (show s.toList ≠ [113, 117, 111, 116, 63] from hn 9 (by decide))
  have n10 : (s.toList == [98, 111, 120, 63]) = false := beq_false_of_ne (show s.toList ≠ [98, 111, 120, 63] from hn 10 (by decide))
  have n11 : (s.toList == [108, 101, 110, 103, 116, 104]) = false := beq_false_of_ne (show s.toList ≠ [108, 101, 110, 103, 116, 104] from hn 11 (by decide))
  have n12 : (s.toList == [119, 114, 97, 112]) = false := beq_false_of_ne (show s.toList ≠ [119, 114, 97, 112] from hn 12 (by decide))
  have n13 : (s.toList == [114, 101, 118, 101, 114, 115, 101]) = false := beq_false_of_ne (show s.toList ≠ [114, 101, 118, 101, 114, 115, 101] from hn 13 (by decide))
  have n14 : (s.toList == [62, 115, 116, 114]) = false := beq_false_of_ne (show s.toList ≠ [62, 115, 116, 114] from hn 14 (by decide))
  have n15 : (s.toList == [62, 105, 110, 116]) = false := beq_false_of_ne (show s.toList ≠ [62, 105, 110, 116] from hn 15 (by decide))
  have n16 : (s.toList == [98, 111, 120]) = false := beq_false_of_ne (show s.toList ≠ [98, 111, 120] from hn 16 (by decide))
  have n17 : (s.toList == [103, 101, 116]) = false := beq_false_of_ne (show s.toList ≠ [103, 101, 116] from hn 17 (by decide))
  have n18 : (s.toList == [100, 117, 112]) = false := beq_false_of_ne (show s.toList ≠ [100, 117, 112] from hn 18 (by decide))
  have n19 : (s.toList == [117, 110, 112, 97, 105, 114]) = false := beq_false_of_ne (show s.toList ≠ [117, 110, 112, 97, 105, 114] from hn 19 (by decide))
  have n20 : (s.toList == [112, 117, 116]) = false := beq_false_of_ne (show s.toList ≠ [112, 117, 116] from hn 20 (by decide))
  have n21 : (s.toList == [110, 105, 112]) = false := beq_false_of_ne (show s.toList ≠ [110, 105, 112] from hn 21 (by decide))
  have n22 : (s.toList == [43]) = false := beq_false_of_ne (show s.toList ≠ [43] from hn 22 (by decide))
  have n23 : (s.toList == [45]) = false := beq_false_of_ne (show s.toList ≠ [45] from hn 23 (by decide))
  have n24 : (s.toList == [42]) = false := beq_false_of_ne (show s.toList ≠ [42] from hn 24 (by decide))
  have n25 : (s.toList == [47]) = false := beq_false_of_ne (show s.toList ≠ [47] from hn 25 (by decide))
  have n26 : (s.toList == [109, 111, 100]) = false := beq_false_of_ne (show s.toList ≠ [109, 111, 100] from hn 26 (by decide))
  have n27 : (s.toList == [109, 105, 110]) = false := beq_false_of_ne (show s.toList ≠ [109, 105, 110] from hn 27 (by decide))
  have n28 : (s.toList == [109, 97, 120]) = false := beq_false_of_ne (show s.toList ≠ [109, 97, 120] from hn 28 (by decide))
  have n29 : (s.toList == [60]) = false := beq_false_of_ne (show s.toList ≠ [60] from hn 29 (by decide))
  have n30 : (s.toList == [62]) = false := beq_false_of_ne (show s.toList ≠ [62] from hn 30 (by decide))
  have n31 : (s.toList == [61]) = false := beq_false_of_ne (show s.toList ≠ [61] from hn 31 (by decide))
  have n32 : (s.toList == [97, 110, 100]) = false := beq_false_of_ne (show s.toList ≠ [97, 110, 100] from hn 32 (by decide))
  have n33 : (s.toList == [111, 114]) = false := beq_false_of_ne (show s.toList ≠ [111, 114] from hn 33 (by decide))
  have n34 : (s.toList == [97, 112, 112, 101, 110, 100]) = false := beq_false_of_ne (show s.toList ≠ [97, 112, 112, 101, 110, 100] from hn 34 (by decide))
  have n35 : (s.toList == [110, 116, 104]) = false := beq_false_of_ne (show s.toList ≠ [110, 116, 104] from hn 35 (by decide))
  have n36 : (s.toList == [112, 97, 105, 114]) = false := beq_false_of_ne (show s.toList ≠ [112, 97, 105, 114] from hn 36 (by decide))
  have n37 : (s.toList == [99, 117, 114, 114, 121]) = false := beq_false_of_ne (show s.toList ≠ [99, 117, 114, 114, 121] from hn 37 (by decide))
  have n38 : (s.toList == [99, 111, 109, 112, 111, 115, 101]) = false := beq_false_of_ne (show s.toList ≠ [99, 111, 109, 112, 111, 115, 101] from hn 38 (by decide))
  have n39 : (s.toList == [115, 119, 97, 112]) = false := beq_false_of_ne (show s.toList ≠ [115, 119, 97, 112] from hn 39 (by decide))
  have n40 : (s.toList == [111, 118, 101, 114]) = false := beq_false_of_ne (show s.toList ≠ [111, 118, 101, 114] from hn 40 (by decide))
  have n41 : (s.toList == [116, 117, 99, 107]) = false := beq_false_of_ne (show s.toList ≠ [116, 117, 99, 107] from hn 41 (by decide))
  have n42 : (s.toList == [115, 108, 105, 99, 101]) = false := beq_false_of_ne (show s.toList ≠ [115, 108, 105, 99, 101] from hn 42 (by decide))
  have n43 : (s.toList == [114, 111, 116]) = false := beq_false_of_ne (show s.toList ≠ [114, 111, 116] from hn 43 (by decide))
  clear hn
  have HM : Hid (∀ w1, Calls Tryz.prog 31 #[.string s] w1 fun e w' => e = .returned (.tuple #[.int .i64 0, .slice none 0 0, .bool false]) ∧ w' = w1) := by
    intro w1
    go_enter Tryz.func31, Tryz.ntmps31
    go_wp2_with fail
    go_ret3
    exact ⟨rfl, rfl⟩
  go_enter Tryz.func17, Tryz.ntmps17
  go_wp2_with fail
  refine (show Calls Tryz.prog 31 _ _ _ from HM.out _).mono ?_
  rintro e w1 ⟨rfl, rfl⟩
  clear HM
  go_wp2_with fail
  go_ret3
  exact ⟨rfl, Only.refl _ _⟩
theorem prim_any (s : ByteArray) : PmC s := by
  rcases pm_cases s with ⟨k, rfl⟩ | h
  · match k with
    | ⟨0, _⟩ => exact pm_0
    | ⟨1, _⟩ => exact pm_1
    | ⟨2, _⟩ => exact pm_2
    | ⟨3, _⟩ => exact pm_3
    | ⟨4, _⟩ => exact pm_4
    | ⟨5, _⟩ => exact pm_5
    | ⟨6, _⟩ => exact pm_6
    | ⟨7, _⟩ => exact pm_7
    | ⟨8, _⟩ => exact pm_8
    | ⟨9, _⟩ => exact pm_9
    | ⟨10, _⟩ => exact pm_10
    | ⟨11, _⟩ => exact pm_11
    | ⟨12, _⟩ => exact pm_12
    | ⟨13, _⟩ => exact pm_13
    | ⟨14, _⟩ => exact pm_14
    | ⟨15, _⟩ => exact pm_15
    | ⟨16, _⟩ => exact pm_16
    | ⟨17, _⟩ => exact pm_17
    | ⟨18, _⟩ => exact pm_18
    | ⟨19, _⟩ => exact pm_19
    | ⟨20, _⟩ => exact pm_20
    | ⟨21, _⟩ => exact pm_21
    | ⟨22, _⟩ => exact pm_22
    | ⟨23, _⟩ => exact pm_23
    | ⟨24, _⟩ => exact pm_24
    | ⟨25, _⟩ => exact pm_25
    | ⟨26, _⟩ => exact pm_26
    | ⟨27, _⟩ => exact pm_27
    | ⟨28, _⟩ => exact pm_28
    | ⟨29, _⟩ => exact pm_29
    | ⟨30, _⟩ => exact pm_30
    | ⟨31, _⟩ => exact pm_31
    | ⟨32, _⟩ => exact pm_32
    | ⟨33, _⟩ => exact pm_33
    | ⟨34, _⟩ => exact pm_34
    | ⟨35, _⟩ => exact pm_35
    | ⟨36, _⟩ => exact pm_36
    | ⟨37, _⟩ => exact pm_37
    | ⟨38, _⟩ => exact pm_38
    | ⟨39, _⟩ => exact pm_39
    | ⟨40, _⟩ => exact pm_40
    | ⟨41, _⟩ => exact pm_41
    | ⟨42, _⟩ => exact pm_42
    | ⟨43, _⟩ => exact pm_43
    | ⟨k + 44, h⟩ => exact absurd h (by omega)
  · exact pm_no h
theorem rprim_any (s : ByteArray) : RmC s := by
  rcases pm_cases s with ⟨k, rfl⟩ | h
  · match k with
    | ⟨0, _⟩ => exact rm_0
    | ⟨1, _⟩ => exact rm_1
    | ⟨2, _⟩ => exact rm_2
    | ⟨3, _⟩ => exact rm_3
    | ⟨4, _⟩ => exact rm_4
    | ⟨5, _⟩ => exact rm_5
    | ⟨6, _⟩ => exact rm_6
    | ⟨7, _⟩ => exact rm_7
    | ⟨8, _⟩ => exact rm_8
    | ⟨9, _⟩ => exact rm_9
    | ⟨10, _⟩ => exact rm_10
    | ⟨11, _⟩ => exact rm_11
    | ⟨12, _⟩ => exact rm_12
    | ⟨13, _⟩ => exact rm_13
    | ⟨14, _⟩ => exact rm_14
    | ⟨15, _⟩ => exact rm_15
    | ⟨16, _⟩ => exact rm_16
    | ⟨17, _⟩ => exact rm_17
    | ⟨18, _⟩ => exact rm_18
    | ⟨19, _⟩ => exact rm_19
    | ⟨20, _⟩ => exact rm_20
    | ⟨21, _⟩ => exact rm_21
    | ⟨22, _⟩ => exact rm_22
    | ⟨23, _⟩ => exact rm_23
    | ⟨24, _⟩ => exact rm_24
    | ⟨25, _⟩ => exact rm_25
    | ⟨26, _⟩ => exact rm_26
    | ⟨27, _⟩ => exact rm_27
    | ⟨28, _⟩ => exact rm_28
    | ⟨29, _⟩ => exact rm_29
    | ⟨30, _⟩ => exact rm_30
    | ⟨31, _⟩ => exact rm_31
    | ⟨32, _⟩ => exact rm_32
    | ⟨33, _⟩ => exact rm_33
    | ⟨34, _⟩ => exact rm_34
    | ⟨35, _⟩ => exact rm_35
    | ⟨36, _⟩ => exact rm_36
    | ⟨37, _⟩ => exact rm_37
    | ⟨38, _⟩ => exact rm_38
    | ⟨39, _⟩ => exact rm_39
    | ⟨40, _⟩ => exact rm_40
    | ⟨41, _⟩ => exact rm_41
    | ⟨42, _⟩ => exact rm_42
    | ⟨43, _⟩ => exact rm_43
    | ⟨k + 44, h⟩ => exact absurd h (by omega)
  · exact rm_no h
end Go.Proofs.YtodbkihobgdpdaaGreatDoor
