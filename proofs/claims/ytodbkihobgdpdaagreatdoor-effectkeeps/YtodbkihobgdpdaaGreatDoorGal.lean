/- Primitives: all. What an inference comes to, as a function. The list of an inference in memory: push, pop. -/
import Derived.Test.YtodbkihobgdpdaaGreatDoorGaj
import Derived.Test.YtodbkihobgdpdaaGreatDoorGak
import Derived.Test.YtodbkihobgdpdaaGreatDoorGaa
import Derived.Test.YtodbkihobgdpdaaGreatDoorGae
import Derived.Deep.RegionLaw
namespace Go.Proofs.YtodbkihobgdpdaaGreatDoor
open Go.RowKit
set_option linter.unusedSimpArgs false
set_option linter.unusedVariables false
theorem pm_cases (s : ByteArray) : (∃ k : Fin 44, s = ⟨(pmL[k.1]'(k.2)).1.toArray⟩) ∨ ∀ (k : Nat) (h : k < 44), s.toList ≠ (pmL[k]'h).1 := by
  by_cases h : ∃ k : Fin 44, s.toList = (pmL[k.1]'(k.2)).1
  · obtain ⟨k, hk⟩ := h
    exact .inl ⟨k, to_lit hk⟩
  · exact .inr fun k hk e => h ⟨⟨k, hk⟩, e⟩
theorem pm_none {s : ByteArray} (hn : ∀ (k : Nat) (h : k < 44), s.toList ≠ (pmL[k]'h).1) : pmR s = (0, 0, false) :=
  pmF_no _ _ fun x hx => by
    obtain ⟨k, hk, rfl⟩ := List.getElem_of_mem hx
    exact hn k hk
set_option maxRecDepth 100000 in
set_option maxHeartbeats 4000000 in
theorem pm_no {s : ByteArray} (hn : ∀ (k : Nat) (h : k < 44), s.toList ≠ (pmL[k]'h).1) : PmC s := by
  intro w
  rw [pm_none hn]
  have n0 : (s.toList == [100, 114, 111, 112]) = false := beq_false_of_ne (show s.toList ≠ [100, 114, 111, 112] from hn 0 (by decide))
  have n1 : (s.toList == [46]) = false := beq_false_of_ne (show s.toList ≠ [46] from hn 1 (by decide))
  have n2 : (s.toList == [110, 101, 103]) = false := beq_false_of_ne (show s.toList ≠ [110, 101, 103] from hn 2 (by decide))
  have n3 : (s.toList == [97, 98, 115]) = false := beq_false_of_ne (show s.toList ≠ [97, 98, 115] from hn 3 (by decide))
  have n4 : (s.toList == [110, 111, 116]) = false := beq_false_of_ne (show s.toList ≠ [110, 111, 116] from hn 4 (by decide))
  have n5 : (s.toList == [105, 110, 116, 63]) = false := beq_false_of_ne (show s.toList ≠ [105, 110, 116, 63] from hn 5 (by decide))
  have n6 : (s.toList == [115, 116, 114, 63]) = false := beq_false_of_ne (show s.toList ≠ [115, 116, 114, 63] from hn 6 (by decide))
  have n7 : (s.toList == [98, 111, 111, 108, 63]) = false := beq_false_of_ne (show s.toList ≠ [98, 111, 111, 108, 63] from hn 7 (by decide))
  have n8 : (s.toList == [108, 105, 115, 116, 63]) = false := beq_false_of_ne (show s.toList ≠ [108, 105, 115, 116, 63] from hn 8 (by decide))
  have n9 : (s.toList == [113, 117, 111, 116, 63]) = false := beq_false_of_ne (show s.toList ≠ [113, 117, 111, 116, 63] from hn 9 (by decide))
  have n10 : (s.toList == [98, 111, 120, 63]) = false := beq_false_of_ne (show s.toList ≠ [98, 111, 120, 63] from hn 10 (by decide))
  have n11 : (s.toList == [108, 101, 110, 103, 116, 104]) = false := beq_false_of_ne (show s.toList ≠ [108, 101, 110, 103, 116, 104] from hn 11 (by decide))
  have n12 : (s.toList == [119, 114, 97, 112]) = false := beq_false_of_ne (show s.toList ≠ [119, 114, 97, 112] from hn 12 (by decide))
  have n13 : (s.toList == [114, 101, 118, 101, 114, 115, 101]) = false := beq_false_of_ne (show s.toList ≠ [114, 101, 118, 101, 114, 115, 101] from hn 13 (by decide))
  have n14 : (s.toList == [62, 115, 116, 114]) = false := beq_false_of_ne (show s.toList ≠ [62, 115, 116, 114] from hn 14 (by decide))
  have n15 : (s.toList == [62, 105, 110, 116]) = false := beq_false_of_ne (show s.toList ≠ [62, 105, 110, 116] from hn 15 (by decide))
  have n16 : (s.toList == [98, 111, 120]) = false := beq_false_of_ne (show s.toList ≠ [98, 111, 120] from hn 16 (by decide))
  have n17 : (s.toList == [103, 101, 116]) = false := beq_false_of_ne (show s.toList ≠ [103, 101, 116] from hn 17 (by decide))
  have n18 : (s.toList == [100, 117, 112]) = false := beq_false_of_ne (show s.toList ≠ [100, 117, 112] from hn 18 (by decide))
  have n19 : (s.toList == [117, 110, 112, 97, 105, 114]) = false := beq_false_of_ne (show s.toList ≠ [117, 110, 112, 97, 105, 114] from hn 19 (by decide))
  have n20 : (s.toList == [112, 117, 116]) = false := beq_false_of_ne (show s.toList ≠ [112, 117, 116] from hn 20 (by decide))
  have n21 : (s.toList == [110, 105, 112]) = false := beq_false_of_ne (show s.toList ≠ [110, 105, 112] from hn 21 (by decide))
  have n22 : (s.toList == [43]) = false := beq_false_of_ne (show s.toList ≠ [43] from hn 22 (by decide))
  have n23 : (s.toList == [45]) = false := beq_false_of_ne (show s.toList ≠ [45] from hn 23 (by decide))
  have n24 : (s.toList == [42]) = false := beq_false_of_ne (show s.toList ≠ [42] from hn 24 (by decide))
  have n25 : (s.toList == [47]) = false := beq_false_of_ne (show s.toList ≠ [47] from hn 25 (by decide))
  have n26 : (s.toList == [109, 111, 100]) = false := beq_false_of_ne (show s.toList ≠ [109, 111, 100] from hn 26 (by decide))
  have n27 : (s.toList == [109, 105, 110]) = false := beq_false_of_ne (show s.toList ≠ [109, 105, 110] from hn 27 (by decide))
  have n28 : (s.toList == [109, 97, 120]) = false := beq_false_of_ne (show s.toList ≠ [109, 97, 120] from hn 28 (by decide))
  have n29 : (s.toList == [60]) = false := beq_false_of_ne (show s.toList ≠ [60] from hn 29 (by decide))
  have n30 : (s.toList == [62]) = false := beq_false_of_ne (show s.toList ≠ [62] from hn 30 (by decide))
  have n31 : (s.toList == [61]) = false := beq_false_of_ne (show s.toList ≠ [61] from hn 31 (by decide))
  have n32 : (s.toList == [97, 110, 100]) = false := beq_false_of_ne (show s.toList ≠ [97, 110, 100] from hn 32 (by decide))
  have n33 : (s.toList == [111, 114]) = false := beq_false_of_ne (show s.toList ≠ [111, 114] from hn 33 (by decide))
  have n34 : (s.toList == [97, 112, 112, 101, 110, 100]) = false := beq_false_of_ne (show s.toList ≠ [97, 112, 112, 101, 110, 100] from hn 34 (by decide))
  have n35 : (s.toList == [110, 116, 104]) = false := beq_false_of_ne (show s.toList ≠ [110, 116, 104] from hn 35 (by decide))
  have n36 : (s.toList == [112, 97, 105, 114]) = false := beq_false_of_ne (show s.toList ≠ [112, 97, 105, 114] from hn 36 (by decide))
  have n37 : (s.toList == [99, 117, 114, 114, 121]) = false := beq_false_of_ne (show s.toList ≠ [99, 117, 114, 114, 121] from hn 37 (by decide))
  have n38 : (s.toList == [99, 111, 109, 112, 111, 115, 101]) = false := beq_false_of_ne (show s.toList ≠ [99, 111, 109, 112, 111, 115, 101] from hn 38 (by decide))
  have n39 : (s.toList == [115, 119, 97, 112]) = false := beq_false_of_ne (show s.toList ≠ [115, 119, 97, 112] from hn 39 (by decide))
  have n40 : (s.toList == [111, 118, 101, 114]) = false := beq_false_of_ne (show s.toList ≠ [111, 118, 101, 114] from hn 40 (by decide))
  have n41 : (s.toList == [116, 117, 99, 107]) = false := beq_false_of_ne (show s.toList ≠ [116, 117, 99, 107] from hn 41 (by decide))
  have n42 : (s.toList == [115, 108, 105, 99, 101]) = false := beq_false_of_ne (show s.toList ≠ [115, 108, 105, 99, 101] from hn 42 (by decide))
  have n43 : (s.toList == [114, 111, 116]) = false := beq_false_of_ne (show s.toList ≠ [114, 111, 116] from hn 43 (by decide))
  clear hn
  go_enter Tryz.func16, Tryz.ntmps16
  go_wp2_with fail
  have hq : TwC (w.alloc (.cells #[.int .i64 0, .int .i64 0] 30)) w.heap.size 0 0 := ealloc_at _ _ _ rfl
  obtain ⟨q0, q1, _, _⟩ := hq.cells
  refine bodyPost_ret (results_eff rfl _ _ w.heap.size q0 q1 rfl) rfl ?_
  exact ⟨rfl, (Only.refl _ w).alloc _⟩
set_option maxRecDepth 100000 in
set_option maxHeartbeats 4000000 in
theorem rm_no {s : ByteArray} (hn : ∀ (k : Nat) (h : k < 44), s.toList ≠ (pmL[k]'h).1) : RmC s := by
  intro w
  rw [pm_none hn]
  have n0 : (s.toList == [100, 114, 111, 112]) = false := beq_false_of_ne (show s.toList ≠ [100, 114, 111, 112] from hn 0 (by decide))
  have n1 : (s.toList == [46]) = false := beq_false_of_ne (show s.toList ≠ [46] from hn 1 (by decide))
  have n2 : (s.toList == [110, 101, 103]) = false := beq_false_of_ne (show s.toList ≠ [110, 101, 103] from hn 2 (by decide))
  have n3 : (s.toList == [97, 98, 115]) = false := beq_false_of_ne (show s.toList ≠ [97, 98, 115] from hn 3 (by decide))
  have n4 : (s.toList == [110, 111, 116]) = false := beq_false_of_ne (show s.toList ≠ [110, 111, 116] from hn 4 (by decide))
  have n5 : (s.toList == [105, 110, 116, 63]) = false := beq_false_of_ne (show s.toList ≠ [105, 110, 116, 63] from hn 5 (by decide))
  have n6 : (s.toList == [115, 116, 114, 63]) = false := beq_false_of_ne (show s.toList ≠ [115, 116, 114, 63] from hn 6 (by decide))
  have n7 : (s.toList == [98, 111, 111, 108, 63]) = false := beq_false_of_ne (show s.toList ≠ [98, 111, 111, 108, 63] from hn 7 (by decide))
  have n8 : (s.toList == [108, 105, 115, 116, 63]) = false := beq_false_of_ne (show s.toList ≠ [108, 105, 115, 116, 63] from hn 8 (by decide))
  have n9 : (s.toList == [113, 117, 111, 116, 63]) = false := beq_false_of_ne (show s.toList ≠ [113, 117, 111, 116, 63] from hn 9 (by decide))
  have n10 : (s.toList == [98, 111, 120, 63]) = false := beq_false_of_ne (show s.toList ≠ [98, 111, 120, 63] from hn 10 (by decide))
  have n11 : (s.toList == [108, 101, 110, 103, 116, 104]) = false := beq_false_of_ne (show s.toList ≠ [108, 101, 110, 103, 116, 104] from hn 11 (by decide))
  have n12 : (s.toList == [119, 114, 97, 112]) = false := beq_false_of_ne (show s.toList ≠ [119, 114, 97, 112] from hn 12 (by decide))
  have n13 : (s.toList == [114, 101, 118, 101, 114, 115, 101]) = false := beq_false_of_ne (show s.toList ≠ [114, 101, 118, 101, 114, 115, 101] from hn 13 (by decide))
  have n14 : (s.toList == [62, 115, 116, 114]) = false := beq_false_of_ne (show s.toList ≠ [62, 115, 116, 114] from hn 14 (by decide))
  have n15 : (s.toList == [62, 105, 110, 116]) = false := beq_false_of_ne (show s.toList ≠ [62, 105, 110, 116] from hn 15 (by decide))
  have n16 : (s.toList == [98, 111, 120]) = false := beq_false_of_ne (show s.toList ≠ [98, 111, 120] from hn 16 (by decide))
  have n17 : (s.toList == [103, 101, 116]) = false := beq_false_of_ne (show s.toList ≠ [103, 101, 116] from hn 17 (by decide))
  have n18 : (s.toList == [100, 117, 112]) = false := beq_false_of_ne (show s.toList ≠ [100, 117, 112] from hn 18 (by decide))
  have n19 : (s.toList == [117, 110, 112, 97, 105, 114]) = false := beq_false_of_ne (show s.toList ≠ [117, 110, 112, 97, 105, 114] from hn 19 (by decide))
  have n20 : (s.toList == [112, 117, 116]) = false := beq_false_of_ne (show s.toList ≠ [112, 117, 116] from hn 20 (by decide))
  have n21 : (s.toList == [110, 105, 112]) = false := beq_false_of_ne (show s.toList ≠ [110, 105, 112] from hn 21 (by decide))
  have n22 : (s.toList == [43]) = false := beq_false_of_ne (show s.toList ≠ [43] from hn 22 (by decide))
  have n23 : (s.toList == [45]) = false := beq_false_of_ne (show s.toList ≠ [45] from hn 23 (by decide))
  have n24 : (s.toList == [42]) = false := beq_false_of_ne (show s.toList ≠ [42] from hn 24 (by decide))
  have n25 : (s.toList == [47]) = false := beq_false_of_ne (show s.toList ≠ [47] from hn 25 (by decide))
  have n26 : (s.toList == [109, 111, 100]) = false := beq_false_of_ne (show s.toList ≠ [109, 111, 100] from hn 26 (by decide))
  have n27 : (s.toList == [109, 105, 110]) = false := beq_false_of_ne (show s.toList ≠ [109, 105, 110] from hn 27 (by decide))
  have n28 : (s.toList == [109, 97, 120]) = false := beq_false_of_ne (show s.toList ≠ [109, 97, 120] from hn 28 (by decide))
  have n29 : (s.toList == [60]) = false := beq_false_of_ne (show s.toList ≠ [60] from hn 29 (by decide))
  have n30 : (s.toList == [62]) = false := beq_false_of_ne (show s.toList ≠ [62] from hn 30 (by decide))
  have n31 : (s.toList == [61]) = false := beq_false_of_ne (show s.toList ≠ [61] from hn 31 (by decide))
  have n32 : (s.toList == [97, 110, 100]) = false := beq_false_of_ne (show s.toList ≠ [97, 110, 100] from hn 32 (by decide))
  have n33 : (s.toList == [111, 114]) = false := beq_false_of_ne (show s.toList ≠ [111, 114] from hn 33 (by decide))
  have n34 : (s.toList == [97, 112, 112, 101, 110, 100]) = false := beq_false_of_ne (show s.toList ≠ [97, 112, 112, 101, 110, 100] from hn 34 (by decide))
  have n35 : (s.toList == [110, 116, 104]) = false := beq_false_of_ne (show s.toList ≠ [110, 116, 104] from hn 35 (by decide))
  have n36 : (s.toList == [112, 97, 105, 114]) = false := beq_false_of_ne (show s.toList ≠ [112, 97, 105, 114] from hn 36 (by decide))
  have n37 : (s.toList == [99, 117, 114, 114, 121]) = false := beq_false_of_ne (show s.toList ≠ [99, 117, 114, 114, 121] from hn 37 (by decide))
  have n38 : (s.toList == [99, 111, 109, 112, 111, 115, 101]) = false := beq_false_of_ne (show s.toList ≠ [99, 111, 109, 112, 111, 115, 101] from hn 38 (by decide))
  have n39 : (s.toList == [115, 119, 97, 112]) = false := beq_false_of_ne (show s.toList ≠ [115, 119, 97, 112] from hn 39 (by decide))
  have n40 : (s.toList == [111, 118, 101, 114]) = false := beq_false_of_ne (show s.toList ≠ [111, 118, 101, 114] from hn 40 (by decide))
  have n41 : (s.toList == [116, 117, 99, 107]) = false := beq_false_of_ne (show s.toList ≠ [116, 117, 99, 107] from hn 41 (by decide))
  have n42 : (s.toList == [115, 108, 105, 99, 101]) = false := beq_false_of_ne (show s.toList ≠ [115, 108, 105, 99, 101] from hn 42 (by decide))
  have n43 : (s.toList == [114, 111, 116]) = false := beq_false_of_ne (show s.toList ≠ [114, 111, 116] from hn 43 (by decide))
  clear hn
  have HM : Hid (∀ w1, Calls Tryz.prog 31 #[.string s] w1 fun e w' => e = .returned (.tuple #[.int .i64 0, .slice none 0 0, .bool false]) ∧ w' = w1) := by
    intro w1
    go_enter Tryz.func31, Tryz.ntmps31
    go_wp2_with fail
    go_ret3
    exact ⟨rfl, rfl⟩
  go_enter Tryz.func17, Tryz.ntmps17
  go_wp2_with fail
  refine (show Calls Tryz.prog 31 _ _ _ from HM.out _).mono ?_
  rintro e w1 ⟨rfl, rfl⟩
  clear HM
  go_wp2_with fail
  go_ret3
  exact ⟨rfl, Only.refl _ _⟩
theorem prim_any (s : ByteArray) : PmC s := by
  rcases pm_cases s with ⟨k, rfl⟩ | h
  · match k with
    | ⟨0, _⟩ => exact pm_0
    | ⟨1, _⟩ => exact pm_1
    | ⟨2, _⟩ => exact pm_2
    | ⟨3, _⟩ => exact pm_3
    | ⟨4, _⟩ => exact pm_4
    | ⟨5, _⟩ => exact pm_5
    | ⟨6, _⟩ => exact pm_6
    | ⟨7, _⟩ => exact pm_7
    | ⟨8, _⟩ => exact pm_8
    | ⟨9, _⟩ => exact pm_9
    | ⟨10, _⟩ => exact pm_10
    | ⟨11, _⟩ => exact pm_11
    | ⟨12, _⟩ => exact pm_12
    | ⟨13, _⟩ => exact pm_13
    | ⟨14, _⟩ => exact pm_14
    | ⟨15, _⟩ => exact pm_15
    | ⟨16, _⟩ => exact pm_16
    | ⟨17, _⟩ => exact pm_17
    | ⟨18, _⟩ => exact pm_18
    | ⟨19, _⟩ => exact pm_19
    | ⟨20, _⟩ => exact pm_20
    | ⟨21, _⟩ => exact pm_21
    | ⟨22, _⟩ => exact pm_22
    | ⟨23, _⟩ => exact pm_23
    | ⟨24, _⟩ => exact pm_24
    | ⟨25, _⟩ => exact pm_25
    | ⟨26, _⟩ => exact pm_26
    | ⟨27, _⟩ => exact pm_27
    | ⟨28, _⟩ => exact pm_28
    | ⟨29, _⟩ => exact pm_29
    | ⟨30, _⟩ => exact pm_30
    | ⟨31, _⟩ => exact pm_31
    | ⟨32, _⟩ => exact pm_32
    | ⟨33, _⟩ => exact pm_33
    | ⟨34, _⟩ => exact pm_34
    | ⟨35, _⟩ => exact pm_35
    | ⟨36, _⟩ => exact pm_36
    | ⟨37, _⟩ => exact pm_37
    | ⟨38, _⟩ => exact pm_38
    | ⟨39, _⟩ => exact pm_39
    | ⟨40, _⟩ => exact pm_40
    | ⟨41, _⟩ => exact pm_41
    | ⟨42, _⟩ => exact pm_42
    | ⟨43, _⟩ => exact pm_43
    | ⟨k + 44, h⟩ => exact absurd h (by omega)
  · exact pm_no h
theorem rprim_any (s : ByteArray) : RmC s := by
  rcases pm_cases s with ⟨k, rfl⟩ | h
  · match k with
    | ⟨0, _⟩ => exact rm_0
    | ⟨1, _⟩ => exact rm_1
    | ⟨2, _⟩ => exact rm_2
    | ⟨3, _⟩ => exact rm_3
    | ⟨4, _⟩ => exact rm_4
    | ⟨5, _⟩ => exact rm_5
    | ⟨6, _⟩ => exact rm_6
    | ⟨7, _⟩ => exact rm_7
    | ⟨8, _⟩ => exact rm_8
    | ⟨9, _⟩ => exact rm_9
    | ⟨10, _⟩ => exact rm_10
    | ⟨11, _⟩ => exact rm_11
    | ⟨12, _⟩ => exact rm_12
    | ⟨13, _⟩ => exact rm_13
    | ⟨14, _⟩ => exact rm_14
    | ⟨15, _⟩ => exact rm_15
    | ⟨16, _⟩ => exact rm_16
    | ⟨17, _⟩ => exact rm_17
    | ⟨18, _⟩ => exact rm_18
    | ⟨19, _⟩ => exact rm_19
    | ⟨20, _⟩ => exact rm_20
    | ⟨21, _⟩ => exact rm_21
    | ⟨22, _⟩ => exact rm_22
    | ⟨23, _⟩ => exact rm_23
    | ⟨24, _⟩ => exact rm_24
    | ⟨25, _⟩ => exact rm_25
    | ⟨26, _⟩ => exact rm_26
    | ⟨27, _⟩ => exact rm_27
    | ⟨28, _⟩ => exact rm_28
    | ⟨29, _⟩ => exact rm_29
    | ⟨30, _⟩ => exact rm_30
    | ⟨31, _⟩ => exact rm_31
    | ⟨32, _⟩ => exact rm_32
    | ⟨33, _⟩ => exact rm_33
    | ⟨34, _⟩ => exact rm_34
    | ⟨35, _⟩ => exact rm_35
    | ⟨36, _⟩ => exact rm_36
    | ⟨37, _⟩ => exact rm_37
    | ⟨38, _⟩ => exact rm_38
    | ⟨39, _⟩ => exact rm_39
    | ⟨40, _⟩ => exact rm_40
    | ⟨41, _⟩ => exact rm_41
    | ⟨42, _⟩ => exact rm_42
    | ⟨43, _⟩ => exact rm_43
    | ⟨k + 44, h⟩ => exact absurd h (by omega)
  · exact rm_no h
end Go.Proofs.YtodbkihobgdpdaaGreatDoor
namespace Go.Proofs.YtodbkihobgdpdaaGreatDoor
open Go.RowKit
set_option linter.unusedSimpArgs false
set_option linter.unusedVariables false
/-- what is known of a value on the list: a quotation of such items, or nothing -/
abbrev Ent := Option (List Vt)
/-- an inference under way: how many items may still be gone through, the list, how many values were taken from below it -/
structure Ist where
  a : Nat
  st : List Ent
  tk : Nat
def popE (s : Ist) : Ent × Ist := match s.st.getLast? with
  | none => (none, ⟨s.a, s.st, s.tk + 1⟩)
  | some x => (x, ⟨s.a, s.st.dropLast, s.tk⟩)
def pushE (x : Ent) (s : Ist) : Ist := ⟨s.a, s.st ++ [x], s.tk⟩
def popsE : Nat → Ist → List Ent × Ist
  | 0, s => ([], s)
  | n + 1, s => ((popE s).1 :: (popsE n (popE s).2).1, (popsE n (popE s).2).2)
/-- so many values are taken, and so many left -/
def appE (i o : Nat) (s : Ist) : Ist := ⟨(popsE i s).2.a, (popsE i s).2.st ++ List.replicate o none, (popsE i s).2.tk⟩
def movE (n : Nat) (ps : List Nat) (s : Ist) : Ist := ⟨(popsE n s).2.a, (popsE n s).2.st ++ ps.map (fun p => ((popsE n s).1.reverse).getD p none), (popsE n s).2.tk⟩
def bdE {α β : Type} (x : Except Int α) (f : α → Except Int β) : Except Int β := match x with
  | .error e => .error e
  | .ok a => f a
def cntE (s : Ist) : Except Int Ist := if s.a = 0 then .error 11 else .ok ⟨s.a - 1, s.st, s.tk⟩
def quoE (s : Ist) : Except Int (List Vt × Ist) := match popE s with
  | (none, _) => .error 12
  | (some l, t) => .ok (l, t)
def mvF (l : List UInt8) : List (List UInt8 × List Nat) → Option (List Nat)
  | [] => none
  | x :: r => if l = x.1 then some x.2 else mvF l r
/-- the words that move values, and what they leave -/
def mvT : List (List UInt8 × List Nat) := [([100, 117, 112], [0, 0]), ([100, 114, 111, 112], []), ([115, 119, 97, 112], [1, 0]), ([111, 118, 101, 114], [0, 1, 0]), ([114, 111, 116], [1, 2, 0]), ([110, 105, 112], [1]), ([116, 117, 99, 107], [1, 0, 1])]
def mvP (s : ByteArray) : Option (List Nat) := mvF s.toList mvT
def kwF (l : List UInt8) : List (List UInt8 × Nat) → Nat
  | [] => 0
  | x :: r => if l = x.1 then x.2 else kwF l r
/-- the words that call quotations: call 1, dip 2, keep 3, if 4, when and times 5, loop 6, each 7 -/
def kwT : List (List UInt8 × Nat) := [([99, 97, 108, 108], 1), ([100, 105, 112], 2), ([107, 101, 101, 112], 3), ([105, 102], 4), ([119, 104, 101, 110], 5), ([116, 105, 109, 101, 115], 5), ([108, 111, 111, 112], 6), ([101, 97, 99, 104], 7)]
def kwd (s : ByteArray) : Nat := kwF s.toList kwT
/-- the effect of a word that has one whatever it is handed -/
def plnE (W : ByteArray → Option (Nat × Nat)) (s : ByteArray) : Option (Nat × Nat) := if (pmR s).2.2 then some ((pmR s).1.toNat, (pmR s).2.1.toNat) else W s
/-- what a word does that calls quotations -/
def ctlE (R : List Vt → Ist → Except Int Ist) (k : Nat) (s : Ist) : Except Int Ist :=
  if k = 1 then bdE (quoE s) fun q => R q.1 q.2
  else if k = 2 then bdE (quoE s) fun q => bdE (R q.1 (popE q.2).2) fun t => .ok (pushE (popE q.2).1 t)
  else if k = 3 then bdE (quoE s) fun q => bdE (R q.1 (pushE (popE q.2).1 (popE q.2).2)) fun t => .ok (pushE (popE q.2).1 t)
  else if k = 4 then bdE (quoE s) fun no => bdE (quoE no.2) fun yes => bdE (R yes.1 ⟨(popE yes.2).2.a, [], 0⟩) fun x => bdE (R no.1 ⟨x.a, [], 0⟩) fun y =>
    if (x.st.length : Int) - x.tk = y.st.length - y.tk then .ok (appE (if x.tk < y.tk then y.tk else x.tk) (if x.tk < y.tk then y.st.length else x.st.length) ⟨y.a, (popE yes.2).2.st, (popE yes.2).2.tk⟩) else .error 12
  else if k = 5 then bdE (quoE s) fun q => bdE (R q.1 ⟨(popE q.2).2.a, [], 0⟩) fun x => if x.st.length = x.tk then .ok (appE x.tk x.st.length ⟨x.a, (popE q.2).2.st, (popE q.2).2.tk⟩) else .error 12
  else if k = 6 then bdE (quoE s) fun q => bdE (R q.1 ⟨q.2.a, [], 0⟩) fun x => if x.st.length = x.tk + 1 then .ok (appE x.tk x.tk ⟨x.a, q.2.st, q.2.tk⟩) else .error 12
  else bdE (quoE s) fun q => bdE (R q.1 ⟨(popE q.2).2.a, [], 0⟩) fun x => if x.st.length + 1 = x.tk then .ok (appE x.st.length x.st.length ⟨x.a, (popE q.2).2.st, (popE q.2).2.tk⟩) else .error 12
def thrL (I : Vt → Ist → Except Int Ist) : List Vt → Ist → Except Int Ist
  | [], s => .ok s
  | x :: l, s => bdE (I x s) (thrL I l)
/-- one item -/
def itmE (W : ByteArray → Option (Nat × Nat)) : Nat → Vt → Ist → Except Int Ist
  | 0, _, _ => .error 11
  | n + 1, x, s =>
    if x.k = 7 then
      if kwd x.s = 0 then (match plnE W x.s with
        | none => .error 10
        | some e => bdE (cntE s) fun t => .ok (match mvP x.s with
          | some ps => movE e.1 ps t
          | none => appE e.1 e.2 t))
      else bdE (cntE s) fun t => ctlE (thrL (itmE W n)) (kwd x.s) t
    else if x.k = 8 then .ok s
    else bdE (cntE s) fun t => .ok (pushE (if x.k = 5 then some x.l else none) t)
/-- items, one by one -/
def thrE (W : ByteArray → Option (Nat × Nat)) (n : Nat) : List Vt → Ist → Except Int Ist := thrL (itmE W n)
/-- what an inference may still come to -/
def potE (s : Ist) : Nat := s.st.length + s.tk + 32 * s.a
theorem popE_a (s : Ist) : (popE s).2.a = s.a := by unfold popE; split <;> rfl
theorem popE_pot (s : Ist) : potE (popE s).2 ≤ potE s + 1 := by
  unfold popE potE
  split
  · simp; omega
  · simp; omega
theorem popE_len (s : Ist) : (popE s).2.st.length ≤ s.st.length := by
  unfold popE
  split <;> simp
theorem quoE_ok {s : Ist} {q : List Vt × Ist} (h : quoE s = .ok q) : popE s = (some q.1, q.2) := by
  unfold quoE at h
  split at h
  · exact nomatch h
  · rename_i l t e
    injection h with h
    subst h
    exact e
theorem quoE_pot {s : Ist} {q : List Vt × Ist} (h : quoE s = .ok q) : q.2.a = s.a ∧ potE q.2 + 1 ≤ potE s := by
  have e := quoE_ok h
  have ha := popE_a s
  rw [e] at ha
  refine ⟨ha, ?_⟩
  unfold popE at e
  split at e
  · simp at e
  · rename_i x hx
    have : s.st ≠ [] := by intro h0; rw [h0] at hx; simp at hx
    have hl : s.st.length ≠ 0 := by simpa using this
    injection e with e1 e2
    rw [← e2]
    unfold potE
    simp
    omega
theorem popsE_a : ∀ (n : Nat) (s : Ist), (popsE n s).2.a = s.a
  | 0, s => rfl
  | n + 1, s => by
    show (popsE n (popE s).2).2.a = _
    rw [popsE_a n, popE_a]
theorem popsE_len : ∀ (n : Nat) (s : Ist), (popsE n s).1.length = n
  | 0, s => rfl
  | n + 1, s => by
    show ((popE s).1 :: (popsE n (popE s).2).1).length = _
    simp [popsE_len n]
theorem popsE_pot : ∀ (n : Nat) (s : Ist), potE (popsE n s).2 ≤ potE s + n
  | 0, s => by simp [popsE]
  | n + 1, s => by
    show potE (popsE n (popE s).2).2 ≤ _
    have := popsE_pot n (popE s).2
    have := popE_pot s
    omega
/-- one more is taken -/
theorem popsE_snoc : ∀ (n : Nat) (s : Ist), popsE (n + 1) s = ((popsE n s).1 ++ [(popE (popsE n s).2).1], (popE (popsE n s).2).2)
  | 0, s => by simp [popsE]
  | n + 1, s => by
    have ih := popsE_snoc n (popE s).2
    show ((popE s).1 :: (popsE (n + 1) (popE s).2).1, (popsE (n + 1) (popE s).2).2) = _
    rw [ih]
    rfl
theorem appE_pot (i o : Nat) (s : Ist) : (appE i o s).a = s.a ∧ potE (appE i o s) ≤ potE s + i + o := by
  have h1 := popsE_a i s
  have h2 := popsE_pot i s
  refine ⟨h1, ?_⟩
  unfold appE potE at *
  simp
  omega
theorem movE_pot (n : Nat) (ps : List Nat) (s : Ist) : (movE n ps s).a = s.a ∧ potE (movE n ps s) ≤ potE s + n + ps.length := by
  have h1 := popsE_a n s
  have h2 := popsE_pot n s
  refine ⟨h1, ?_⟩
  unfold movE potE at *
  simp
  omega
theorem bdE_ok {α β : Type} {x : Except Int α} {f : α → Except Int β} {b : β} (h : bdE x f = .ok b) : ∃ a, x = .ok a ∧ f a = .ok b := by
  unfold bdE at h
  cases x with
  | error e => exact nomatch h
  | ok a => exact ⟨a, rfl, h⟩
theorem cntE_ok {s t : Ist} (h : cntE s = .ok t) : t.a + 1 = s.a ∧ potE t + 32 = potE s ∧ t.st = s.st ∧ t.tk = s.tk := by
  unfold cntE at h
  split at h
  · exact nomatch h
  · injection h with h
    subst h
    unfold potE
    simp
    omega
theorem mv_cases {s : ByteArray} {ps : List Nat} (h : mvP s = some ps) : ps.length ≤ 3 := by
  unfold mvP at h
  simp only [mvF, mvT] at h
  repeat' (split at h)
  all_goals (first | (injection h with h; subst h; simp) | (exact nomatch h))
theorem ctlE_pot {R : List Vt → Ist → Except Int Ist} (hR : ∀ l s t, R l s = .ok t → t.a ≤ s.a ∧ potE t ≤ potE s) {k : Nat} {s t : Ist} (h : ctlE R k s = .ok t) : t.a ≤ s.a ∧ potE t ≤ potE s + 32 := by
  have pp := popE_pot
  have pa := popE_a
  have hpu : ∀ (x : Ent) (u : Ist), (pushE x u).a = u.a ∧ potE (pushE x u) = potE u + 1 := fun x u => ⟨rfl, by unfold potE pushE; simp; omega⟩
  have h0 : ∀ a, potE ⟨a, [], 0⟩ = 32 * a := fun a => by simp [potE]
  have hp : ∀ u : Ist, potE u = u.st.length + u.tk + 32 * u.a := fun u => rfl
  unfold ctlE at h
  split at h
  · obtain ⟨q, hq, h⟩ := bdE_ok h
    have := quoE_pot hq
    have := hR _ _ _ h
    omega
  split at h
  · obtain ⟨q, hq, h⟩ := bdE_ok h
    obtain ⟨u, hu, h⟩ := bdE_ok h
    have := quoE_pot hq
    have := hR _ _ _ hu
    have := pp q.2
    have := pa q.2
    have := hpu (popE q.2).1 u
    injection h with h
    rw [← h]
    omega
  split at h
  · obtain ⟨q, hq, h⟩ := bdE_ok h
    obtain ⟨u, hu, h⟩ := bdE_ok h
    have := quoE_pot hq
    have := hR _ _ _ hu
    have := pp q.2
    have := pa q.2
    have := hpu (popE q.2).1 u
    have := hpu (popE q.2).1 (popE q.2).2
    injection h with h
    rw [← h]
    omega
  split at h
  · obtain ⟨q, hq, h⟩ := bdE_ok h
    obtain ⟨r, hr, h⟩ := bdE_ok h
    obtain ⟨x, hx, h⟩ := bdE_ok h
    obtain ⟨y, hy, h⟩ := bdE_ok h
    have := quoE_pot hq
    have := quoE_pot hr
    have h3 := hR _ _ _ hx
    have h4 := hR _ _ _ hy
    have := pp r.2
    have := pa r.2
    rw [h0] at h3 h4
    split at h
    · injection h with h
      have e1 := hp x
      have e2 := hp y
      have := appE_pot (if x.tk < y.tk then y.tk else x.tk) (if x.tk < y.tk then y.st.length else x.st.length) ⟨y.a, (popE r.2).2.st, (popE r.2).2.tk⟩
      have e3 := hp (popE r.2).2
      have e4 := hp ⟨y.a, (popE r.2).2.st, (popE r.2).2.tk⟩
      simp only at e4 h3 h4
      have hs : (if x.tk < y.tk then y.tk else x.tk) + (if x.tk < y.tk then y.st.length else x.st.length) ≤ x.st.length + x.tk + (y.st.length + y.tk) := by split <;> omega
      rw [← h]
      generalize (if x.tk < y.tk then y.tk else x.tk) = i0 at *
      generalize (if x.tk < y.tk then y.st.length else x.st.length) = o0 at *
      simp only at this
      omega
    · exact nomatch h
  split at h
  · obtain ⟨q, hq, h⟩ := bdE_ok h
    obtain ⟨x, hx, h⟩ := bdE_ok h
    have := quoE_pot hq
    have h3 := hR _ _ _ hx
    have := pp q.2
    have := pa q.2
    rw [h0] at h3
    split at h
    · injection h with h
      have e1 := hp x
      have := appE_pot x.tk x.st.length ⟨x.a, (popE q.2).2.st, (popE q.2).2.tk⟩
      have e3 := hp (popE q.2).2
      have e4 := hp ⟨x.a, (popE q.2).2.st, (popE q.2).2.tk⟩
      simp only at e4 this h3
      rw [← h]
      omega
    · exact nomatch h
  split at h
  · obtain ⟨q, hq, h⟩ := bdE_ok h
    obtain ⟨x, hx, h⟩ := bdE_ok h
    have := quoE_pot hq
    have h3 := hR _ _ _ hx
    rw [h0] at h3
    split at h
    · injection h with h
      have e1 := hp x
      have := appE_pot x.tk x.tk ⟨x.a, q.2.st, q.2.tk⟩
      have e3 := hp q.2
      have e4 := hp ⟨x.a, q.2.st, q.2.tk⟩
      simp only at e4 this h3
      rw [← h]
      omega
    · exact nomatch h
  · obtain ⟨q, hq, h⟩ := bdE_ok h
    obtain ⟨x, hx, h⟩ := bdE_ok h
    have := quoE_pot hq
    have h3 := hR _ _ _ hx
    have := pp q.2
    have := pa q.2
    rw [h0] at h3
    split at h
    · injection h with h
      have e1 := hp x
      have := appE_pot x.st.length x.st.length ⟨x.a, (popE q.2).2.st, (popE q.2).2.tk⟩
      have e3 := hp (popE q.2).2
      have e4 := hp ⟨x.a, (popE q.2).2.st, (popE q.2).2.tk⟩
      simp only at e4 this h3
      rw [← h]
      omega
    · exact nomatch h
theorem thrL_pot {I : Vt → Ist → Except Int Ist} (hI : ∀ x s t, I x s = .ok t → t.a ≤ s.a ∧ potE t ≤ potE s) : ∀ (l : List Vt) (s t : Ist), thrL I l s = .ok t → t.a ≤ s.a ∧ potE t ≤ potE s
  | [], s, t, h => by
    injection h with h
    subst h
    exact ⟨Nat.le_refl _, Nat.le_refl _⟩
  | x :: l, s, t, h => by
    obtain ⟨u, hu, h⟩ := bdE_ok h
    have := hI _ _ _ hu
    have := thrL_pot hI l u t h
    omega
/-- the effects of words are small -/
def WdOk (W : ByteArray → Option (Nat × Nat)) : Prop := ∀ s e, W s = some e → e.1 ≤ 16 ∧ e.2 ≤ 16
theorem pm_small (s : ByteArray) : 0 ≤ (pmR s).1 ∧ (pmR s).1 ≤ 3 ∧ 0 ≤ (pmR s).2.1 ∧ (pmR s).2.1 ≤ 3 := by
  have key : ∀ (q : List (List UInt8 × Int × Int)), (∀ x ∈ q, 0 ≤ x.2.1 ∧ x.2.1 ≤ 3 ∧ 0 ≤ x.2.2 ∧ x.2.2 ≤ 3) → 0 ≤ (pmF s.toList q).1 ∧ (pmF s.toList q).1 ≤ 3 ∧ 0 ≤ (pmF s.toList q).2.1 ∧ (pmF s.toList q).2.1 ≤ 3 := by
    intro q
    induction q with
    | nil => intro _; simp [pmF]
    | cons x r ih =>
      intro hx
      unfold pmF
      split
      · exact hx x (by simp)
      · exact ih (fun y hy => hx y (by simp [hy]))
  exact key pmL (by decide)
theorem pln_ok {W : ByteArray → Option (Nat × Nat)} (hW : WdOk W) {s : ByteArray} {e : Nat × Nat} (h : plnE W s = some e) : e.1 ≤ 16 ∧ e.2 ≤ 16 := by
  unfold plnE at h
  split at h
  · injection h with h
    have := pm_small s
    subst h
    simp only
    omega
  · exact hW s e h
theorem itmE_pot {W : ByteArray → Option (Nat × Nat)} (hW : WdOk W) : ∀ (n : Nat) (x : Vt) (s t : Ist), itmE W n x s = .ok t → t.a ≤ s.a ∧ potE t ≤ potE s
  | 0, x, s, t, h => nomatch h
  | n + 1, x, s, t, h => by
    unfold itmE at h
    split at h
    · split at h
      · split at h
        · exact nomatch h
        · rename_i e he
          obtain ⟨u, hu, h⟩ := bdE_ok h
          have h1 := cntE_ok hu
          have h2 := pln_ok hW he
          injection h with h
          split at h
          · rename_i ps hps
            have := mv_cases hps
            have := movE_pot e.1 ps u
            rw [← h]
            omega
          · have := appE_pot e.1 e.2 u
            rw [← h]
            omega
      · obtain ⟨u, hu, h⟩ := bdE_ok h
        have h1 := cntE_ok hu
        have := ctlE_pot (thrL_pot (itmE_pot hW n)) h
        omega
    · split at h
      · injection h with h
        subst h
        exact ⟨Nat.le_refl _, Nat.le_refl _⟩
      · obtain ⟨u, hu, h⟩ := bdE_ok h
        have h1 := cntE_ok hu
        injection h with h
        rw [← h]
        unfold pushE potE at *
        simp only [List.length_append, List.length_cons, List.length_nil]
        omega
theorem thrE_pot {W : ByteArray → Option (Nat × Nat)} (hW : WdOk W) (n : Nat) (l : List Vt) (s t : Ist) (h : thrE W n l s = .ok t) : t.a ≤ s.a ∧ potE t ≤ potE s := thrL_pot (itmE_pot hW n) l s t h
end Go.Proofs.YtodbkihobgdpdaaGreatDoor
namespace Go.Proofs.YtodbkihobgdpdaaGreatDoor
open Go.RowKit Go.Lib
set_option linter.unusedSimpArgs false
set_option linter.unusedVariables false
/-- the items l from the place ao on, within the blocks S -/
def QsAt (w : World) (S : Nat → Prop) (d : Nat) (l : List Vt) (ao : Option Addr) : Prop := ∀ (j : Nat) (x : Vt), l[j]? = some x → ∃ g q u, ao = some ⟨g, q, none⟩ ∧ S g ∧ w.cell? ⟨g, q + j, none⟩ = some u ∧ TiAt w S d true x u
theorem QsAt.only {w w' : World} {S bs : Nat → Prop} {d : Nat} {l : List Vt} {ao : Option Addr} (h : QsAt w S d l ao) (o : Only bs w w') (hb : ∀ b, S b → ¬ bs b) : QsAt w' S d l ao := fun j x hx => by
  obtain ⟨g, q, u, h1, h2, h3, h4⟩ := h j x hx
  exact ⟨g, q, u, h1, h2, o.cell h3 (hb g h2), h4.only o hb⟩
/-- items within the bounds -/
def SmL (l : List Vt) : Prop := l.length ≤ 2513169434900 ∧ ∀ x ∈ l, ∃ e, SmT e x
/-- what an entry of the list is -/
def EnAt (w : World) (S : Nat → Prop) (d : Nat) (x : Ent) (b : Bool) (ao : Option Addr) (n cap : Nat) : Prop := match x with
  | none => b = false ∧ ao = none ∧ n = 0 ∧ cap = 0
  | some l => b = true ∧ n = l.length ∧ l.length ≤ cap ∧ SmL l ∧ QsAt w S d l ao
theorem EnAt.only {w w' : World} {S bs : Nat → Prop} {d n cap : Nat} {x : Ent} {b : Bool} {ao : Option Addr} (h : EnAt w S d x b ao n cap) (o : Only bs w w') (hb : ∀ b, S b → ¬ bs b) : EnAt w' S d x b ao n cap := by
  cases x with
  | none => exact h
  | some l => exact ⟨h.1, h.2.1, h.2.2.1, h.2.2.2.1, h.2.2.2.2.only o hb⟩
/-- the list st with tk values taken from below it, at the block s, as the row v -/
def EsV (w : World) (S : Nat → Prop) (d s : Nat) (st : List Ent) (tk : Nat) (v : Value) : Prop := ∃ (xs : List Value), w.heap[s]? = some (.cells #[v, .int .i64 (tk : Int)] 109) ∧ w.ownsRow (s + 1) 130 2 v st.length xs ∧
  ∀ (j : Nat) (x : Ent), st[j]? = some x → ∃ b ao n cap, xs[2 * j]? = some (.bool b) ∧ xs[2 * j + 1]? = some (.slice ao n cap) ∧ EnAt w S d x b ao n cap
/-- the list st with tk values taken from below it, at the block s -/
def EsAt (w : World) (S : Nat → Prop) (d s : Nat) (st : List Ent) (tk : Nat) : Prop := ∃ v, EsV w S d s st tk v
theorem EsAt.only {w w' : World} {S bs : Nat → Prop} {d s tk : Nat} {st : List Ent} (h : EsAt w S d s st tk) (o : Only bs w w') (hs : ∀ b, s ≤ b → ¬ bs b) (hb : ∀ b, S b → ¬ bs b) : EsAt w' S d s st tk := by
  obtain ⟨v, xs, h1, h2, h3⟩ := h
  refine ⟨v, xs, (o.block s (Array.getElem?_eq_some_iff.1 h1).1 (hs s (Nat.le_refl _))).trans h1, o.owns h2 (fun k hk => hs k (by have := (h2.lt k hk).1; omega)), fun j x hx => ?_⟩
  obtain ⟨b, ao, n, cap, g1, g2, g3⟩ := h3 j x hx
  exact ⟨b, ao, n, cap, g1, g2, g3.only o hb⟩
theorem EsAt.lt {w : World} {S : Nat → Prop} {d s tk : Nat} {st : List Ent} (h : EsAt w S d s st tk) : s < w.heap.size := by
  obtain ⟨v, xs, h1, _⟩ := h
  exact (Array.getElem?_eq_some_iff.1 h1).1
set_option maxRecDepth 100000 in
theorem en_info : ∃ i z, Tryz.prog.info? 130 = some i ∧ i.zero = some z ∧ i.size = 2 ∧ i.bytes = 32 ∧ z.cells.size = 2 := ⟨_, _, rfl, rfl, rfl, rfl, rfl⟩
/-- an entry is put behind a row of them: what append answers where the entry stands in a new block -/
theorem app_en {w W : World} {B n : Nat} {v : Value} {xs : List Value} {b : Bool} {ao : Option Addr} {m cap : Nat} (ho : w.ownsRow B 130 2 v n xs) (o : Only (fun _ => False) w W) (g : Nat) (hW : W.heap[g]? = some (.cells #[.bool b, .slice ao m cap] 130)) (hB : B ≤ W.heap.size) (hl : n ≤ 2000000) :
    ∃ v' w', (∀ ty, (Builtin.append_ #[107, 107] ty #[v, .slice (some ⟨g, 0, none⟩) 1 1]).run Tryz.prog W = .ok v' w') ∧ w'.ownsRow B 130 2 v' (n + 1) (xs ++ [.bool b, .slice ao m cap]) ∧ W.grownBy w' v.ownBlock ∧ (v'.ownBlock = v.ownBlock ∨ v'.ownBlock = some W.heap.size) := by
  obtain ⟨i0, z0, hi, hz0, hz1, hz2, hz3⟩ := en_info
  have ho2 := o.owns ho (fun _ _ e => e)
  have key := fun ty => run_append_own_at (P := Tryz.prog) W B 107 ty 130 i0 z0 2 32 Tryz.underlying107 hi hz0 hz1 hz2 hz3 (by omega) v n xs ho2 ⟨g, 0, none⟩ 1 1 [.bool b, .slice ao m cap] rfl (by
      intro j u hj
      rw [addr_ad, vblk_cells hW]
      simpa using hj) (by
      intro u hu
      simp only [List.mem_cons, List.not_mem_nil, or_false] at hu
      rcases hu with rfl | rfl
      · rfl
      · rfl) (by unfold maxLen; omega) (by omega) hB
  obtain ⟨v', w', hr, own', hg, _, hat⟩ := key 0
  refine ⟨v', w', fun ty => ?_, own', hg, hat⟩
  rw [← hr]
  rfl
theorem wr2_cell {w : World} {B : Nat} {x y : Value} {t : TypeId} (h : w.heap[B]? = some (.cells #[x, y] t)) : w.cell? ⟨B, 0, none⟩ = some x ∧ w.cell? ⟨B, 1, none⟩ = some y ∧ w.frozen? ⟨B, 0, none⟩ = false ∧ w.frozen? ⟨B, 1, none⟩ = false :=
  ⟨(vblk_cells h 0).trans rfl, (vblk_cells h 1).trans rfl, eblk_froz h 0, eblk_froz h 1⟩
theorem EsAt.snoc {w w' : World} {S : Nat → Prop} {d s tk : Nat} {st : List Ent} {x : Ent} {b : Bool} {ao : Option Addr} {n cap : Nat} {v' : Value} {xs : List Value} (hS : ∀ b, S b → b < s)
    (h3 : ∀ (j : Nat) (x : Ent), st[j]? = some x → ∃ b ao n cap, xs[2 * j]? = some (.bool b) ∧ xs[2 * j + 1]? = some (.slice ao n cap) ∧ EnAt w S d x b ao n cap) (he : EnAt w S d x b ao n cap) (hx : xs.length = st.length * 2)
    (o : Only (fun b => s ≤ b) w w') (h1 : w'.heap[s]? = some (.cells #[v', .int .i64 (tk : Int)] 109)) (h2 : w'.ownsRow (s + 1) 130 2 v' (st.length + 1) (xs ++ [.bool b, .slice ao n cap])) : EsV w' S d s (st ++ [x]) tk v' := by
  have hb : ∀ b, S b → ¬ s ≤ b := fun b hb => by have := hS b hb; omega
  refine ⟨_, h1, by simpa using h2, fun j y hy => ?_⟩
  by_cases hj : j < st.length
  · rw [List.getElem?_append_left hj] at hy
    obtain ⟨b', ao', n', cap', g1, g2, g3⟩ := h3 j y hy
    exact ⟨b', ao', n', cap', by rw [List.getElem?_append_left (by omega)]; exact g1, by rw [List.getElem?_append_left (by omega)]; exact g2, g3.only o hb⟩
  · have hj2 : j < (st ++ [x]).length := (List.getElem?_eq_some_iff.1 hy).1
    have hj3 : j = st.length := by simp at hj2; omega
    subst hj3
    simp at hy
    subst hy
    exact ⟨b, ao, n, cap, by rw [List.getElem?_append_right (by omega), hx, show 2 * st.length - st.length * 2 = 0 by omega]; rfl, by rw [List.getElem?_append_right (by omega), hx, show 2 * st.length + 1 - st.length * 2 = 1 by omega]; rfl, he.only o hb⟩
set_option maxRecDepth 100000 in
set_option maxHeartbeats 1000000 in
theorem push_v {w : World} {S : Nat → Prop} {d s tk : Nat} {st : List Ent} {v : Value} (h : EsV w S d s st tk v) (hS : ∀ b, S b → b < s) {x : Ent} {b : Bool} {ao : Option Addr} {n cap : Nat} (he : EnAt w S d x b ao n cap) (hl : st.length ≤ 2000000) :
    Calls Tryz.prog 55 #[.pointer (some ⟨s, 0, none⟩), .agg #[.bool b, .slice ao n cap]] w fun e w' => e = .returned (.tuple #[]) ∧ Hid ((∃ v', EsV w' S d s (st ++ [x]) tk v' ∧ (v'.ownBlock = v.ownBlock ∨ ∃ k, v'.ownBlock = some k ∧ w.heap.size ≤ k)) ∧ Only (fun b => b = s ∨ v.ownBlock = some b) w w') := by
  have hlt := EsAt.lt ⟨v, h⟩
  obtain ⟨xs, h1, h2, h3⟩ := h
  obtain ⟨a0, c0, hv⟩ := ownsRow_slice h2
  obtain ⟨W1, hW1⟩ : ∃ W, W = w.alloc (.cells #[.bool b, .slice ao n cap] 130) := ⟨_, rfl⟩
  obtain ⟨W2, hW2⟩ : ∃ W, W = (W1.alloc (.cells #[.bool b, .slice ao n cap] 130)).drew := ⟨_, rfl⟩
  have o1 : Only (fun _ => False) w W1 := by rw [hW1]; exact (Only.refl _ w).alloc _
  have o2 : Only (fun _ => False) w W2 := by rw [hW2]; exact (o1.alloc _).drew
  have hs1 := o1.size
  have hs2 := o2.size
  obtain ⟨v', w3, hr, own3, hg3, hat⟩ := app_en (b := b) (ao := ao) (m := n) (cap := cap) h2 o2 (w.heap.size + 1) (by rw [hW2]; exact ealloc_at W1 _ _ (by rw [hW1]; simp)) (by omega) hl
  obtain ⟨a3, c3, hv3⟩ := ownsRow_slice own3
  have o3 : Only (fun b => s + 1 ≤ b) w w3 := (o2.mono (bs' := fun b => s + 1 ≤ b) (fun _ _ g => g.elim)).grown hg3 (fun k e _ => (h2.lt k e).1)
  have b3 : w3.heap[s]? = some (.cells #[v, .int .i64 (tk : Int)] 109) := (o3.block s hlt (by omega)).trans h1
  have k3 := wr2_cell b3
  have o4 : Only (fun b => s ≤ b) w (w3.setCell ⟨s, 0, none⟩ v') := (o3.mono (bs' := fun b => s ≤ b) (fun k _ g => by omega)).setCell ⟨s, 0, none⟩ v' (fun _ => Nat.le_refl _)
  have o5 : Only (fun b => b = s ∨ v.ownBlock = some b) w (w3.setCell ⟨s, 0, none⟩ v') := ((o2.mono (bs' := fun b => b = s ∨ v.ownBlock = some b) (fun _ _ g => g.elim)).grown hg3 (fun k e _ => .inr e)).setCell ⟨s, 0, none⟩ v' (fun _ => .inl rfl)
  have F : Hid ((∃ u, EsV (w3.setCell ⟨s, 0, none⟩ v') S d s (st ++ [x]) tk u ∧ (u.ownBlock = v.ownBlock ∨ ∃ k, u.ownBlock = some k ∧ w.heap.size ≤ k)) ∧ Only (fun b => b = s ∨ v.ownBlock = some b) w (w3.setCell ⟨s, 0, none⟩ v')) := by
    refine ⟨⟨v', EsAt.snoc (v' := v') hS h3 he (by have := h2.1; omega) o4 ?_ ?_, hat.imp id (fun e => ⟨_, e, hs2⟩)⟩, o5⟩
    · rw [heap_setCell_same _ _ _ _ _ _ b3]
      rfl
    · refine ((Only.refl (fun b => b = s) w3).setCell ⟨s, 0, none⟩ v' (fun _ => rfl)).owns own3 (fun k hk e => ?_)
      have := (own3.lt k hk).1
      omega
  have HR : Hid _ := hr
  have c1 := (wr2_cell ((o1.block s hlt (fun e => e)).trans h1)).1
  have c2 := (wr2_cell ((o2.block s hlt (fun e => e)).trans h1)).1
  have d1 := wr2_cell (show W1.heap[w.heap.size]? = some (.cells #[.bool b, .slice ao n cap] 130) by rw [hW1]; exact ealloc_at _ _ _ rfl)
  have d2 := wr2_cell (show W2.heap[w.heap.size]? = some (.cells #[.bool b, .slice ao n cap] 130) by rw [hW2]; exact alloc_old (W := W1) (by rw [hW1]; exact ealloc_at _ _ _ rfl))
  obtain ⟨e10, e11, -, -⟩ := d1
  obtain ⟨e20, e21, -, -⟩ := d2
  obtain ⟨k30, k31, k3f, -⟩ := k3
  subst hv hv3
  clear h1 h2 h3 he hS o1 o2 o3 o4 o5 own3 hg3 hat b3 hr hs1 hs2 hl
  rw [hW2, hW1] at HR
  rw [hW2, hW1] at c2 e20 e21
  rw [hW1] at c1 e10 e11
  clear hW1 hW2 W1 W2
  go_enter Tryz.func55, Tryz.ntmps55
  go_wp2_with fail
  go_region_law (refine vstep_append_run (by rfl) _ _ 107 (by rfl) _ _ (.slice a3 (st.length + 1) c3) (by rfl) (by rfl) HR.out ?_)
  all_goals (go_wp2; first | (refine bodyPost_ret (results_none rfl _ _ _) rfl ?_; exact ⟨rfl, F.out⟩) | (refine ⟨_, results_none rfl _ _ _, rfl, F.out⟩) | (refine ⟨rfl, _, results_none rfl _ _ _, rfl, F.out⟩))
theorem push_any {w : World} {S : Nat → Prop} {d s tk : Nat} {st : List Ent} (h : EsAt w S d s st tk) (hS : ∀ b, S b → b < s) {x : Ent} {b : Bool} {ao : Option Addr} {n cap : Nat} (he : EnAt w S d x b ao n cap) (hl : st.length ≤ 2000000) :
    Calls Tryz.prog 55 #[.pointer (some ⟨s, 0, none⟩), .agg #[.bool b, .slice ao n cap]] w fun e w' => e = .returned (.tuple #[]) ∧ Hid (EsAt w' S d s (st ++ [x]) tk ∧ Only (fun b => s ≤ b) w w') := by
  obtain ⟨v, h⟩ := h
  have h2 := h
  obtain ⟨xs, _, own, _⟩ := h2
  refine (push_v h hS he hl).mono fun e w' g => ⟨g.1, ?_⟩
  obtain ⟨⟨v', g1, _⟩, g2⟩ := g.2.out
  refine ⟨⟨v', g1⟩, g2.mono fun k _ e => ?_⟩
  rcases e with e | e
  · omega
  · have := (own.lt k e).1
    omega
end Go.Proofs.YtodbkihobgdpdaaGreatDoor
