/- Primitives: all. PrimNames: the law's walk. -/
import Derived.Test.YtgnmedjknbbfhaaGreatDoorGap
import Derived.Test.YtgnmedjknbbfhaaGreatDoorGaq
namespace Go.Proofs.YtgnmedjknbbfhaaGreatDoor
open Go.RowKit
set_option linter.unusedSimpArgs false
set_option linter.unusedVariables false
theorem pm_cases (s : ByteArray) : (∃ k : Fin 44, s = ⟨(pmL[k.1]'(k.2)).1.toArray⟩) ∨ ∀ (k : Nat) (h : k < 44), s.toList ≠ (pmL[k]'h).1 := by
  by_cases h : ∃ k : Fin 44, s.toList = (pmL[k.1]'(k.2)).1
  · obtain ⟨k, hk⟩ := h
    exact .inl ⟨k, to_lit hk⟩
  · exact .inr fun k hk e => h ⟨⟨k, hk⟩, e⟩
theorem pm_none {s : ByteArray} (hn : ∀ (k : Nat) (h : k < 44), s.toList ≠ (pmL[k]'h).1) : pmR s = (0, 0, false) :=
  pmF_no _ _ fun x hx => by
    obtain ⟨k, hk, rfl⟩ := List.getElem_of_mem hx
    exact hn k hk
set_option maxRecDepth 100000 in
set_option maxHeartbeats 4000000 in
theorem pm_no {s : ByteArray} (hn : ∀ (k : Nat) (h : k < 44), s.toList ≠ (pmL[k]'h).1) : PmC s := by
  intro w
  rw [pm_none hn]
  have n0 : (s.toList == [100, 114, 111, 112]) = false := beq_false_of_ne (show s.toList ≠ [100, 114, 111, 112] from hn 0 (by decide))
  have n1 : (s.toList == [46]) = false := beq_false_of_ne (show s.toList ≠ [46] from hn 1 (by decide))
  have n2 : (s.toList == [110, 101, 103]) = false := beq_false_of_ne (show s.toList ≠ [110, 101, 103] from hn 2 (by decide))
  have n3 : (s.toList == [97, 98, 115]) = false := beq_false_of_ne (show s.toList ≠ [97, 98, 115] from hn 3 (by decide))
  have n4 : (s.toList == [110, 111, 116]) = false := beq_false_of_ne (show s.toList ≠ [110, 111, 116] from hn 4 (by decide))
  have n5 : (s.toList == [105, 110, 116, 63]) = false := beq_false_of_ne (show s.toList ≠ [105, 110, 116, 63] from hn 5 (by decide))
  have n6 : (s.toList == [115, 116, 114, 63]) = false := beq_false_of_ne (show s.toList ≠ [115, 116, 114, 63] from hn 6 (by decide))
  have n7 : (s.toList == [98, 111, 111, 108, 63]) = false := beq_false_of_ne (show s.toList ≠ [98, 111, 111, 108, 63] from hn 7 (by decide))
  have n8 : (s.toList == [108, 105, 115, 116, 63]) = false := beq_false_of_ne (show s.toList ≠ [108, 105, 115, 116, 63] from hn 8 (by decide))
  have n9 : (s.toList == [113, 117, 111, 116, 63]) = false := beq_false_of_ne (show s.toList ≠ [113, 117, 111, 116, 63] from hn 9 (by decide))
  have n10 : (s.toList == [98, 111, 120, 63]) = false := beq_false_of_ne (show s.toList ≠ [98, 111, 120, 63] from hn 10 (by decide))
  have n11 : (s.toList == [108, 101, 110, 103, 116, 104]) = false := beq_false_of_ne (show s.toList ≠ [108, 101, 110, 103, 116, 104] from hn 11 (by decide))
  have n12 : (s.toList == [119, 114, 97, 112]) = false := beq_false_of_ne (show s.toList ≠ [119, 114, 97, 112] from hn 12 (by decide))
  have n13 : (s.toList == [114, 101, 118, 101, 114, 115, 101]) = false := beq_false_of_ne (show s.toList ≠ [114, 101, 118, 101, 114, 115, 101] from hn 13 (by decide))
  have n14 : (s.toList == [62, 115, 116, 114]) = false := beq_false_of_ne (show s.toList ≠ [62, 115, 116, 114] from hn 14 (by decide))
  have n15 : (s.toList == [62, 105, 110, 116]) = false := beq_false_of_ne (show s.toList ≠ [62, 105, 110, 116] from hn 15 (by decide))
  have n16 : (s.toList == [98, 111, 120]) = false := beq_false_of_ne (show s.toList ≠ [98, 111, 120] from hn 16 (by decide))
  have n17 : (s.toList == [103, 101, 116]) = false := beq_false_of_ne (show s.toList ≠ [103, 101, 116] from hn 17 (by decide))
  have n18 : (s.toList == [100, 117, 112]) = false := beq_false_of_ne (show s.toList ≠ [100, 117, 112] from hn 18 (by decide))
  have n19 : (s.toList == [117, 110, 112, 97, 105, 114]) = false := beq_false_of_ne (show s.toList ≠ [117, 110, 112, 97, 105, 114] from hn 19 (by decide))
  have n20 : (s.toList == [112, 117, 116]) = false := beq_false_of_ne (show s.toList ≠ [112, 117, 116] from hn 20 (by decide))
  have n21 : (s.toList == [110, 105, 112]) = false := beq_false_of_ne (show s.toList ≠ [110, 105, 112] from hn 21 (by decide))
  have n22 : (s.toList == [43]) = false := beq_false_of_ne (show s.toList ≠ [43] from hn 22 (by decide))
  have n23 : (s.toList == [45]) = false := beq_false_of_ne (show s.toList ≠ [45] from hn 23 (by decide))
  have n24 : (s.toList == [42]) = false := beq_false_of_ne (show s.toList ≠ [42] from hn 24 (by decide))
  have n25 : (s.toList == [47]) = false := beq_false_of_ne (show s.toList ≠ [47] from hn 25 (by decide))
  have n26 : (s.toList == [109, 111, 100]) = false := beq_false_of_ne (show s.toList ≠ [109, 111, 100] from hn 26 (by decide))
  have n27 : (s.toList == [109, 105, 110]) = false := beq_false_of_ne (show s.toList ≠ [109, 105, 110] from hn 27 (by decide))
  have n28 : (s.toList == [109, 97, 120]) = false := beq_false_of_ne (show s.toList ≠ [109, 97, 120] from hn 28 (by decide))
  have n29 : (s.toList == [60]) = false := beq_false_of_ne (show s.toList ≠ [60] from hn 29 (by decide))
  have n30 : (s.toList == [62]) = false := beq_false_of_ne (show s.toList ≠ [62] from hn 30 (by decide))
  have n31 : (s.toList == [61]) = false := beq_false_of_ne (show s.toList ≠ [61] from hn 31 (by decide))
  have n32 : (s.toList == [97, 110, 100]) = false := beq_false_of_ne (show s.toList ≠ [97, 110, 100] from hn 32 (by decide))
  have n33 : (s.toList == [111, 114]) = false := beq_false_of_ne (show s.toList ≠ [111, 114] from hn 33 (by decide))
  have n34 : (s.toList == [97, 112, 112, 101, 110, 100]) = false := beq_false_of_ne (show s.toList ≠ [97, 112, 112, 101, 110, 100] from hn 34 (by decide))
  have n35 : (s.toList == [110, 116, 104]) = false := beq_false_of_ne (show s.toList ≠ [110, 116, 104] from hn 35 (by decide))
  have n36 : (s.toList == [112, 97, 105, 114]) = false := beq_false_of_ne (show s.toList ≠ [112, 97, 105, 114] from hn 36 (by decide))
  have n37 : (s.toList == [99, 117, 114, 114, 121]) = false := beq_false_of_ne (show s.toList ≠ [99, 117, 114, 114, 121] from hn 37 (by decide))
  have n38 : (s.toList == [99, 111, 109, 112, 111, 115, 101]) = false := beq_false_of_ne (show s.toList ≠ [99, 111, 109, 112, 111, 115, 101] from hn 38 (by decide))
  have n39 : (s.toList == [115, 119, 97, 112]) = false := beq_false_of_ne (show s.toList ≠ [115, 119, 97, 112] from hn 39 (by decide))
  have n40 : (s.toList == [111, 118, 101, 114]) = false := beq_false_of_ne (show s.toList ≠ [111, 118, 101, 114] from hn 40 (by decide))
  have n41 : (s.toList == [116, 117, 99, 107]) = false := beq_false_of_ne (show s.toList ≠ [116, 117, 99, 107] from hn 41 (by decide))
  have n42 : (s.toList == [115, 108, 105, 99, 101]) = false := beq_false_of_ne (show s.toList ≠ [115, 108, 105, 99, 101] from hn 42 (by decide))
  have n43 : (s.toList == [114, 111, 116]) = false := beq_false_of_ne (show s.toList ≠ [114, 111, 116] from hn 43 (by decide))
  clear hn
  go_enter Tryz.func40, Tryz.ntmps40
  go_wp2_with fail
  have hq : TwC (w.alloc (.cells #[.int .i64 0, .int .i64 0] 39)) w.heap.size 0 0 := ealloc_at _ _ _ rfl
  obtain ⟨q0, q1, _, _⟩ := hq.cells
  refine bodyPost_ret (results_eff rfl _ _ w.heap.size q0 q1 rfl) rfl ?_
  exact ⟨rfl, (Only.refl _ w).alloc _⟩
set_option maxRecDepth 100000 in
set_option maxHeartbeats 4000000 in
theorem rm_no {s : ByteArray} (hn : ∀ (k : Nat) (h : k < 44), s.toList ≠ (pmL[k]'h).1) : RmC s := by
  intro w
  rw [pm_none hn]
  have n0 : (s.toList == [100, 114, 111, 112]) = false := beq_false_of_ne (show s.toList ≠ [100, 114, 111, 112] from hn 0 (by decide))
  have n1 : (s.toList == [46]) = false := beq_false_of_ne (show s.toList ≠ [46] from hn 1 (by decide))
  have n2 : (s.toList == [110, 101, 103]) = false := beq_false_of_ne (show s.toList ≠ [110, 101, 103] from hn 2 (by decide))
  have n3 : (s.toList == [97, 98, 115]) = false := beq_false_of_ne (show s.toList ≠ [97, 98, 115] from hn 3 (by decide))
  have n4 : (s.toList == [110, 111, 116]) = false := beq_false_of_ne (show s.toList ≠ [110, 111, 116] from hn 4 (by decide))
  have n5 : (s.toList == [105, 110, 116, 63]) = false := beq_false_of_ne (show s.toList ≠ [105, 110, 116, 63] from hn 5 (by decide))
  have n6 : (s.toList == [115, 116, 114, 63]) = false := beq_false_of_ne (show s.toList ≠ [115, 116, 114, 63] from hn 6 (by decide))
  have n7 : (s.toList == [98, 111, 111, 108, 63]) = false := beq_false_of_ne (show s.toList ≠ [98, 111, 111, 108, 63] from hn 7 (by decide))
  have n8 : (s.toList == [108, 105, 115, 116, 63]) = false := beq_false_of_ne (show s.toList ≠ [108, 105, 115, 116, 63] from hn 8 (by decide))
  have n9 : (s.toList == [113, 117, 111, 116, 63]) = false := beq_false_of_ne (show s.toList ≠ [113, 117, 111, 116, 63] from hn 9 (by decide))
  have n10 : (s.toList == [98, 111, 120, 63]) = false := beq_false_of_ne (show s.toList ≠ [98, 111, 120, 63] from hn 10 (by decide))
  have n11 : (s.toList == [108, 101, 110, 103, 116, 104]) = false := beq_false_of_ne (show s.toList ≠ [108, 101, 110, 103, 116, 104] from hn 11 (by decide))
  have n12 : (s.toList == [119, 114, 97, 112]) = false := beq_false_of_ne (show s.toList ≠ [119, 114, 97, 112] from hn 12 (by decide))
  have n13 : (s.toList == [114, 101, 118, 101, 114, 115, 101]) = false := beq_false_of_ne (show s.toList ≠ [114, 101, 118, 101, 114, 115, 101] from hn 13 (by decide))
  have n14 : (s.toList == [62, 115, 116, 114]) = false := beq_false_of_ne (show s.toList ≠ [62, 115, 116, 114] from hn 14 (by decide))
  have n15 : (s.toList == [62, 105, 110, 116]) = false := beq_false_of_ne (show s.toList ≠ [62, 105, 110, 116] from hn 15 (by decide))
  have n16 : (s.toList == [98, 111, 120]) = false := beq_false_of_ne (show s.toList ≠ [98, 111, 120] from hn 16 (by decide))
  have n17 : (s.toList == [103, 101, 116]) = false := beq_false_of_ne (show s.toList ≠ [103, 101, 116] from hn 17 (by decide))
  have n18 : (s.toList == [100, 117, 112]) = false := beq_false_of_ne (show s.toList ≠ [100, 117, 112] from hn 18 (by decide))
  have n19 : (s.toList == [117, 110, 112, 97, 105, 114]) = false := beq_false_of_ne (show s.toList ≠ [117, 110, 112, 97, 105, 114] from hn 19 (by decide))
  have n20 : (s.toList == [112, 117, 116]) = false := beq_false_of_ne (show s.toList ≠ [112, 117, 116] from hn 20 (by decide))
  have n21 : (s.toList == [110, 105, 112]) = false := beq_false_of_ne (show s.toList ≠ [110, 105, 112] from hn 21 (by decide))
  have n22 : (s.toList == [43]) = false := beq_false_of_ne (show s.toList ≠ [43] from hn 22 (by decide))
  have n23 : (s.toList == [45]) = false := beq_false_of_ne (show s.toList ≠ [45] from hn 23 (by decide))
  have n24 : (s.toList == [42]) = false := beq_false_of_ne (show s.toList ≠ [42] from hn 24 (by decide))
  have n25 : (s.toList == [47]) = false := beq_false_of_ne (show s.toList ≠ [47] from hn 25 (by decide))
  have n26 : (s.toList == [109, 111, 100]) = false := beq_false_of_ne (show s.toList ≠ [109, 111, 100] from hn 26 (by decide))
  have n27 : (s.toList == [109, 105, 110]) = false := beq_false_of_ne (show s.toList ≠ [109, 105, 110] from hn 27 (by decide))
  have n28 : (s.toList == [109, 97, 120]) = false := beq_false_of_ne (show s.toList ≠ [109, 97, 120] from hn 28 (by decide))
  have n29 : (s.toList == [60]) = false := beq_false_of_ne (show s.toList ≠ [60] from hn 29 (by decide))
  have n30 : (s.toList == [62]) = false := beq_false_of_ne (show s.toList ≠ [62] from hn 30 (by decide))
  have n31 : (s.toList == [61]) = false := beq_false_of_ne (show s.toList ≠ [61] from hn 31 (by decide))
  have n32 : (s.toList == [97, 110, 100]) = false := beq_false_of_ne (show s.toList ≠ [97, 110, 100] from hn 32 (by decide))
  have n33 : (s.toList == [111, 114]) = false := beq_false_of_ne (show s.toList ≠ [111, 114] from hn 33 (by decide))
  have n34 : (s.toList == [97, 112, 112, 101, 110, 100]) = false := beq_false_of_ne (show s.toList ≠ [97, 112, 112, 101, 110, 100] from hn 34 (by decide))
  have n35 : (s.toList == [110, 116, 104]) = false := beq_false_of_ne (show s.toList ≠ [110, 116, 104] from hn 35 (by decide))
  have n36 : (s.toList == [112, 97, 105, 114]) = false := beq_false_of_ne (show s.toList ≠ [112, 97, 105, 114] from hn 36 (by decide))
  have n37 : (s.toList == [99, 117, 114, 114, 121]) = false := beq_false_of_ne (show s.toList ≠ [99, 117, 114, 114, 121] from hn 37 (by decide))
  have n38 : (s.toList == [99, 111, 109, 112, 111, 115, 101]) = false := beq_false_of_ne (show s.toList ≠ [99, 111, 109, 112, 111, 115, 101] from hn 38 (by decide))
  have n39 : (s.toList == [115, 119, 97, 112]) = false := beq_false_of_ne (show s.toList ≠ [115, 119, 97, 112] from hn 39 (by decide))
  have n40 : (s.toList == [111, 118, 101, 114]) = false := beq_false_of_ne (show s.toList ≠ [111, 118, 101, 114] from hn 40 (by decide))
  have n41 : (s.toList == [116, 117, 99, 107]) = false := beq_false_of_ne (show s.toList ≠ [116, 117, 99, 107] from hn 41 (by decide))
  have n42 : (s.toList == [115, 108, 105, 99, 101]) = false := beq_false_of_ne (show s.toList ≠ [115, 108, 105, 99, 101] from hn 42 (by decide))
  have n43 : (s.toList == [114, 111, 116]) = false := beq_false_of_ne (show s.toList ≠ [114, 111, 116] from hn 43 (by decide))
  clear hn
  have HM : Hid (∀ w1, Calls Tryz.prog 41 #[.string s] w1 fun e w' => e = .returned (.tuple #[.int .i64 0, .slice none 0 0, .bool false]) ∧ w' = w1) := by
    intro w1
    go_enter Tryz.func41, Tryz.ntmps41
    go_wp2_with fail
    go_ret3
    exact ⟨rfl, rfl⟩
  go_enter Tryz.func21, Tryz.ntmps21
  go_wp2_with fail
  refine (show Calls Tryz.prog 41 _ _ _ from HM.out _).mono ?_
  rintro e w1 ⟨rfl, rfl⟩
  clear HM
  go_wp2_with fail
  go_ret3
  exact ⟨rfl, Only.refl _ _⟩
theorem prim_any (s : ByteArray) : PmC s := by
  rcases pm_cases s with ⟨k, rfl⟩ | h
  · match k with
    | ⟨0, _⟩ => exact pm_0
    | ⟨1, _⟩ => exact pm_1
    | ⟨2, _⟩ => exact pm_2
    | ⟨3, _⟩ => exact pm_3
    | ⟨4, _⟩ => exact pm_4
    | ⟨5, _⟩ => exact pm_5
    | ⟨6, _⟩ => exact pm_6
    | ⟨7, _⟩ => exact pm_7
    | ⟨8, _⟩ => exact pm_8
    | ⟨9, _⟩ => exact pm_9
    | ⟨10, _⟩ => exact pm_10
    | ⟨11, _⟩ => exact pm_11
    | ⟨12, _⟩ => exact pm_12
    | ⟨13, _⟩ => exact pm_13
    | ⟨14, _⟩ => exact pm_14
    | ⟨15, _⟩ => exact pm_15
    | ⟨16, _⟩ => exact pm_16
    | ⟨17, _⟩ => exact pm_17
    | ⟨18, _⟩ => exact pm_18
    | ⟨19, _⟩ => exact pm_19
    | ⟨20, _⟩ => exact pm_20
    | ⟨21, _⟩ => exact pm_21
    | ⟨22, _⟩ => exact pm_22
    | ⟨23, _⟩ => exact pm_23
    | ⟨24, _⟩ => exact pm_24
    | ⟨25, _⟩ => exact pm_25
    | ⟨26, _⟩ => exact pm_26
    | ⟨27, _⟩ => exact pm_27
    | ⟨28, _⟩ => exact pm_28
    | ⟨29, _⟩ => exact pm_29
    | ⟨30, _⟩ => exact pm_30
    | ⟨31, _⟩ => exact pm_31
    | ⟨32, _⟩ => exact pm_32
    | ⟨33, _⟩ => exact pm_33
    | ⟨34, _⟩ => exact pm_34
    | ⟨35, _⟩ => exact pm_35
    | ⟨36, _⟩ => exact pm_36
    | ⟨37, _⟩ => exact pm_37
    | ⟨38, _⟩ => exact pm_38
    | ⟨39, _⟩ => exact pm_39
    | ⟨40, _⟩ => exact pm_40
    | ⟨41, _⟩ => exact pm_41
    | ⟨42, _⟩ => exact pm_42
    | ⟨43, _⟩ => exact pm_43
    | ⟨k + 44, h⟩ => exact absurd h (by omega)
  · exact pm_no h
theorem rprim_any (s : ByteArray) : RmC s := by
  rcases pm_cases s with ⟨k, rfl⟩ | h
  · match k with
    | ⟨0, _⟩ => exact rm_0
    | ⟨1, _⟩ => exact rm_1
    | ⟨2, _⟩ => exact rm_2
    | ⟨3, _⟩ => exact rm_3
    | ⟨4, _⟩ => exact rm_4
    | ⟨5, _⟩ => exact rm_5
    | ⟨6, _⟩ => exact rm_6
    | ⟨7, _⟩ => exact rm_7
    | ⟨8, _⟩ => exact rm_8
    | ⟨9, _⟩ => exact rm_9
    | ⟨10, _⟩ => exact rm_10
    | ⟨11, _⟩ => exact rm_11
    | ⟨12, _⟩ => exact rm_12
    | ⟨13, _⟩ => exact rm_13
    | ⟨14, _⟩ => exact rm_14
    | ⟨15, _⟩ => exact rm_15
    | ⟨16, _⟩ => exact rm_16
    | ⟨17, _⟩ => exact rm_17
    | ⟨18, _⟩ => exact rm_18
    | ⟨19, _⟩ => exact rm_19
    | ⟨20, _⟩ => exact rm_20
    | ⟨21, _⟩ => exact rm_21
    | ⟨22, _⟩ => exact rm_22
    | ⟨23, _⟩ => exact rm_23
    | ⟨24, _⟩ => exact rm_24
    | ⟨25, _⟩ => exact rm_25
    | ⟨26, _⟩ => exact rm_26
    | ⟨27, _⟩ => exact rm_27
    | ⟨28, _⟩ => exact rm_28
    | ⟨29, _⟩ => exact rm_29
    | ⟨30, _⟩ => exact rm_30
    | ⟨31, _⟩ => exact rm_31
    | ⟨32, _⟩ => exact rm_32
    | ⟨33, _⟩ => exact rm_33
    | ⟨34, _⟩ => exact rm_34
    | ⟨35, _⟩ => exact rm_35
    | ⟨36, _⟩ => exact rm_36
    | ⟨37, _⟩ => exact rm_37
    | ⟨38, _⟩ => exact rm_38
    | ⟨39, _⟩ => exact rm_39
    | ⟨40, _⟩ => exact rm_40
    | ⟨41, _⟩ => exact rm_41
    | ⟨42, _⟩ => exact rm_42
    | ⟨43, _⟩ => exact rm_43
    | ⟨k + 44, h⟩ => exact absurd h (by omega)
  · exact rm_no h
end Go.Proofs.YtgnmedjknbbfhaaGreatDoor
namespace Go.Proofs.YtgnmedjknbbfhaaGreatDoor
open Go.RowKit Go.Lib
set_option linter.unusedSimpArgs false
set_option linter.unusedVariables false
set_option maxRecDepth 100000 in
theorem rnames_any (w : World) : Calls Tryz.prog 17 #[] w fun e w' => e = .returned (.slice (some ⟨w.heap.size, 0, none⟩) 52 52) ∧ w' = w.alloc (.cells (pmNames.map Value.string).toArray 9) := by
  go_enter Tryz.func17, Tryz.ntmps17
  go_wp2
  go_ret
  exact ⟨rfl, rfl⟩
/-- the words of code -/
def ctL : List (List UInt8) := [[99, 97, 108, 108], [100, 105, 112], [107, 101, 101, 112], [105, 102], [119, 104, 101, 110], [116, 105, 109, 101, 115], [101, 97, 99, 104], [108, 111, 111, 112]]
def ctB (s : ByteArray) : Bool := ctL.contains s.toList
set_option maxRecDepth 100000 in
theorem ct_0 (w : World) : Calls Tryz.prog 39 #[.string ⟨#[99, 97, 108, 108]⟩] w fun e w' => e = .returned (.bool true) ∧ w' = w := by
  go_enter Tryz.func39, Tryz.ntmps39
  go_wp2
  go_ret
  exact ⟨rfl, rfl⟩
set_option maxRecDepth 100000 in
theorem ct_1 (w : World) : Calls Tryz.prog 39 #[.string ⟨#[100, 105, 112]⟩] w fun e w' => e = .returned (.bool true) ∧ w' = w := by
  go_enter Tryz.func39, Tryz.ntmps39
  go_wp2
  go_ret
  exact ⟨rfl, rfl⟩
set_option maxRecDepth 100000 in
theorem ct_2 (w : World) : Calls Tryz.prog 39 #[.string ⟨#[107, 101, 101, 112]⟩] w fun e w' => e = .returned (.bool true) ∧ w' = w := by
  go_enter Tryz.func39, Tryz.ntmps39
  go_wp2
  go_ret
  exact ⟨rfl, rfl⟩
set_option maxRecDepth 100000 in
theorem ct_3 (w : World) : Calls Tryz.prog 39 #[.string ⟨#[105, 102]⟩] w fun e w' => e = .returned (.bool true) ∧ w' = w := by
  go_enter Tryz.func39, Tryz.ntmps39
  go_wp2
  go_ret
  exact ⟨rfl, rfl⟩
set_option maxRecDepth 100000 in
theorem ct_4 (w : World) : Calls Tryz.prog 39 #[.string ⟨#[119, 104, 101, 110]⟩] w fun e w' => e = .returned (.bool true) ∧ w' = w := by
  go_enter Tryz.func39, Tryz.ntmps39
  go_wp2
  go_ret
  exact ⟨rfl, rfl⟩
set_option maxRecDepth 100000 in
theorem ct_5 (w : World) : Calls Tryz.prog 39 #[.string ⟨#[116, 105, 109, 101, 115]⟩] w fun e w' => e = .returned (.bool true) ∧ w' = w := by
  go_enter Tryz.func39, Tryz.ntmps39
  go_wp2
  go_ret
  exact ⟨rfl, rfl⟩
set_option maxRecDepth 100000 in
theorem ct_6 (w : World) : Calls Tryz.prog 39 #[.string ⟨#[101, 97, 99, 104]⟩] w fun e w' => e = .returned (.bool true) ∧ w' = w := by
  go_enter Tryz.func39, Tryz.ntmps39
  go_wp2
  go_ret
  exact ⟨rfl, rfl⟩
set_option maxRecDepth 100000 in
theorem ct_7 (w : World) : Calls Tryz.prog 39 #[.string ⟨#[108, 111, 111, 112]⟩] w fun e w' => e = .returned (.bool true) ∧ w' = w := by
  go_enter Tryz.func39, Tryz.ntmps39
  go_wp2
  go_ret
  exact ⟨rfl, rfl⟩
set_option maxRecDepth 100000 in
theorem ct_no {s : ByteArray} (h0 : (s.toList == [99, 97, 108, 108]) = false) (h1 : (s.toList == [100, 105, 112]) = false) (h2 : (s.toList == [107, 101, 101, 112]) = false) (h3 : (s.toList == [105, 102]) = false) (h4 : (s.toList == [119, 104, 101, 110]) = false) (h5 : (s.toList == [116, 105, 109, 101, 115]) = false) (h6 : (s.toList == [101, 97, 99, 104]) = false) (h7 : (s.toList == [108, 111, 111, 112]) = false) (w : World) : Calls Tryz.prog 39 #[.string s] w fun e w' => e = .returned (.bool false) ∧ w' = w := by
  go_enter Tryz.func39, Tryz.ntmps39
  go_wp2
  go_ret
  exact ⟨rfl, rfl⟩
theorem control_any (s : ByteArray) (w : World) : Calls Tryz.prog 39 #[.string s] w fun e w' => e = .returned (.bool (ctB s)) ∧ w' = w := by
  by_cases h0 : s.toList = [99, 97, 108, 108]
  · obtain rfl := to_lit h0
    rw [show ctB ⟨[99, 97, 108, 108].toArray⟩ = true by kernel_rfl]
    exact ct_0 w
  by_cases h1 : s.toList = [100, 105, 112]
  · obtain rfl := to_lit h1
    rw [show ctB ⟨[100, 105, 112].toArray⟩ = true by kernel_rfl]
    exact ct_1 w
  by_cases h2 : s.toList = [107, 101, 101, 112]
  · obtain rfl := to_lit h2
    rw [show ctB ⟨[107, 101, 101, 112].toArray⟩ = true by kernel_rfl]
    exact ct_2 w
  by_cases h3 : s.toList = [105, 102]
  · obtain rfl := to_lit h3
    rw [show ctB ⟨[105, 102].toArray⟩ = true by kernel_rfl]
    exact ct_3 w
  by_cases h4 : s.toList = [119, 104, 101, 110]
  · obtain rfl := to_lit h4
    rw [show ctB ⟨[119, 104, 101, 110].toArray⟩ = true by kernel_rfl]
    exact ct_4 w
  by_cases h5 : s.toList = [116, 105, 109, 101, 115]
  · obtain rfl := to_lit h5
    rw [show ctB ⟨[116, 105, 109, 101, 115].toArray⟩ = true by kernel_rfl]
    exact ct_5 w
  by_cases h6 : s.toList = [101, 97, 99, 104]
  · obtain rfl := to_lit h6
    rw [show ctB ⟨[101, 97, 99, 104].toArray⟩ = true by kernel_rfl]
    exact ct_6 w
  by_cases h7 : s.toList = [108, 111, 111, 112]
  · obtain rfl := to_lit h7
    rw [show ctB ⟨[108, 111, 111, 112].toArray⟩ = true by kernel_rfl]
    exact ct_7 w
  have hn : ctB s = false := by
    unfold ctB ctL
    rw [List.contains_eq_any_beq]
    simp [h0, h1, h2, h3, h4, h5, h6, h7]
  rw [hn]
  exact ct_no (by simpa using h0) (by simpa using h1) (by simpa using h2) (by simpa using h3) (by simpa using h4) (by simpa using h5) (by simpa using h6) (by simpa using h7) w
set_option maxRecDepth 100000 in
theorem ris_any (s : ByteArray) (w : World) : Calls Tryz.prog 19 #[.string s] w fun e w' => e = .returned (.bool ((pmR s).2.2 || ctB s)) ∧ Only (fun _ => False) w w' := by
  obtain ⟨x, y, z, hp⟩ : ∃ x y z, pmR s = (x, y, z) := ⟨_, _, _, rfl⟩
  have HQ : Hid (Calls Tryz.prog 21 #[.string s] w fun e w' => e = .returned (.tuple #[.int .i64 x, .int .i64 y, .bool z]) ∧ Only (fun _ => False) w w') := by
    have := rprim_any s w
    rw [hp] at this
    exact this
  have HC : Hid (∀ w1, Calls Tryz.prog 39 #[.string s] w1 fun e w' => e = .returned (.bool (ctB s)) ∧ w' = w1) := control_any s
  rw [hp]
  dsimp only
  obtain ⟨b, hb⟩ : ∃ b, b = ctB s := ⟨_, rfl⟩
  rw [← hb] at HC
  rw [← hb]
  clear hp hb
  cases z with
  | true =>
    go_enter Tryz.func19, Tryz.ntmps19
    go_wp2_with fail
    refine (show Calls Tryz.prog 21 _ _ _ from HQ.out).mono ?_
    rintro e w1 ⟨rfl, o1⟩
    have O1 : Hid (Only (fun _ => False) w w1) := o1
    clear HQ o1
    go_wp2
    go_ret
    exact ⟨rfl, O1.out⟩
  | false =>
    go_enter Tryz.func19, Tryz.ntmps19
    go_wp2_with fail
    refine (show Calls Tryz.prog 21 _ _ _ from HQ.out).mono ?_
    rintro e w1 ⟨rfl, o1⟩
    have O1 : Hid (Only (fun _ => False) w w1) := o1
    clear HQ o1
    go_wp2_with fail
    refine (show Calls Tryz.prog 39 _ _ _ from HC.out _).mono ?_
    rintro e w2 ⟨rfl, hw⟩
    obtain rfl := hw.symm
    go_wp2
    go_ret
    exact ⟨rfl, O1.out⟩
theorem pmF_mem (l : List UInt8) : ∀ q : List (List UInt8 × Int × Int), (pmF l q).2.2 = true ↔ l ∈ q.map (·.1)
  | [] => by simp [pmF]
  | x :: r => by
    unfold pmF
    by_cases h : l = x.1
    · rw [if_pos h]
      simp [h]
    · rw [if_neg h, pmF_mem l r]
      simp [h]
theorem nm_in : (pmNames.map (·.toList)).all (fun l => (pmL.map (·.1) ++ ctL).contains l) = true := by kernel_rfl
theorem nm_out : (pmL.map (·.1) ++ ctL).all (fun l => (pmNames.map (·.toList)).contains l) = true := by kernel_rfl
/-- which names there are -/
theorem is_eq (s : ByteArray) : isB s = ((pmR s).2.2 || ctB s) := by
  have e1 : isB s = true ↔ s.toList ∈ pmNames.map (·.toList) := by
    unfold isB
    rw [Lib.containsS_iff, List.mem_map]
    constructor
    · intro h
      exact ⟨s, h, rfl⟩
    · rintro ⟨x, hx, he⟩
      rw [← list_inj he]
      exact hx
  have e2 : ((pmR s).2.2 || ctB s) = true ↔ s.toList ∈ pmL.map (·.1) ++ ctL := by
    rw [Bool.or_eq_true, List.mem_append]
    unfold pmR ctB
    rw [pmF_mem, List.contains_iff_mem]
  rw [Bool.eq_iff_iff, e1, e2]
  constructor
  · intro h
    exact List.contains_iff_mem.1 (List.all_eq_true.1 nm_in _ h)
  · intro h
    exact List.contains_iff_mem.1 (List.all_eq_true.1 nm_out _ h)
set_option maxRecDepth 100000 in
theorem stx_same (L : List ByteArray) (g1 g2 : Nat) (w : World) (hl : L.length ≤ 1000) (h1 : ∀ (j : Nat) (s : ByteArray), L[j]? = some s → w.cell? ⟨g1, j, none⟩ = some (.string s)) (h2 : ∀ (j : Nat) (s : ByteArray), L[j]? = some s → w.cell? ⟨g2, j, none⟩ = some (.string s)) : Calls Tryz.prog 15 #[.slice (some ⟨g1, 0, none⟩) L.length L.length, .slice (some ⟨g2, 0, none⟩) L.length L.length] w fun e w' => e = .returned (.bool true) ∧ Only (fun _ => False) w w' := by
  obtain ⟨N, hN⟩ : ∃ N, N = L.length := ⟨_, rfl⟩
  have HN : Hid (N = L.length ∧ N ≤ 1000) := ⟨hN, by omega⟩
  have HT : Hid ((∀ (j : Nat) (s : ByteArray), L[j]? = some s → w.cell? ⟨g1, j, none⟩ = some (.string s)) ∧ (∀ (j : Nat) (s : ByteArray), L[j]? = some s → w.cell? ⟨g2, j, none⟩ = some (.string s))) := ⟨h1, h2⟩
  rw [← hN]
  clear hN hl h1 h2
  go_enter Tryz.func15, Tryz.ntmps15
  go_wp2
  go_loopw [5] (fun r wr => ∃ j : Nat, r = .int .i64 (j : Int) ∧ j ≤ N ∧ Hid (Only (fun _ => False) w wr)) (fun r _ => N - vuOf r)
  case atStart => exact ⟨0, rfl, Nat.zero_le _, Only.refl _ _⟩
  case round =>
    obtain ⟨j, rfl, hj, HI⟩ := hrel
    obtain ⟨w2, hw2⟩ : ∃ w2, w2 = wr := ⟨_, rfl⟩
    rw [← hw2] at HI ⊢
    clear hw2
    by_cases hjN : j < N
    · obtain ⟨s, hs⟩ : ∃ s, L[j]? = some s := ⟨L[j]'(by rw [← HN.out.1]; exact hjN), List.getElem?_eq_getElem _⟩
      have c1 := HI.out.cell (HT.out.1 j s hs) (fun g => g)
      have c2 := HI.out.cell (HT.out.2 j s hs) (fun g => g)
      have i1 : (j : Int) < (N : Int) := by omega
      have i0 : (0 : Int) ≤ (j : Int) := by omega
      have i4 : j ≤ 1000 := by have := HN.out.2; omega
      have HJ : Hid (j < N) := hjN
      have hss : (s.toList == s.toList) = true := by simp
      clear hs hjN hj
      go_wp2
      go_quiet (fail)
      have HI2 : Hid (Only (fun _ => False) w (w2.drewN nq)) := HI.out.drewN _
      clear HI c1 c2
      go_wp2
      go_roundw
      case rel => exact ⟨j + 1, by go_num, by have := HJ.out; omega, HI2⟩
      case measure => simp only [vuOf]; have := HJ.out; omega
    · obtain rfl : j = N := by omega
      have i1 : ¬ (j : Int) < (j : Int) := by omega
      clear hjN hj
      go_wp2
      go_ret
      exact ⟨rfl, HI.out⟩
set_option maxRecDepth 100000 in
theorem peffect_any (s : ByteArray) (w : World) : Calls Tryz.prog 20 #[.string s] w fun e w' => e = .returned (.tuple #[efV (pmR s).1 (pmR s).2.1, .bool (pmR s).2.2]) ∧ Only (fun _ => False) w w' := by
  obtain ⟨x, y, z, hp⟩ : ∃ x y z, pmR s = (x, y, z) := ⟨_, _, _, rfl⟩
  have HP : Hid (∀ w1, Calls Tryz.prog 40 #[.string s] w1 fun e w' => e = .returned (.tuple #[.agg #[.int .i64 x, .int .i64 y], .bool z]) ∧ Only (fun _ => False) w1 w') := fun w1 => by
    have := prim_any s w1
    rw [hp] at this
    exact this
  rw [hp]
  unfold efV
  dsimp only
  clear hp
  obtain ⟨N, hN⟩ : ∃ N, N = w.heap.size := ⟨_, rfl⟩
  go_enter Tryz.func20, Tryz.ntmps20
  go_wp2_with fail
  refine (show Calls Tryz.prog 40 _ _ _ from HP.out _).mono ?_
  rintro e w1 ⟨rfl, o1⟩
  have O1 : Hid (Only (fun _ => False) w w1 ∧ N = w.heap.size) := ⟨((Only.refl (fun _ => False) w).alloc _).trans o1 (fun _ _ g => g), hN⟩
  have R1 : TwC w1 N 0 0 := o1.at (ealloc_at _ _ _ hN)
  rw [← hN]
  obtain ⟨q0, q1, f0, f1⟩ := R1.cells
  clear HP o1 hN
  go_wp2
  obtain ⟨r0, r1⟩ := eset2 R1 (.int .i64 x) (.int .i64 y)
  refine bodyPost_ret (results_eff rfl _ _ N r0 r1 rfl) rfl ⟨rfl, ?_⟩
  exact (O1.out.1.setCell _ _ (fun h => by have := O1.out.2; simp at h; omega)).setCell _ _ (fun h => by have := O1.out.2; simp at h; omega)
theorem row_cells (L : List ByteArray) (t : TypeId) (w W : World) (o : Only (fun _ => False) (w.alloc (.cells (L.map Value.string).toArray t)) W) : ∀ (j : Nat) (s : ByteArray), L[j]? = some s → W.cell? ⟨w.heap.size, j, none⟩ = some (.string s) := fun j s hs => o.cell (by
  rw [vblk_cells (valloc_at w _ _ rfl)]
  simp [hs]) (fun g => g)
set_option maxRecDepth 100000 in
set_option maxHeartbeats 4000000 in
theorem pnames_walk (s : ByteArray) (w : World) (hT : Ty w) : Calls Tryz.prog 4 #[.string s] w fun e w' => e = .returned (.bool true) ∧ Only (fun _ => False) w w' := by
  have HA : Hid _ := awake12 w hT
  have HN : Hid (∀ W, Only (fun _ => False) w W → Calls Tryz.prog 16 #[] W fun e w' => e = .returned (.slice (some ⟨W.heap.size, 0, none⟩) 52 52) ∧ w' = W.alloc (.cells (pmNames.map Value.string).toArray 9)) := fun W o => names_any W (hT.2.frame o)
  have HM : Hid (∀ W, Calls Tryz.prog 17 #[] W fun e w' => e = .returned (.slice (some ⟨W.heap.size, 0, none⟩) 52 52) ∧ w' = W.alloc (.cells (pmNames.map Value.string).toArray 9)) := rnames_any
  obtain ⟨Z, hZ⟩ : ∃ Z, Z = isB s := ⟨_, rfl⟩
  have HI : Hid (∀ W, Only (fun _ => False) w W → Calls Tryz.prog 18 #[.string s] W fun e w' => e = .returned (.bool Z) ∧ Only (fun _ => False) W w') := fun W o => by rw [hZ]; exact is_any s W (hT.2.frame o)
  have HJ : Hid (∀ W, Calls Tryz.prog 19 #[.string s] W fun e w' => e = .returned (.bool Z) ∧ Only (fun _ => False) W w') := fun W => by
    rw [hZ, is_eq]
    exact ris_any s W
  obtain ⟨x, y, z, hp⟩ : ∃ x y z, pmR s = (x, y, z) := ⟨_, _, _, rfl⟩
  have HP : Hid (∀ w1, Calls Tryz.prog 20 #[.string s] w1 fun e w' => e = .returned (.tuple #[.agg #[.int .i64 x, .int .i64 y], .bool z]) ∧ Only (fun _ => False) w1 w') := fun w1 => by
    have := peffect_any s w1
    rw [hp] at this
    exact this
  have HQ : Hid (∀ w1, Calls Tryz.prog 21 #[.string s] w1 fun e w' => e = .returned (.tuple #[.int .i64 x, .int .i64 y, .bool z]) ∧ Only (fun _ => False) w1 w') := fun w1 => by
    have := rprim_any s w1
    rw [hp] at this
    exact this
  clear hZ hp hT
  go_enter Tryz.func4, Tryz.ntmps4
  go_wp2_with fail
  refine (show Calls Tryz.prog 9 _ _ _ from HA.out).mono ?_
  rintro e w1 ⟨rfl, o1⟩
  have O1 : Hid (Only (fun _ => False) w w1) := o1
  clear HA o1
  go_wp2_with fail
  refine (show Calls Tryz.prog 16 _ _ _ from HN.out _ O1.out).mono ?_
  rintro e w2 ⟨rfl, hw2⟩
  have O2 : Hid (Only (fun _ => False) w w2) := by rw [hw2]; exact O1.out.alloc _
  have HR1 : Hid (∀ W, Only (fun _ => False) w2 W → ∀ (j : Nat) (s : ByteArray), pmNames[j]? = some s → W.cell? ⟨w1.heap.size, j, none⟩ = some (.string s)) := fun W o => row_cells pmNames 9 w1 W (by rw [← hw2]; exact o)
  obtain ⟨g1, hg1⟩ : ∃ g, g = w1.heap.size := ⟨_, rfl⟩
  rw [← hg1] at HR1 ⊢
  clear HN hw2 hg1 O1
  go_wp2_with fail
  refine (show Calls Tryz.prog 17 _ _ _ from HM.out _).mono ?_
  rintro e w3 ⟨rfl, hw3⟩
  have O3 : Hid (Only (fun _ => False) w w3) := by rw [hw3]; exact O2.out.alloc _
  have HS : Hid (Calls Tryz.prog 15 #[.slice (some ⟨g1, 0, none⟩) 52 52, .slice (some ⟨w2.heap.size, 0, none⟩) 52 52] w3 fun e w' => e = .returned (.bool true) ∧ Only (fun _ => False) w3 w') := stx_same pmNames g1 w2.heap.size w3 (by decide) (HR1.out w3 (by rw [hw3]; exact (Only.refl _ _).alloc _)) (row_cells pmNames 9 w2 w3 (by rw [hw3]; exact Only.refl _ _))
  obtain ⟨g2, hg2⟩ : ∃ g, g = w2.heap.size := ⟨_, rfl⟩
  rw [← hg2] at HS ⊢
  clear HM hw3 hg2 O2 HR1
  go_wp2_with fail
  refine (show Calls Tryz.prog 15 _ _ _ from HS.out).mono ?_
  rintro e w4 ⟨rfl, o4⟩
  have O4 : Hid (Only (fun _ => False) w w4) := O3.out.trans o4 (fun _ _ g => g)
  clear HS o4 O3
  go_wp2_with fail
  refine (show Calls Tryz.prog 18 _ _ _ from HI.out _ O4.out).mono ?_
  rintro e w5 ⟨rfl, o5⟩
  have O5 : Hid (Only (fun _ => False) w w5) := O4.out.trans o5 (fun _ _ g => g)
  clear HI o5 O4
  go_wp2_with fail
  refine (show Calls Tryz.prog 19 _ _ _ from HJ.out _).mono ?_
  rintro e w6 ⟨rfl, o6⟩
  have O6 : Hid (Only (fun _ => False) w w6) := O5.out.trans o6 (fun _ _ g => g)
  clear HJ o6 O5
  have hzz : (Z == Z) = true := by simp
  go_wp2_with fail
  refine (show Calls Tryz.prog 20 _ _ _ from HP.out _).mono ?_
  rintro e w7 ⟨rfl, o7⟩
  have O7 : Hid (Only (fun _ => False) w w7) := O6.out.trans o7 (fun _ _ g => g)
  clear HP o7 O6
  obtain ⟨N, hN⟩ : ∃ N, N = w7.heap.size := ⟨_, rfl⟩
  have HN7 : Hid (N = w7.heap.size) := hN
  go_wp2_with fail
  refine (show Calls Tryz.prog 21 _ _ _ from HQ.out _).mono ?_
  rintro e w8 ⟨rfl, o8⟩
  have O8 : Hid (Only (fun _ => False) w w8) := (O7.out.alloc _).trans o8 (fun _ _ g => g)
  have R8 : TwC w8 N x y := o8.at (ealloc_at _ _ _ hN)
  obtain ⟨q0, q1, _, _⟩ := R8.cells
  have hxx : (x == x) = true := by simp
  have hyy : (y == y) = true := by simp
  have hzb : (z == z) = true := by simp
  rw [← hN]
  clear HQ o8 R8 HN7 hN O7
  go_wp2
  go_ret
  exact ⟨rfl, O8.out⟩
end Go.Proofs.YtgnmedjknbbfhaaGreatDoor
