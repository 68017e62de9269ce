/- ParseNests: the walk. ParseNests at every input. -/
import Derived.Test.YtokponkokpdhiaaDoorGak
namespace Go.Proofs.YtokponkokpdhiaaDoor
open Go.RowKit
set_option linter.unusedSimpArgs false
set_option linter.unusedVariables false
set_option maxRecDepth 100000 in
set_option maxHeartbeats 8000000 in
theorem quo_walk (n : Nat) (hn : n ≤ 255) (w : World) (h : Nog w) : Calls Tryd.prog 5 #[.int .u8 (n : Int), .bool false, .bool false] w fun e w' => e = .returned (.bool true) ∧ Below w.heap.size w w' := by
  have HAW : Hid (Calls Tryd.prog 6 #[] w fun e w' => e = .returned (.bool true) ∧ Below w.heap.size w w') := awake_any w h
  obtain ⟨k, hk⟩ : ∃ k, k = n % 80 := ⟨_, rfl⟩
  have hk80 : k < 80 := by omega
  have ht : (n : Int).tmod 80 = (k : Int) := by rw [Int.tmod_eq_emod_of_nonneg (by omega)]; omega
  have HK : Hid (k < 80) := hk80
  have HR : Hid ((32 < k → parR (quoT k k) = ([], 64, 11)) ∧ (k = 0 → parR (quoT k k) = ([], 0, 0)) ∧ (k ≤ 32 → 0 < k → ∃ fm, parR (quoT k k) = ([fm], 0, 0))) := quo_res k hk80
  have HA1 : Hid (∀ (i : Nat) (W : World), i < 80 → (Op.stringOp .add (quoT i 0) ⟨#[91, 32]⟩).run Tryd.prog W = .ok (.string (quoT (i + 1) 0)) W) := fun i W hi => quo_add i hi W
  have HA2 : Hid (∀ (i : Nat) (W : World), i < 80 → (Op.stringOp .add (quoT k i) ⟨#[93, 32]⟩).run Tryd.prog W = .ok (.string (quoT k (i + 1))) W) := fun i W hi => quo_addS k i hk80 hi W
  have HP : Hid (∀ S w1, Only (fun _ => False) w w1 → Calls Tryd.prog 7 #[.string S] w1 (raP S w1)) := fun S w1 o1 => parse_any S w1 (h.frame o1)
  clear hk h
  go_enter Tryd.func5, Tryd.ntmps5
  go_wp2_with fail
  refine (show Calls Tryd.prog 6 _ _ _ from HAW.out).mono ?_
  rintro e w1 ⟨rfl, o1⟩
  have O1 : Hid (Only (fun _ => False) w w1) := below_only o1
  clear HAW o1
  go_wp2_with fail
  go_loopw [10, 11] (fun r10 r11 wr => ∃ i : Nat, i ≤ k ∧ r10 = .string (quoT i 0) ∧ r11 = .int .i64 (i : Int) ∧ wr = w1) (fun _ r11 _ => k - uOf r11)
  case atStart => exact ⟨0, Nat.zero_le _, rfl, rfl, rfl⟩
  case round =>
    obtain ⟨i, hi, rfl, rfl, hw⟩ := hrel
    obtain rfl := hw.symm
    have hk80 : k < 80 := HK.out
    by_cases hik : i < k
    · have a1 := fun W => HA1.out i W (by omega)
      have i1 : (i : Int) < (k : Int) := by omega
      go_wp2
      go_roundw
      case rel => exact ⟨i + 1, by omega, rfl, by go_num, trivial⟩
      case measure => simp only [uOf]; omega
    · obtain rfl : i = k := by omega
      have i1 : ¬ (i : Int) < (i : Int) := by omega
      clear HA1 hi hik
      go_wp2_with fail
      go_loopw [10, 12] (fun r10 r12 wr => ∃ j : Nat, j ≤ i ∧ r10 = .string (quoT i j) ∧ r12 = .int .i64 (j : Int) ∧ wr = w1) (fun _ r12 _ => i - uOf r12)
      case atStart => exact ⟨0, Nat.zero_le _, rfl, rfl, rfl⟩
      case round =>
        obtain ⟨j, hj, rfl, rfl, hw⟩ := hrel
        obtain rfl := hw.symm
        by_cases hjk : j < i
        · have a1 := fun W => HA2.out j W (by omega)
          have i2 : (j : Int) < (i : Int) := by omega
          go_wp2
          go_roundw
          case rel => exact ⟨j + 1, by omega, rfl, by go_num, trivial⟩
          case measure => simp only [uOf]; omega
        · obtain rfl : j = i := by omega
          clear HA2 hj hjk
          go_wp2_with fail
          refine (show Calls Tryd.prog 7 _ _ _ from HP.out _ _ O1.out).mono ?_
          rintro e w2 ⟨v, rfl, g2⟩
          have O2 : Hid (Below w.heap.size w w2) := only_below (O1.out.trans (below_only g2.out.2) (fun _ _ g => g))
          obtain ⟨ao, cap, hv⟩ := g2.out.1.form
          subst hv
          clear g2 HP O1
          by_cases hb : 32 < j
          · have b1 := HR.out.1 hb
            have i3 : (32 : Int) < (j : Int) := by omega
            rw [b1]
            clear b1 HR hb
            simp only [List.length_nil]
            go_wp2
            go_ret
            exact ⟨by simp [*], O2.out⟩
          · have i3 : ¬ (32 : Int) < (j : Int) := by omega
            by_cases hz : j = 0
            · have b1 := HR.out.2.1 hz
              rw [b1]
              subst hz
              clear b1 HR hb
              simp only [List.length_nil]
              go_wp2
              all_goals
                go_ret
                exact ⟨by simp [*], O2.out⟩
            · obtain ⟨fm, b1⟩ := HR.out.2.2 (by omega) (by omega)
              have i4 : ((j : Int) == 0) = false := by simp; omega
              rw [b1]
              clear b1 HR hb
              simp only [List.length_cons, List.length_nil]
              go_wp2
              all_goals
                go_ret
                exact ⟨by simp [*], O2.out⟩
set_option maxRecDepth 100000 in
set_option maxHeartbeats 8000000 in
theorem quo_walkD (n : Nat) (hn : n ≤ 255) (w : World) (h : Nog w) : Calls Tryd.prog 5 #[.int .u8 (n : Int), .bool false, .bool true] w fun e w' => e = .returned (.bool true) ∧ Below w.heap.size w w' := by
  have HAW : Hid (Calls Tryd.prog 6 #[] w fun e w' => e = .returned (.bool true) ∧ Below w.heap.size w w') := awake_any w h
  obtain ⟨k, hk⟩ : ∃ k, k = n % 80 := ⟨_, rfl⟩
  have hk80 : k < 80 := by omega
  have ht : (n : Int).tmod 80 = (k : Int) := by rw [Int.tmod_eq_emod_of_nonneg (by omega)]; omega
  have HK : Hid (k < 80) := hk80
  have HR : Hid ((31 < k → parR (quoD k) = ([], 73, 11)) ∧ (k ≤ 31 → ∃ fm, parR (quoD k) = ([fm], 0, 0))) := quo_resD k hk80
  obtain ⟨SS, ad1, ad2⟩ := quo_addD k hk80
  have HA1 : Hid (∀ (i : Nat) (W : World), i < 80 → (Op.stringOp .add (quoT i 0) ⟨#[91, 32]⟩).run Tryd.prog W = .ok (.string (quoT (i + 1) 0)) W) := fun i W hi => quo_add i hi W
  have HA2 : Hid (∀ (i : Nat) (W : World), i < 80 → (Op.stringOp .add (quoT k i) ⟨#[93, 32]⟩).run Tryd.prog W = .ok (.string (quoT k (i + 1))) W) := fun i W hi => quo_addS k i hk80 hi W
  have HP : Hid (∀ S w1, Only (fun _ => False) w w1 → Calls Tryd.prog 7 #[.string S] w1 (raP S w1)) := fun S w1 o1 => parse_any S w1 (h.frame o1)
  clear hk h
  go_enter Tryd.func5, Tryd.ntmps5
  go_wp2_with fail
  refine (show Calls Tryd.prog 6 _ _ _ from HAW.out).mono ?_
  rintro e w1 ⟨rfl, o1⟩
  have O1 : Hid (Only (fun _ => False) w w1) := below_only o1
  clear HAW o1
  go_wp2_with fail
  go_loopw [10, 11] (fun r10 r11 wr => ∃ i : Nat, i ≤ k ∧ r10 = .string (quoT i 0) ∧ r11 = .int .i64 (i : Int) ∧ wr = w1) (fun _ r11 _ => k - uOf r11)
  case atStart => exact ⟨0, Nat.zero_le _, rfl, rfl, rfl⟩
  case round =>
    obtain ⟨i, hi, rfl, rfl, hw⟩ := hrel
    obtain rfl := hw.symm
    have hk80 : k < 80 := HK.out
    by_cases hik : i < k
    · have a1 := fun W => HA1.out i W (by omega)
      have i1 : (i : Int) < (k : Int) := by omega
      go_wp2
      go_roundw
      case rel => exact ⟨i + 1, by omega, rfl, by go_num, trivial⟩
      case measure => simp only [uOf]; omega
    · obtain rfl : i = k := by omega
      have i1 : ¬ (i : Int) < (i : Int) := by omega
      clear HA1 hi hik
      go_wp2_with fail
      go_loopw [10, 12] (fun r10 r12 wr => ∃ j : Nat, j ≤ i ∧ r10 = .string (quoT i j) ∧ r12 = .int .i64 (j : Int) ∧ wr = w1) (fun _ r12 _ => i - uOf r12)
      case atStart => exact ⟨0, Nat.zero_le _, rfl, rfl, rfl⟩
      case round =>
        obtain ⟨j, hj, rfl, rfl, hw⟩ := hrel
        obtain rfl := hw.symm
        by_cases hjk : j < i
        · have a1 := fun W => HA2.out j W (by omega)
          have i2 : (j : Int) < (i : Int) := by omega
          go_wp2
          go_roundw
          case rel => exact ⟨j + 1, by omega, rfl, by go_num, trivial⟩
          case measure => simp only [uOf]; omega
        · obtain rfl : j = i := by omega
          clear HA2 hj hjk
          go_wp2_with fail
          refine (show Calls Tryd.prog 7 _ _ _ from HP.out _ _ O1.out).mono ?_
          rintro e w2 ⟨v, rfl, g2⟩
          have O2 : Hid (Below w.heap.size w w2) := only_below (O1.out.trans (below_only g2.out.2) (fun _ _ g => g))
          obtain ⟨ao, cap, hv⟩ := g2.out.1.form
          subst hv
          clear g2 HP O1
          by_cases hb : 31 < j
          · have b1 := HR.out.1 hb
            have i3 : (31 : Int) < (j : Int) := by omega
            rw [b1]
            clear b1 HR hb
            simp only [List.length_nil]
            go_wp2
            go_ret
            exact ⟨by simp [*], O2.out⟩
          · obtain ⟨fm, b1⟩ := HR.out.2 (by omega)
            have i3 : ¬ (31 : Int) < (j : Int) := by omega
            rw [b1]
            clear b1 HR hb
            simp only [List.length_cons, List.length_nil]
            go_wp2
            all_goals
              go_ret
              exact ⟨by simp [*], O2.out⟩
set_option maxRecDepth 100000 in
set_option maxHeartbeats 8000000 in
theorem lis_walk (n : Nat) (hn : n ≤ 255) (w : World) (h : Nog w) : Calls Tryd.prog 5 #[.int .u8 (n : Int), .bool true, .bool false] w fun e w' => e = .returned (.bool true) ∧ Below w.heap.size w w' := by
  have HAW : Hid (Calls Tryd.prog 6 #[] w fun e w' => e = .returned (.bool true) ∧ Below w.heap.size w w') := awake_any w h
  obtain ⟨k, hk⟩ : ∃ k, k = n % 80 := ⟨_, rfl⟩
  have hk80 : k < 80 := by omega
  have ht : (n : Int).tmod 80 = (k : Int) := by rw [Int.tmod_eq_emod_of_nonneg (by omega)]; omega
  have HK : Hid (k < 80) := hk80
  have HR : Hid ((32 < k → parR (lisT k k) = ([], 64, 11)) ∧ (k = 0 → parR (lisT k k) = ([], 0, 0)) ∧ (k ≤ 32 → 0 < k → ∃ fm, parR (lisT k k) = ([fm], 0, 0))) := lis_res k hk80
  have HA1 : Hid (∀ (i : Nat) (W : World), i < 80 → (Op.stringOp .add (lisT i 0) ⟨#[123, 32]⟩).run Tryd.prog W = .ok (.string (lisT (i + 1) 0)) W) := fun i W hi => lis_add i hi W
  have HA2 : Hid (∀ (i : Nat) (W : World), i < 80 → (Op.stringOp .add (lisT k i) ⟨#[125, 32]⟩).run Tryd.prog W = .ok (.string (lisT k (i + 1))) W) := fun i W hi => lis_addS k i hk80 hi W
  have HP : Hid (∀ S w1, Only (fun _ => False) w w1 → Calls Tryd.prog 7 #[.string S] w1 (raP S w1)) := fun S w1 o1 => parse_any S w1 (h.frame o1)
  clear hk h
  go_enter Tryd.func5, Tryd.ntmps5
  go_wp2_with fail
  refine (show Calls Tryd.prog 6 _ _ _ from HAW.out).mono ?_
  rintro e w1 ⟨rfl, o1⟩
  have O1 : Hid (Only (fun _ => False) w w1) := below_only o1
  clear HAW o1
  go_wp2_with fail
  go_loopw [10, 11] (fun r10 r11 wr => ∃ i : Nat, i ≤ k ∧ r10 = .string (lisT i 0) ∧ r11 = .int .i64 (i : Int) ∧ wr = w1) (fun _ r11 _ => k - uOf r11)
  case atStart => exact ⟨0, Nat.zero_le _, rfl, rfl, rfl⟩
  case round =>
    obtain ⟨i, hi, rfl, rfl, hw⟩ := hrel
    obtain rfl := hw.symm
    have hk80 : k < 80 := HK.out
    by_cases hik : i < k
    · have a1 := fun W => HA1.out i W (by omega)
      have i1 : (i : Int) < (k : Int) := by omega
      go_wp2
      go_roundw
      case rel => exact ⟨i + 1, by omega, rfl, by go_num, trivial⟩
      case measure => simp only [uOf]; omega
    · obtain rfl : i = k := by omega
      have i1 : ¬ (i : Int) < (i : Int) := by omega
      clear HA1 hi hik
      go_wp2_with fail
      go_loopw [10, 12] (fun r10 r12 wr => ∃ j : Nat, j ≤ i ∧ r10 = .string (lisT i j) ∧ r12 = .int .i64 (j : Int) ∧ wr = w1) (fun _ r12 _ => i - uOf r12)
      case atStart => exact ⟨0, Nat.zero_le _, rfl, rfl, rfl⟩
      case round =>
        obtain ⟨j, hj, rfl, rfl, hw⟩ := hrel
        obtain rfl := hw.symm
        by_cases hjk : j < i
        · have a1 := fun W => HA2.out j W (by omega)
          have i2 : (j : Int) < (i : Int) := by omega
          go_wp2
          go_roundw
          case rel => exact ⟨j + 1, by omega, rfl, by go_num, trivial⟩
          case measure => simp only [uOf]; omega
        · obtain rfl : j = i := by omega
          clear HA2 hj hjk
          go_wp2_with fail
          refine (show Calls Tryd.prog 7 _ _ _ from HP.out _ _ O1.out).mono ?_
          rintro e w2 ⟨v, rfl, g2⟩
          have O2 : Hid (Below w.heap.size w w2) := only_below (O1.out.trans (below_only g2.out.2) (fun _ _ g => g))
          obtain ⟨ao, cap, hv⟩ := g2.out.1.form
          subst hv
          clear g2 HP O1
          by_cases hb : 32 < j
          · have b1 := HR.out.1 hb
            have i3 : (32 : Int) < (j : Int) := by omega
            rw [b1]
            clear b1 HR hb
            simp only [List.length_nil]
            go_wp2
            go_ret
            exact ⟨by simp [*], O2.out⟩
          · have i3 : ¬ (32 : Int) < (j : Int) := by omega
            by_cases hz : j = 0
            · have b1 := HR.out.2.1 hz
              rw [b1]
              subst hz
              clear b1 HR hb
              simp only [List.length_nil]
              go_wp2
              all_goals
                go_ret
                exact ⟨by simp [*], O2.out⟩
            · obtain ⟨fm, b1⟩ := HR.out.2.2 (by omega) (by omega)
              have i4 : ((j : Int) == 0) = false := by simp; omega
              rw [b1]
              clear b1 HR hb
              simp only [List.length_cons, List.length_nil]
              go_wp2
              all_goals
                go_ret
                exact ⟨by simp [*], O2.out⟩
set_option maxRecDepth 100000 in
set_option maxHeartbeats 8000000 in
theorem lis_walkD (n : Nat) (hn : n ≤ 255) (w : World) (h : Nog w) : Calls Tryd.prog 5 #[.int .u8 (n : Int), .bool true, .bool true] w fun e w' => e = .returned (.bool true) ∧ Below w.heap.size w w' := by
  have HAW : Hid (Calls Tryd.prog 6 #[] w fun e w' => e = .returned (.bool true) ∧ Below w.heap.size w w') := awake_any w h
  obtain ⟨k, hk⟩ : ∃ k, k = n % 80 := ⟨_, rfl⟩
  have hk80 : k < 80 := by omega
  have ht : (n : Int).tmod 80 = (k : Int) := by rw [Int.tmod_eq_emod_of_nonneg (by omega)]; omega
  have HK : Hid (k < 80) := hk80
  have HR : Hid ((31 < k → parR (lisD k) = ([], 73, 11)) ∧ (k ≤ 31 → ∃ fm, parR (lisD k) = ([fm], 0, 0))) := lis_resD k hk80
  obtain ⟨SS, ad1, ad2⟩ := lis_addD k hk80
  have HA1 : Hid (∀ (i : Nat) (W : World), i < 80 → (Op.stringOp .add (lisT i 0) ⟨#[123, 32]⟩).run Tryd.prog W = .ok (.string (lisT (i + 1) 0)) W) := fun i W hi => lis_add i hi W
  have HA2 : Hid (∀ (i : Nat) (W : World), i < 80 → (Op.stringOp .add (lisT k i) ⟨#[125, 32]⟩).run Tryd.prog W = .ok (.string (lisT k (i + 1))) W) := fun i W hi => lis_addS k i hk80 hi W
  have HP : Hid (∀ S w1, Only (fun _ => False) w w1 → Calls Tryd.prog 7 #[.string S] w1 (raP S w1)) := fun S w1 o1 => parse_any S w1 (h.frame o1)
  clear hk h
  go_enter Tryd.func5, Tryd.ntmps5
  go_wp2_with fail
  refine (show Calls Tryd.prog 6 _ _ _ from HAW.out).mono ?_
  rintro e w1 ⟨rfl, o1⟩
  have O1 : Hid (Only (fun _ => False) w w1) := below_only o1
  clear HAW o1
  go_wp2_with fail
  go_loopw [10, 11] (fun r10 r11 wr => ∃ i : Nat, i ≤ k ∧ r10 = .string (lisT i 0) ∧ r11 = .int .i64 (i : Int) ∧ wr = w1) (fun _ r11 _ => k - uOf r11)
  case atStart => exact ⟨0, Nat.zero_le _, rfl, rfl, rfl⟩
  case round =>
    obtain ⟨i, hi, rfl, rfl, hw⟩ := hrel
    obtain rfl := hw.symm
    have hk80 : k < 80 := HK.out
    by_cases hik : i < k
    · have a1 := fun W => HA1.out i W (by omega)
      have i1 : (i : Int) < (k : Int) := by omega
      go_wp2
      go_roundw
      case rel => exact ⟨i + 1, by omega, rfl, by go_num, trivial⟩
      case measure => simp only [uOf]; omega
    · obtain rfl : i = k := by omega
      have i1 : ¬ (i : Int) < (i : Int) := by omega
      clear HA1 hi hik
      go_wp2_with fail
      go_loopw [10, 12] (fun r10 r12 wr => ∃ j : Nat, j ≤ i ∧ r10 = .string (lisT i j) ∧ r12 = .int .i64 (j : Int) ∧ wr = w1) (fun _ r12 _ => i - uOf r12)
      case atStart => exact ⟨0, Nat.zero_le _, rfl, rfl, rfl⟩
      case round =>
        obtain ⟨j, hj, rfl, rfl, hw⟩ := hrel
        obtain rfl := hw.symm
        by_cases hjk : j < i
        · have a1 := fun W => HA2.out j W (by omega)
          have i2 : (j : Int) < (i : Int) := by omega
          go_wp2
          go_roundw
          case rel => exact ⟨j + 1, by omega, rfl, by go_num, trivial⟩
          case measure => simp only [uOf]; omega
        · obtain rfl : j = i := by omega
          clear HA2 hj hjk
          go_wp2_with fail
          refine (show Calls Tryd.prog 7 _ _ _ from HP.out _ _ O1.out).mono ?_
          rintro e w2 ⟨v, rfl, g2⟩
          have O2 : Hid (Below w.heap.size w w2) := only_below (O1.out.trans (below_only g2.out.2) (fun _ _ g => g))
          obtain ⟨ao, cap, hv⟩ := g2.out.1.form
          subst hv
          clear g2 HP O1
          by_cases hb : 31 < j
          · have b1 := HR.out.1 hb
            have i3 : (31 : Int) < (j : Int) := by omega
            rw [b1]
            clear b1 HR hb
            simp only [List.length_nil]
            go_wp2
            go_ret
            exact ⟨by simp [*], O2.out⟩
          · obtain ⟨fm, b1⟩ := HR.out.2 (by omega)
            have i3 : ¬ (31 : Int) < (j : Int) := by omega
            rw [b1]
            clear b1 HR hb
            simp only [List.length_cons, List.length_nil]
            go_wp2
            all_goals
              go_ret
              exact ⟨by simp [*], O2.out⟩
end Go.Proofs.YtokponkokpdhiaaDoor
namespace Go.Proofs.YtokponkokpdhiaaDoor
open Go.RowKit
theorem nests_walk (x : Int) (h0 : 0 ≤ x) (h1 : x ≤ 255) (l d : Bool) (w : World) (h : Nog w) : Calls Tryd.prog 5 #[.int .u8 x, .bool l, .bool d] w fun e w' => e = .returned (.bool true) ∧ Below w.heap.size w w' := by
  obtain ⟨n, rfl⟩ : ∃ n : Nat, x = n := ⟨x.toNat, by omega⟩
  cases l <;> cases d
  · exact quo_walk n (by omega) w h
  · exact quo_walkD n (by omega) w h
  · exact lis_walk n (by omega) w h
  · exact lis_walkD n (by omega) w h
end Go.Proofs.YtokponkokpdhiaaDoor
