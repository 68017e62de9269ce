/- CellBack: the walk. -/
import Derived.Test.YtedoaiapjjocdaaC2
namespace Go.Proofs.Ytedoaiapjjocdaa
open Go.RowKit
set_option linter.unusedSimpArgs false
set_option linter.unusedVariables false

theorem fix_back {n : Int} (h : fit n = true) : kindN (4 * n % 18446744073709551616) = 1 ∧ wd (4 * n % 18446744073709551616) / 4 = n := by
  have hf := fit_true h
  have e : wd (4 * n % 18446744073709551616) = 4 * n := by unfold wd; split <;> omega
  have e2 : wd (4 * n % 18446744073709551616) / 4 = n := by rw [e]; omega
  refine ⟨?_, e2⟩
  unfold kindN
  rw [if_pos (by omega), e2, h]
  rfl
theorem ptr_back {a : Int} : kindN (4 * a + 1) = 2 := by
  unfold kindN
  rw [if_neg (by omega), if_pos (by omega)]
theorem flag_back (b : Bool) : kindN (if b then 6 else 2) = 3 := by cases b <;> rfl
theorem flag_six (b : Bool) : ((if b then (6 : Int) else 2) == 6) = b := by cases b <;> rfl
set_option maxHeartbeats 400000 in
theorem back_00 (n a : Int) (b : Bool) (w : World) (hn : -9223372036854775808 ≤ n ∧ n ≤ 9223372036854775807) (ha : U a) (hf : fit n = true) (hp : a < 4611686018427387904) :
    Calls Try.prog 5 #[.int .i64 n, .int .u64 a, .bool b] w fun e w' => e = .returned (.bool true) ∧ w' = w := by
  have hflag := flag_any b w
  have hbk := kind_any (if b then 6 else 2) w ⟨by split <;> omega, by split <;> omega⟩
  have hbool := bool_any (if b then 6 else 2) w ⟨by split <;> omega, by split <;> omega⟩
  rw [flag_back] at hbk hbool
  rw [if_pos rfl, flag_six] at hbool
  generalize (if b then (6 : Int) else 2) = fb at *
  have h0 := awake_any w
  have hin := in_any n w
  have hx := fix_any n w hn
  rw [hf, if_pos rfl] at hx
  rw [hf] at hin
  obtain ⟨hk, hv⟩ := fix_back hf
  have hc : U (4 * n % 18446744073709551616) := ⟨by omega, by omega⟩
  have hx1 := num_any _ w hc
  have hx2 := addr_any _ w hc
  have hx3 := bool_any _ w hc
  have hx4 := kind_any _ w hc
  rw [hk] at hx1 hx2 hx3 hx4
  rw [if_pos rfl, hv] at hx1
  rw [if_neg (by decide)] at hx2 hx3
  clear hk hv hc hf
  generalize 4 * n % 18446744073709551616 = c at *
  have hy := ptr_any a w ha
  rw [if_pos hp] at hy
  have hd : U (4 * a + 1) := ⟨by have := ha.1; omega, by omega⟩
  have hy1 := addr_any _ w hd
  have hy2 := num_any _ w hd
  have hy3 := kind_any _ w hd
  rw [ptr_back] at hy1 hy2 hy3
  rw [if_pos rfl, show (4 * a + 1) / 4 = a by omega] at hy1
  rw [if_neg (by decide)] at hy2
  clear hd hp
  generalize 4 * a + 1 = d at *
  clear hn ha
  go_enter Try.func5, Try.ntmps5
  go_wp2_with fail
  refine h0.mono ?_
  rintro e w1 ⟨rfl, rfl⟩
  go_wp2_with fail
  refine hx.mono ?_
  rintro e w1 ⟨rfl, rfl⟩
  go_wp2_with fail
  refine hx1.mono ?_
  rintro e w1 ⟨rfl, rfl⟩
  go_wp2_with fail
  refine hx2.mono ?_
  rintro e w1 ⟨rfl, rfl⟩
  go_wp2_with fail
  refine hx3.mono ?_
  rintro e w1 ⟨rfl, rfl⟩
  go_wp2_with fail
  refine hx4.mono ?_
  rintro e w1 ⟨rfl, rfl⟩
  go_wp2_with fail
  refine hy.mono ?_
  rintro e w1 ⟨rfl, rfl⟩
  go_wp2_with fail
  refine hy1.mono ?_
  rintro e w1 ⟨rfl, rfl⟩
  go_wp2_with fail
  refine hy2.mono ?_
  rintro e w1 ⟨rfl, rfl⟩
  go_wp2_with fail
  refine hy3.mono ?_
  rintro e w1 ⟨rfl, rfl⟩
  go_wp2_with fail
  refine hflag.mono ?_
  rintro e w1 ⟨rfl, rfl⟩
  go_wp2_with fail
  refine hbool.mono ?_
  rintro e w1 ⟨rfl, rfl⟩
  go_wp2_with fail
  refine hflag.mono ?_
  rintro e w1 ⟨rfl, rfl⟩
  go_wp2_with fail
  refine hbk.mono ?_
  rintro e w1 ⟨rfl, rfl⟩
  go_wp2_with fail
  refine hin.mono ?_
  rintro e w1 ⟨rfl, rfl⟩
  go_wp2
  go_ret
  exact ⟨rfl, rfl⟩
set_option maxHeartbeats 400000 in
theorem back_01 (n a : Int) (b : Bool) (w : World) (hn : -9223372036854775808 ≤ n ∧ n ≤ 9223372036854775807) (ha : U a) (hf : fit n = true) (hp : ¬ a < 4611686018427387904) :
    Calls Try.prog 5 #[.int .i64 n, .int .u64 a, .bool b] w fun e w' => e = .returned (.bool true) ∧ w' = w := by
  have hflag := flag_any b w
  have hbk := kind_any (if b then 6 else 2) w ⟨by split <;> omega, by split <;> omega⟩
  have hbool := bool_any (if b then 6 else 2) w ⟨by split <;> omega, by split <;> omega⟩
  rw [flag_back] at hbk hbool
  rw [if_pos rfl, flag_six] at hbool
  generalize (if b then (6 : Int) else 2) = fb at *
  have h0 := awake_any w
  have hin := in_any n w
  have hx := fix_any n w hn
  rw [hf, if_pos rfl] at hx
  rw [hf] at hin
  obtain ⟨hk, hv⟩ := fix_back hf
  have hc : U (4 * n % 18446744073709551616) := ⟨by omega, by omega⟩
  have hx1 := num_any _ w hc
  have hx2 := addr_any _ w hc
  have hx3 := bool_any _ w hc
  have hx4 := kind_any _ w hc
  rw [hk] at hx1 hx2 hx3 hx4
  rw [if_pos rfl, hv] at hx1
  rw [if_neg (by decide)] at hx2 hx3
  clear hk hv hc hf
  generalize 4 * n % 18446744073709551616 = c at *
  have hy := ptr_any a w ha
  rw [if_neg hp] at hy
  clear hp
  clear hn ha
  go_enter Try.func5, Try.ntmps5
  go_wp2_with fail
  refine h0.mono ?_
  rintro e w1 ⟨rfl, rfl⟩
  go_wp2_with fail
  refine hx.mono ?_
  rintro e w1 ⟨rfl, rfl⟩
  go_wp2_with fail
  refine hx1.mono ?_
  rintro e w1 ⟨rfl, rfl⟩
  go_wp2_with fail
  refine hx2.mono ?_
  rintro e w1 ⟨rfl, rfl⟩
  go_wp2_with fail
  refine hx3.mono ?_
  rintro e w1 ⟨rfl, rfl⟩
  go_wp2_with fail
  refine hx4.mono ?_
  rintro e w1 ⟨rfl, rfl⟩
  go_wp2_with fail
  refine hy.mono ?_
  rintro e w1 ⟨rfl, rfl⟩
  go_wp2_with fail
  refine hflag.mono ?_
  rintro e w1 ⟨rfl, rfl⟩
  go_wp2_with fail
  refine hbool.mono ?_
  rintro e w1 ⟨rfl, rfl⟩
  go_wp2_with fail
  refine hflag.mono ?_
  rintro e w1 ⟨rfl, rfl⟩
  go_wp2_with fail
  refine hbk.mono ?_
  rintro e w1 ⟨rfl, rfl⟩
  go_wp2_with fail
  refine hin.mono ?_
  rintro e w1 ⟨rfl, rfl⟩
  go_wp2
  go_ret
  exact ⟨rfl, rfl⟩
set_option maxHeartbeats 400000 in
theorem back_10 (n a : Int) (b : Bool) (w : World) (hn : -9223372036854775808 ≤ n ∧ n ≤ 9223372036854775807) (ha : U a) (hf : fit n = false) (hp : a < 4611686018427387904) :
    Calls Try.prog 5 #[.int .i64 n, .int .u64 a, .bool b] w fun e w' => e = .returned (.bool true) ∧ w' = w := by
  have hflag := flag_any b w
  have hbk := kind_any (if b then 6 else 2) w ⟨by split <;> omega, by split <;> omega⟩
  have hbool := bool_any (if b then 6 else 2) w ⟨by split <;> omega, by split <;> omega⟩
  rw [flag_back] at hbk hbool
  rw [if_pos rfl, flag_six] at hbool
  generalize (if b then (6 : Int) else 2) = fb at *
  have h0 := awake_any w
  have hin := in_any n w
  have hx := fix_any n w hn
  rw [hf, if_neg (by decide)] at hx
  rw [hf] at hin
  clear hf
  have hy := ptr_any a w ha
  rw [if_pos hp] at hy
  have hd : U (4 * a + 1) := ⟨by have := ha.1; omega, by omega⟩
  have hy1 := addr_any _ w hd
  have hy2 := num_any _ w hd
  have hy3 := kind_any _ w hd
  rw [ptr_back] at hy1 hy2 hy3
  rw [if_pos rfl, show (4 * a + 1) / 4 = a by omega] at hy1
  rw [if_neg (by decide)] at hy2
  clear hd hp
  generalize 4 * a + 1 = d at *
  clear hn ha
  go_enter Try.func5, Try.ntmps5
  go_wp2_with fail
  refine h0.mono ?_
  rintro e w1 ⟨rfl, rfl⟩
  go_wp2_with fail
  refine hx.mono ?_
  rintro e w1 ⟨rfl, rfl⟩
  go_wp2_with fail
  refine hy.mono ?_
  rintro e w1 ⟨rfl, rfl⟩
  go_wp2_with fail
  refine hy1.mono ?_
  rintro e w1 ⟨rfl, rfl⟩
  go_wp2_with fail
  refine hy2.mono ?_
  rintro e w1 ⟨rfl, rfl⟩
  go_wp2_with fail
  refine hy3.mono ?_
  rintro e w1 ⟨rfl, rfl⟩
  go_wp2_with fail
  refine hflag.mono ?_
  rintro e w1 ⟨rfl, rfl⟩
  go_wp2_with fail
  refine hbool.mono ?_
  rintro e w1 ⟨rfl, rfl⟩
  go_wp2_with fail
  refine hflag.mono ?_
  rintro e w1 ⟨rfl, rfl⟩
  go_wp2_with fail
  refine hbk.mono ?_
  rintro e w1 ⟨rfl, rfl⟩
  go_wp2_with fail
  refine hin.mono ?_
  rintro e w1 ⟨rfl, rfl⟩
  go_wp2
  go_ret
  exact ⟨rfl, rfl⟩
set_option maxHeartbeats 400000 in
theorem back_11 (n a : Int) (b : Bool) (w : World) (hn : -9223372036854775808 ≤ n ∧ n ≤ 9223372036854775807) (ha : U a) (hf : fit n = false) (hp : ¬ a < 4611686018427387904) :
    Calls Try.prog 5 #[.int .i64 n, .int .u64 a, .bool b] w fun e w' => e = .returned (.bool true) ∧ w' = w := by
  have hflag := flag_any b w
  have hbk := kind_any (if b then 6 else 2) w ⟨by split <;> omega, by split <;> omega⟩
  have hbool := bool_any (if b then 6 else 2) w ⟨by split <;> omega, by split <;> omega⟩
  rw [flag_back] at hbk hbool
  rw [if_pos rfl, flag_six] at hbool
  generalize (if b then (6 : Int) else 2) = fb at *
  have h0 := awake_any w
  have hin := in_any n w
  have hx := fix_any n w hn
  rw [hf, if_neg (by decide)] at hx
  rw [hf] at hin
  clear hf
  have hy := ptr_any a w ha
  rw [if_neg hp] at hy
  clear hp
  clear hn ha
  go_enter Try.func5, Try.ntmps5
  go_wp2_with fail
  refine h0.mono ?_
  rintro e w1 ⟨rfl, rfl⟩
  go_wp2_with fail
  refine hx.mono ?_
  rintro e w1 ⟨rfl, rfl⟩
  go_wp2_with fail
  refine hy.mono ?_
  rintro e w1 ⟨rfl, rfl⟩
  go_wp2_with fail
  refine hflag.mono ?_
  rintro e w1 ⟨rfl, rfl⟩
  go_wp2_with fail
  refine hbool.mono ?_
  rintro e w1 ⟨rfl, rfl⟩
  go_wp2_with fail
  refine hflag.mono ?_
  rintro e w1 ⟨rfl, rfl⟩
  go_wp2_with fail
  refine hbk.mono ?_
  rintro e w1 ⟨rfl, rfl⟩
  go_wp2_with fail
  refine hin.mono ?_
  rintro e w1 ⟨rfl, rfl⟩
  go_wp2
  go_ret
  exact ⟨rfl, rfl⟩
theorem back_any (n a : Int) (b : Bool) (w : World) (hn : -9223372036854775808 ≤ n ∧ n ≤ 9223372036854775807) (ha : U a) :
    Calls Try.prog 5 #[.int .i64 n, .int .u64 a, .bool b] w fun e w' => e = .returned (.bool true) ∧ w' = w := by
  cases hf : fit n
  · by_cases hp : a < 4611686018427387904
    · exact back_10 n a b w hn ha hf hp
    · exact back_11 n a b w hn ha hf hp
  · by_cases hp : a < 4611686018427387904
    · exact back_00 n a b w hn ha hf hp
    · exact back_01 n a b w hn ha hf hp
end Go.Proofs.Ytedoaiapjjocdaa
