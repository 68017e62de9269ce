/- What a cell is read as; that the program does something. -/
import Derived.Test.YtedoaiapjjocdaaC1
namespace Go.Proofs.Ytedoaiapjjocdaa
open Go.RowKit
set_option linter.unusedSimpArgs false
set_option linter.unusedVariables false

theorem kind1 {c : Int} (hk : kindN c = 1) : c % 4 = 0 ∧ fit (wd c / 4) = true := by
  unfold kindN at hk
  split at hk
  · refine ⟨by assumption, ?_⟩
    split at hk
    · assumption
    · omega
  · split at hk
    · omega
    · split at hk <;> omega
theorem kind2 {c : Int} (hk : kindN c = 2) : c % 4 = 1 := by
  unfold kindN at hk
  split at hk
  · split at hk <;> omega
  · split at hk
    · assumption
    · split at hk <;> omega
theorem kind3 {c : Int} (hk : kindN c = 3) : c = 2 ∨ c = 6 := by
  unfold kindN at hk
  split at hk
  · split at hk <;> omega
  · split at hk
    · omega
    · split at hk
      · assumption
      · omega
theorem num_any (c : Int) (w : World) (h : U c) : Calls Try.prog 14 #[.int .u64 c] w fun e w' => e = .returned (if kindN c = 1 then .tuple #[.int .i64 (wd c / 4), .int .i64 0] else .tuple #[.int .i64 0, .int .i64 17]) ∧ w' = w := by
  have hs := kind_any c w h
  by_cases hk : kindN c = 1
  · rw [if_pos hk]
    rw [hk] at hs
    have hn := number_any c w h
    clear hk
    obtain ⟨h1, h2⟩ := h
    go_enter Try.func14, Try.ntmps14
    go_wp2_with fail
    refine hs.mono ?_
    rintro e w1 ⟨rfl, rfl⟩
    go_wp2_with fail
    refine hn.mono ?_
    rintro e w1 ⟨rfl, rfl⟩
    go_wp2
    go_ret2
    exact ⟨rfl, rfl⟩
  · rw [if_neg hk]
    generalize kindN c = x at *
    have hx : (x == 1) = false := by simpa using hk
    clear hk
    go_enter Try.func14, Try.ntmps14
    go_wp2_with fail
    refine hs.mono ?_
    rintro e w1 ⟨rfl, rfl⟩
    go_wp2
    go_ret2
    exact ⟨rfl, rfl⟩
theorem rnum_any (c : Int) (w : World) (h : U c) : Calls Try.prog 15 #[.int .u64 c] w fun e w' => e = .returned (if kindN c = 1 then .tuple #[.int .i64 (wd c / 4), .int .i64 0] else .tuple #[.int .i64 0, .int .i64 17]) ∧ w' = w := by
  have hs := rkind_any c w h
  by_cases hk : kindN c = 1
  · rw [if_pos hk]
    rw [hk] at hs
    have hn := whole_any c w h (kind1 hk).1
    clear hk
    obtain ⟨h1, h2⟩ := h
    go_enter Try.func15, Try.ntmps15
    go_wp2_with fail
    refine hs.mono ?_
    rintro e w1 ⟨rfl, rfl⟩
    go_wp2_with fail
    refine hn.mono ?_
    rintro e w1 ⟨rfl, rfl⟩
    go_wp2
    go_ret2
    exact ⟨rfl, rfl⟩
  · rw [if_neg hk]
    generalize kindN c = x at *
    have hx : (x == 1) = false := by simpa using hk
    clear hk
    go_enter Try.func15, Try.ntmps15
    go_wp2_with fail
    refine hs.mono ?_
    rintro e w1 ⟨rfl, rfl⟩
    go_wp2
    go_ret2
    exact ⟨rfl, rfl⟩
theorem addr_any (c : Int) (w : World) (h : U c) : Calls Try.prog 16 #[.int .u64 c] w fun e w' => e = .returned (if kindN c = 2 then .tuple #[.int .u64 (c / 4), .int .i64 0] else .tuple #[.int .u64 0, .int .i64 17]) ∧ w' = w := by
  have hs := kind_any c w h
  by_cases hk : kindN c = 2
  · rw [if_pos hk]
    rw [hk] at hs
    clear hk
    obtain ⟨h1, h2⟩ := h
    go_enter Try.func16, Try.ntmps16
    go_wp2_with fail
    refine hs.mono ?_
    rintro e w1 ⟨rfl, rfl⟩
    go_wp2
    go_ret2
    exact ⟨rfl, rfl⟩
  · rw [if_neg hk]
    generalize kindN c = x at *
    have hx : (x == 2) = false := by simpa using hk
    clear hk
    go_enter Try.func16, Try.ntmps16
    go_wp2_with fail
    refine hs.mono ?_
    rintro e w1 ⟨rfl, rfl⟩
    go_wp2
    go_ret2
    exact ⟨rfl, rfl⟩
theorem raddr_any (c : Int) (w : World) (h : U c) : Calls Try.prog 17 #[.int .u64 c] w fun e w' => e = .returned (if kindN c = 2 then .tuple #[.int .u64 (c / 4), .int .i64 0] else .tuple #[.int .u64 0, .int .i64 17]) ∧ w' = w := by
  have hs := rkind_any c w h
  by_cases hk : kindN c = 2
  · rw [if_pos hk]
    rw [hk] at hs
    clear hk
    obtain ⟨h1, h2⟩ := h
    go_enter Try.func17, Try.ntmps17
    go_wp2_with fail
    refine hs.mono ?_
    rintro e w1 ⟨rfl, rfl⟩
    go_wp2
    go_ret2
    exact ⟨rfl, rfl⟩
  · rw [if_neg hk]
    generalize kindN c = x at *
    have hx : (x == 2) = false := by simpa using hk
    clear hk
    go_enter Try.func17, Try.ntmps17
    go_wp2_with fail
    refine hs.mono ?_
    rintro e w1 ⟨rfl, rfl⟩
    go_wp2
    go_ret2
    exact ⟨rfl, rfl⟩
theorem bool_any (c : Int) (w : World) (h : U c) : Calls Try.prog 18 #[.int .u64 c] w fun e w' => e = .returned (if kindN c = 3 then .tuple #[.bool (c == 6), .int .i64 0] else .tuple #[.bool false, .int .i64 17]) ∧ w' = w := by
  have hs := kind_any c w h
  by_cases hk : kindN c = 3
  · rw [if_pos hk]
    rw [hk] at hs
    clear hk
    obtain ⟨h1, h2⟩ := h
    go_enter Try.func18, Try.ntmps18
    go_wp2_with fail
    refine hs.mono ?_
    rintro e w1 ⟨rfl, rfl⟩
    go_wp2
    go_ret2
    exact ⟨rfl, rfl⟩
  · rw [if_neg hk]
    generalize kindN c = x at *
    have hx : (x == 3) = false := by simpa using hk
    clear hk
    go_enter Try.func18, Try.ntmps18
    go_wp2_with fail
    refine hs.mono ?_
    rintro e w1 ⟨rfl, rfl⟩
    go_wp2
    go_ret2
    exact ⟨rfl, rfl⟩
theorem rbool_any (c : Int) (w : World) (h : U c) : Calls Try.prog 19 #[.int .u64 c] w fun e w' => e = .returned (if kindN c = 3 then .tuple #[.bool (c == 6), .int .i64 0] else .tuple #[.bool false, .int .i64 17]) ∧ w' = w := by
  have hs := rkind_any c w h
  by_cases hk : kindN c = 3
  · rw [if_pos hk]
    rw [hk] at hs
    clear hk
    obtain ⟨h1, h2⟩ := h
    go_enter Try.func19, Try.ntmps19
    go_wp2_with fail
    refine hs.mono ?_
    rintro e w1 ⟨rfl, rfl⟩
    go_wp2
    go_ret2
    exact ⟨rfl, rfl⟩
  · rw [if_neg hk]
    generalize kindN c = x at *
    have hx : (x == 3) = false := by simpa using hk
    clear hk
    go_enter Try.func19, Try.ntmps19
    go_wp2_with fail
    refine hs.mono ?_
    rintro e w1 ⟨rfl, rfl⟩
    go_wp2
    go_ret2
    exact ⟨rfl, rfl⟩
theorem awake_any (w : World) : Calls Try.prog 7 #[] w fun e w' => e = .returned (.bool true) ∧ w' = w := by
  have h1 := flag_any true w
  have h2 := kind_any 4 w ⟨by omega, by omega⟩
  rw [show kindN 4 = 1 from by decide] at h2
  simp only [if_true] at h1
  go_enter Try.func7, Try.ntmps7
  go_wp2_with fail
  refine h1.mono ?_
  rintro e w1 ⟨rfl, rfl⟩
  go_wp2_with fail
  refine h2.mono ?_
  rintro e w1 ⟨rfl, rfl⟩
  go_wp2
  go_ret
  exact ⟨rfl, rfl⟩
end Go.Proofs.Ytedoaiapjjocdaa
