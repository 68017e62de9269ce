/- What the calls of cell and of the document's answer give: numbers, addresses, flags, kinds. -/
import Derived.Test.YtedoaiapjjocdaaRows
import Derived.Laws.BitsLemmas
import Derived.WalkKit
import Derived.WalkSpells
import Derived.WalkLawsBesides
namespace Go.Proofs.Ytedoaiapjjocdaa
open Go.RowKit
set_option linter.unusedSimpArgs false
set_option linter.unusedVariables false

/-- May a number be one? -/
def fit (n : Int) : Bool := decide (-1152921504606846976 ≤ n ∧ n ≤ 1152921504606846975)
theorem fit_true {n : Int} (h : fit n = true) : -1152921504606846976 ≤ n ∧ n ≤ 1152921504606846975 := of_decide_eq_true h
theorem fit_false {n : Int} (h : fit n = false) : ¬ (-1152921504606846976 ≤ n ∧ n ≤ 1152921504606846975) := of_decide_eq_false h
/-- A word as a number with its sign. -/
def wd (c : Int) : Int := if c < 9223372036854775808 then c else c - 18446744073709551616
/-- What a cell is. -/
def kindN (c : Int) : Int := if c % 4 = 0 then (if fit (wd c / 4) then 1 else 0) else if c % 4 = 1 then 2 else if c = 2 ∨ c = 6 then 3 else 0
/-- A word that goes by 64 bits. -/
def U (c : Int) : Prop := 0 ≤ c ∧ c < 18446744073709551616
theorem r_u64 {z : Int} (h : (Lit.int .u64 z).wf = true) : U z := by
  have h' : IntKind.u64.min ≤ z ∧ z ≤ IntKind.u64.max := by simpa [Lit.wf] using h
  have h2 : 0 ≤ z ∧ z ≤ 18446744073709551615 := h'
  exact ⟨h2.1, by omega⟩
theorem r_i64 {z : Int} (h : (Lit.int .i64 z).wf = true) : -9223372036854775808 ≤ z ∧ z ≤ 9223372036854775807 := by
  have h' : IntKind.i64.min ≤ z ∧ z ≤ IntKind.i64.max := by simpa [Lit.wf] using h
  exact h'
theorem r_u8 {z : Int} (h : (Lit.int .u8 z).wf = true) : 0 ≤ z ∧ z < 256 := by
  have h' : IntKind.u8.min ≤ z ∧ z ≤ IntKind.u8.max := by simpa [Lit.wf] using h
  have h2 : 0 ≤ z ∧ z ≤ 255 := h'
  omega
theorem wrap_wd {c : Int} (h : U c) : wrap64 c = wd c := by
  obtain ⟨h1, h2⟩ := h
  unfold wd wrap64
  split <;> omega
theorem wrap_in {n : Int} (h : -9223372036854775808 ≤ n ∧ n ≤ 9223372036854775807) : wrap64 n = n := by unfold wrap64; omega
theorem wd_range {c : Int} (h : U c) : -9223372036854775808 ≤ wd c ∧ wd c ≤ 9223372036854775807 := by
  obtain ⟨h1, h2⟩ := h
  unfold wd; split <;> omega
theorem and3 {c : Int} (h : U c) : bits .and .u64 c 3 = c % 4 := by
  obtain ⟨h1, h2⟩ := h
  obtain ⟨n, rfl⟩ := Int.eq_ofNat_of_zero_le h1
  have e1 : n % 2 ^ IntKind.u64.bits = n := Nat.mod_eq_of_lt (by simpa [IntKind.bits] using (show n < 18446744073709551616 by omega))
  have e2 : (3 : Int) = ((3 : Nat) : Int) := rfl
  have e3 : 3 % 2 ^ IntKind.u64.bits = 3 := rfl
  rw [e2]
  simp only [bits, BitVec.ofInt_natCast, BitVec.toNat_and, BitVec.toNat_ofNat, e1, e3]
  rw [IntKind.wrap_u64, show n &&& 3 = n % 4 from Nat.and_two_pow_sub_one_eq_mod n 2]
  omega
theorem or0 {c : Int} (h : U c) : bits .or .u64 c 0 = c := by
  obtain ⟨h1, h2⟩ := h
  obtain ⟨n, rfl⟩ := Int.eq_ofNat_of_zero_le h1
  have e1 : n % 2 ^ IntKind.u64.bits = n := Nat.mod_eq_of_lt (by simpa [IntKind.bits] using (show n < 18446744073709551616 by omega))
  have e2 : (0 : Int) = ((0 : Nat) : Int) := rfl
  have e3 : 0 % 2 ^ IntKind.u64.bits = 0 := rfl
  rw [e2]
  simp only [bits, BitVec.ofInt_natCast, BitVec.toNat_or, BitVec.toNat_ofNat, e1, e3]
  rw [IntKind.wrap_u64, Nat.or_zero]
  omega
theorem or1 {c : Int} (h : 0 ≤ c ∧ c < 4611686018427387904) : bits .or .u64 (c * 4) 1 = c * 4 + 1 := by
  obtain ⟨h1, h2⟩ := h
  obtain ⟨n, rfl⟩ := Int.eq_ofNat_of_zero_le h1
  have e1 : (n * 4) % 2 ^ IntKind.u64.bits = n * 4 := Nat.mod_eq_of_lt (by simpa [IntKind.bits] using (show n * 4 < 18446744073709551616 by omega))
  have e2 : (1 : Int) = ((1 : Nat) : Int) := rfl
  have e3 : 1 % 2 ^ IntKind.u64.bits = 1 := rfl
  have e4 : (n : Int) * 4 = ((n * 4 : Nat) : Int) := by omega
  rw [e2, e4]
  simp only [bits, BitVec.ofInt_natCast, BitVec.toNat_or, BitVec.toNat_ofNat, e1, e3]
  have e5 : n * 4 ||| 1 = n * 4 + 1 := by
    have := Nat.two_pow_add_eq_or_of_lt (i := 2) (b := 1) (by omega) n
    rw [show 2 ^ 2 * n = n * 4 by omega] at this
    exact this.symm
  rw [IntKind.wrap_u64, e5]
  omega

theorem fits_any (n : Int) (w : World) : Calls Try.prog 24 #[.int .i64 n] w fun e w' => e = .returned (.bool (fit n)) ∧ w' = w := by
  by_cases h1 : -1152921504606846976 ≤ n
  · by_cases h2 : n ≤ 1152921504606846975
    · rw [show fit n = true from decide_eq_true ⟨h1, h2⟩]
      go_enter Try.func24, Try.ntmps24
      go_wp2
      go_ret
      exact ⟨rfl, rfl⟩
    · rw [show fit n = false from decide_eq_false (by omega)]
      go_enter Try.func24, Try.ntmps24
      go_wp2
      go_ret
      exact ⟨rfl, rfl⟩
  · rw [show fit n = false from decide_eq_false (by omega)]
    go_enter Try.func24, Try.ntmps24
    go_wp2
    go_ret
    exact ⟨rfl, rfl⟩
theorem in_any (n : Int) (w : World) : Calls Try.prog 23 #[.int .i64 n] w fun e w' => e = .returned (.bool (fit n)) ∧ w' = w := by
  by_cases h1 : -1152921504606846976 ≤ n
  · by_cases h2 : n ≤ 1152921504606846975
    · rw [show fit n = true from decide_eq_true ⟨h1, h2⟩]
      go_enter Try.func23, Try.ntmps23
      go_wp2
      go_ret
      exact ⟨rfl, rfl⟩
    · rw [show fit n = false from decide_eq_false (by omega)]
      go_enter Try.func23, Try.ntmps23
      go_wp2
      go_ret
      exact ⟨rfl, rfl⟩
  · rw [show fit n = false from decide_eq_false (by omega)]
    go_enter Try.func23, Try.ntmps23
    go_wp2
    go_ret
    exact ⟨rfl, rfl⟩
theorem fix_any (n : Int) (w : World) (h : -9223372036854775808 ≤ n ∧ n ≤ 9223372036854775807) : Calls Try.prog 8 #[.int .i64 n] w fun e w' => e = .returned (if fit n then .tuple #[.int .u64 ((4 * n) % 18446744073709551616), .int .i64 0] else .tuple #[.int .u64 0, .int .i64 18]) ∧ w' = w := by
  have hs := fits_any n w
  cases hf : fit n
  · rw [hf] at hs
    simp only [Bool.false_eq_true, if_false]
    go_enter Try.func8, Try.ntmps8
    go_wp2_with fail
    refine hs.mono ?_
    rintro e w1 ⟨rfl, rfl⟩
    go_wp2
    go_ret2
    exact ⟨rfl, rfl⟩
  · rw [hf] at hs
    have hb := fit_true hf
    simp only [if_true]
    have hx : bits .or .u64 (IntKind.u64.wrap (IntKind.u64.wrap n * 4)) 0 = (4 * n) % 18446744073709551616 := by
      rw [or0 ⟨by rw [IntKind.wrap_u64]; omega, by rw [IntKind.wrap_u64]; omega⟩, IntKind.wrap_u64, IntKind.wrap_u64]
      omega
    go_enter Try.func8, Try.ntmps8
    go_wp2_with fail
    refine hs.mono ?_
    rintro e w1 ⟨rfl, rfl⟩
    go_wp2
    go_ret2
    exact ⟨rfl, rfl⟩
theorem rfix_any (n : Int) (w : World) (h : -9223372036854775808 ≤ n ∧ n ≤ 9223372036854775807) : Calls Try.prog 9 #[.int .i64 n] w fun e w' => e = .returned (if fit n then .tuple #[.int .u64 ((4 * n) % 18446744073709551616), .int .i64 0] else .tuple #[.int .u64 0, .int .i64 18]) ∧ w' = w := by
  have hs := in_any n w
  cases hf : fit n
  · rw [hf] at hs
    simp only [Bool.false_eq_true, if_false]
    go_enter Try.func9, Try.ntmps9
    go_wp2_with fail
    refine hs.mono ?_
    rintro e w1 ⟨rfl, rfl⟩
    go_wp2
    go_ret2
    exact ⟨rfl, rfl⟩
  · rw [hf] at hs
    have hb := fit_true hf
    simp only [if_true]
    have hx : IntKind.u64.wrap (4 * n) = (4 * n) % 18446744073709551616 := IntKind.wrap_u64 _
    go_enter Try.func9, Try.ntmps9
    go_wp2_with fail
    refine hs.mono ?_
    rintro e w1 ⟨rfl, rfl⟩
    go_wp2
    go_ret2
    exact ⟨rfl, rfl⟩
theorem ptr_any (n : Int) (w : World) (h : 0 ≤ n ∧ n < 18446744073709551616) : Calls Try.prog 10 #[.int .u64 n] w fun e w' => e = .returned (if n < 4611686018427387904 then .tuple #[.int .u64 (4 * n + 1), .int .i64 0] else .tuple #[.int .u64 0, .int .i64 18]) ∧ w' = w := by
  by_cases hf : n < 4611686018427387904
  · simp only [hf, if_true]
    have hx : bits .or .u64 (n * 4) 1 = 4 * n + 1 := by rw [or1 ⟨h.1, hf⟩]; omega
    go_enter Try.func10, Try.ntmps10
    go_wp2
    go_ret2
    exact ⟨rfl, rfl⟩
  · simp only [hf, if_false]
    go_enter Try.func10, Try.ntmps10
    go_wp2
    go_ret2
    exact ⟨rfl, rfl⟩
theorem rptr_any (n : Int) (w : World) (h : 0 ≤ n ∧ n < 18446744073709551616) : Calls Try.prog 11 #[.int .u64 n] w fun e w' => e = .returned (if n < 4611686018427387904 then .tuple #[.int .u64 (4 * n + 1), .int .i64 0] else .tuple #[.int .u64 0, .int .i64 18]) ∧ w' = w := by
  by_cases hf : n < 4611686018427387904
  · simp only [hf, if_true]
    skip
    go_enter Try.func11, Try.ntmps11
    go_wp2
    go_ret2
    exact ⟨rfl, rfl⟩
  · simp only [hf, if_false]
    go_enter Try.func11, Try.ntmps11
    go_wp2
    go_ret2
    exact ⟨rfl, rfl⟩
theorem number_any (c : Int) (w : World) (h : U c) : Calls Try.prog 25 #[.int .u64 c] w fun e w' => e = .returned (.int .i64 (wd c / 4)) ∧ w' = w := by
  have hw := wrap_wd h
  obtain ⟨h1, h2⟩ := h
  go_enter Try.func25, Try.ntmps25
  go_wp2
  go_ret
  exact ⟨rfl, rfl⟩
theorem whole_any (c : Int) (w : World) (h : U c) (h4 : c % 4 = 0) : Calls Try.prog 26 #[.int .u64 c] w fun e w' => e = .returned (.int .i64 (wd c / 4)) ∧ w' = w := by
  have hw := wrap_wd h
  have hr := wd_range h
  have hv : wrap64 ((wd c).tdiv 4) = wd c / 4 := by
    have h5 : wd c % 4 = 0 := by unfold wd; split <;> omega
    have e : wd c = 4 * (wd c / 4) := by omega
    have e2 : (wd c).tdiv 4 = wd c / 4 := by
      conv => lhs; rw [e]
      exact Int.mul_tdiv_cancel_left _ (by omega)
    rw [e2]
    exact wrap_in (by omega)
  obtain ⟨h1, h2⟩ := h
  clear hr h4
  go_enter Try.func26, Try.ntmps26
  go_wp2
  go_ret
  exact ⟨congrArg (fun x => Ending.returned (.int .i64 x)) hv, rfl⟩
theorem flag_any (b : Bool) (w : World) : Calls Try.prog 22 #[.bool b] w fun e w' => e = .returned (.int .u64 (if b then 6 else 2)) ∧ w' = w := by
  cases b
  · go_enter Try.func22, Try.ntmps22
    go_wp2
    go_ret
    exact ⟨rfl, rfl⟩
  · go_enter Try.func22, Try.ntmps22
    go_wp2
    go_ret
    exact ⟨rfl, rfl⟩
theorem kind_any (c : Int) (w : World) (h : U c) : Calls Try.prog 12 #[.int .u64 c] w fun e w' => e = .returned (.int .i64 (kindN c)) ∧ w' = w := by
  obtain ⟨k, hk⟩ : ∃ k, kindN c = k := ⟨_, rfl⟩
  rw [hk]
  unfold kindN at hk
  have hb := and3 h
  obtain ⟨h1, h2⟩ := id h
  rcases (by omega : c % 4 = 0 ∨ c % 4 = 1 ∨ c % 4 = 2 ∨ c % 4 = 3) with h3 | h3 | h3 | h3
  · have hn := number_any c w h
    have hs := fits_any (wd c / 4) w
    rw [if_pos h3] at hk
    rw [h3] at hb
    generalize wd c / 4 = x at *
    clear h3
    cases hf : fit x
    · rw [hf] at hs hk
      obtain rfl : 0 = k := by simpa using hk
      go_enter Try.func12, Try.ntmps12
      go_wp2_with fail
      refine hn.mono ?_
      rintro e w1 ⟨rfl, rfl⟩
      go_wp2_with fail
      refine hs.mono ?_
      rintro e w1 ⟨rfl, rfl⟩
      go_wp2
      go_ret
      exact ⟨rfl, rfl⟩
    · rw [hf] at hs hk
      obtain rfl : 1 = k := by simpa using hk
      go_enter Try.func12, Try.ntmps12
      go_wp2_with fail
      refine hn.mono ?_
      rintro e w1 ⟨rfl, rfl⟩
      go_wp2_with fail
      refine hs.mono ?_
      rintro e w1 ⟨rfl, rfl⟩
      go_wp2
      go_ret
      exact ⟨rfl, rfl⟩
  · rw [if_neg (by omega), if_pos h3] at hk
    obtain rfl : 2 = k := hk
    rw [h3] at hb
    clear h3
    go_enter Try.func12, Try.ntmps12
    go_wp2
    go_ret
    exact ⟨rfl, rfl⟩
  · rw [if_neg (by omega), if_neg (by omega)] at hk
    rw [h3] at hb
    by_cases h5 : c = 2 ∨ c = 6
    · rw [if_pos h5] at hk
      obtain rfl : 3 = k := hk
      rcases h5 with rfl | rfl
      · go_enter Try.func12, Try.ntmps12
        go_wp2
        go_ret
        exact ⟨rfl, rfl⟩
      · go_enter Try.func12, Try.ntmps12
        go_wp2
        go_ret
        exact ⟨rfl, rfl⟩
    · rw [if_neg h5] at hk
      obtain rfl : 0 = k := hk
      have h6 : (c == 2) = false := by simp; omega
      have h7 : (c == 6) = false := by simp; omega
      clear h5 h3
      go_enter Try.func12, Try.ntmps12
      go_wp2
      go_ret
      exact ⟨rfl, rfl⟩
  · rw [if_neg (by omega), if_neg (by omega), if_neg (by omega)] at hk
    obtain rfl : 0 = k := hk
    rw [h3] at hb
    clear h3
    go_enter Try.func12, Try.ntmps12
    go_wp2
    go_ret
    exact ⟨rfl, rfl⟩
theorem rkind_any (c : Int) (w : World) (h : U c) : Calls Try.prog 13 #[.int .u64 c] w fun e w' => e = .returned (.int .i64 (kindN c)) ∧ w' = w := by
  obtain ⟨k, hk⟩ : ∃ k, kindN c = k := ⟨_, rfl⟩
  rw [hk]
  unfold kindN at hk
  skip
  obtain ⟨h1, h2⟩ := id h
  rcases (by omega : c % 4 = 0 ∨ c % 4 = 1 ∨ c % 4 = 2 ∨ c % 4 = 3) with h3 | h3 | h3 | h3
  · have hn := whole_any c w h h3
    have hs := in_any (wd c / 4) w
    rw [if_pos h3] at hk
    have hb := h3
    generalize wd c / 4 = x at *
    clear h3
    cases hf : fit x
    · rw [hf] at hs hk
      obtain rfl : 0 = k := by simpa using hk
      go_enter Try.func13, Try.ntmps13
      go_wp2_with fail
      refine hn.mono ?_
      rintro e w1 ⟨rfl, rfl⟩
      go_wp2_with fail
      refine hs.mono ?_
      rintro e w1 ⟨rfl, rfl⟩
      go_wp2
      go_ret
      exact ⟨rfl, rfl⟩
    · rw [hf] at hs hk
      obtain rfl : 1 = k := by simpa using hk
      go_enter Try.func13, Try.ntmps13
      go_wp2_with fail
      refine hn.mono ?_
      rintro e w1 ⟨rfl, rfl⟩
      go_wp2_with fail
      refine hs.mono ?_
      rintro e w1 ⟨rfl, rfl⟩
      go_wp2
      go_ret
      exact ⟨rfl, rfl⟩
  · rw [if_neg (by omega), if_pos h3] at hk
    obtain rfl : 2 = k := hk
    have hb := h3
    clear h3
    go_enter Try.func13, Try.ntmps13
    go_wp2
    go_ret
    exact ⟨rfl, rfl⟩
  · rw [if_neg (by omega), if_neg (by omega)] at hk
    have hb := h3
    by_cases h5 : c = 2 ∨ c = 6
    · rw [if_pos h5] at hk
      obtain rfl : 3 = k := hk
      rcases h5 with rfl | rfl
      · go_enter Try.func13, Try.ntmps13
        go_wp2
        go_ret
        exact ⟨rfl, rfl⟩
      · go_enter Try.func13, Try.ntmps13
        go_wp2
        go_ret
        exact ⟨rfl, rfl⟩
    · rw [if_neg h5] at hk
      obtain rfl : 0 = k := hk
      have h6 : (c == 2) = false := by simp; omega
      have h7 : (c == 6) = false := by simp; omega
      clear h5 h3
      go_enter Try.func13, Try.ntmps13
      go_wp2
      go_ret
      exact ⟨rfl, rfl⟩
  · rw [if_neg (by omega), if_neg (by omega), if_neg (by omega)] at hk
    obtain rfl : 0 = k := hk
    have hb := h3
    clear h3
    go_enter Try.func13, Try.ntmps13
    go_wp2
    go_ret
    exact ⟨rfl, rfl⟩
end Go.Proofs.Ytedoaiapjjocdaa
