/- What comes of two numbers: the document's ways, and the law CellArith. -/
import Derived.Test.YtedoaiapjjocdaaC3
namespace Go.Proofs.Ytedoaiapjjocdaa
open Go.RowKit
set_option linter.unusedSimpArgs false
set_option linter.unusedVariables false

/-- A number without its sign. -/
def sz (a : Int) : Int := if a < 0 then -a else a
theorem sz_range {a : Int} (ha : fit a = true) : 0 ≤ sz a ∧ sz a ≤ 1152921504606846976 := by
  have := fit_true ha
  unfold sz; split <;> omega
theorem size_any (a : Int) (w : World) (ha : fit a = true) : Calls Try.prog 28 #[.int .i64 a] w fun e w' => e = .returned (.int .u64 (sz a)) ∧ w' = w := by
  have ha := fit_true ha
  by_cases h : a < 0
  · rw [show sz a = -a from if_pos h]
    have h1 := wrap_in (n := -a) (by omega)
    have h2 : IntKind.u64.wrap (-a) = -a := by rw [IntKind.wrap_u64]; omega
    go_enter Try.func28, Try.ntmps28
    go_wp2
    go_ret
    exact ⟨rfl, rfl⟩
  · rw [show sz a = a from if_neg h]
    have h2 : IntKind.u64.wrap a = a := by rw [IntKind.wrap_u64]; omega
    go_enter Try.func28, Try.ntmps28
    go_wp2
    go_ret
    exact ⟨rfl, rfl⟩
/-- A size with a sign. -/
def sg (n : Int) (m : Bool) : Int := if m then -n else n
theorem signed_any (n : Int) (m : Bool) (w : World) (hn : U n) : Calls Try.prog 29 #[.int .u64 n, .bool m] w fun e w' => e = .returned (.tuple #[.int .i64 (if fit (sg n m) then sg n m else 0), .int .i64 (if fit (sg n m) then 0 else 18)]) ∧ w' = w := by
  obtain ⟨hn1, hn2⟩ := hn
  cases m
  · rw [show sg n false = n from rfl]
    by_cases h : n ≤ 1152921504606846975
    · rw [show fit n = true from decide_eq_true (by omega), if_pos rfl, if_pos rfl]
      have h1 := wrap_in (n := n) (by omega)
      go_enter Try.func29, Try.ntmps29
      go_wp2
      go_ret2
      exact ⟨rfl, rfl⟩
    · rw [show fit n = false from decide_eq_false (by omega), if_neg (by decide), if_neg (by decide)]
      go_enter Try.func29, Try.ntmps29
      go_wp2
      go_ret2
      exact ⟨rfl, rfl⟩
  · rw [show sg n true = -n from rfl]
    by_cases h : n ≤ 1152921504606846976
    · rw [show fit (-n) = true from decide_eq_true (by omega), if_pos rfl, if_pos rfl]
      have h1 := wrap_in (n := n) (by omega)
      have h2 := wrap_in (n := -n) (by omega)
      go_enter Try.func29, Try.ntmps29
      go_wp2
      go_ret2
      exact ⟨rfl, rfl⟩
    · rw [show fit (-n) = false from decide_eq_false (by omega), if_neg (by decide), if_neg (by decide)]
      go_enter Try.func29, Try.ntmps29
      go_wp2
      go_ret2
      exact ⟨rfl, rfl⟩
theorem ar_op {op a b : Int} (hi : isOp op = true) (ha : fit a = true) (hb : fit b = true) : arE op a b = (if (op = 47 ∨ op = 37) ∧ b = 0 then 19 else if fit (opN op a b) then 0 else 18) := by
  unfold arE; rw [hi, ha, hb]; rfl
theorem ar_two {op a b x : Int} (h : arE op a b = if fit x then 0 else 18) (hx : opN op a b = x) : arN op a b = (if fit x then x else 0) := by
  unfold arN; rw [h, hx]; cases fit x <;> rfl
theorem div_sz {a b : Int} (hb : b ≠ 0) : sg (sz a / sz b) ((decide (a < 0) != decide (b < 0)) && decide (sz a / sz b > 0)) = a.tdiv b := by
  have h1 : 0 ≤ sz a := by unfold sz; split <;> omega
  have h2 : 0 ≤ sz b := by unfold sz; split <;> omega
  have h3 : 0 ≤ sz a / sz b := Int.ediv_nonneg h1 h2
  have key : a.tdiv b = if (decide (a < 0) != decide (b < 0)) then -(sz a / sz b) else sz a / sz b := by
    by_cases ha0 : a < 0 <;> by_cases hb0 : b < 0
    · rw [show sz a = -a from if_pos ha0, show sz b = -b from if_pos hb0, ← Int.tdiv_eq_ediv_of_nonneg (by omega), Int.neg_tdiv_neg]; simp [ha0, hb0]
    · rw [show sz a = -a from if_pos ha0, show sz b = b from if_neg hb0, ← Int.tdiv_eq_ediv_of_nonneg (by omega), Int.neg_tdiv]; simp [ha0, hb0]
    · rw [show sz a = a from if_neg ha0, show sz b = -b from if_pos hb0, ← Int.tdiv_eq_ediv_of_nonneg (by omega), Int.tdiv_neg]; simp [ha0, hb0]
    · rw [show sz a = a from if_neg ha0, show sz b = b from if_neg hb0, ← Int.tdiv_eq_ediv_of_nonneg (by omega)]; simp [ha0, hb0]
  rw [key]
  generalize (decide (a < 0) != decide (b < 0)) = m
  generalize sz a / sz b = n at *
  unfold sg
  cases m
  · rfl
  · by_cases hn : n > 0
    · simp [hn]
    · obtain rfl : n = 0 := by omega
      rfl
theorem mod_sz {a b : Int} : sg (sz a % sz b) (decide (a < 0)) = a.tmod b := by
  by_cases ha0 : a < 0 <;> by_cases hb0 : b < 0
  · rw [show sz a = -a from if_pos ha0, show sz b = -b from if_pos hb0, ← Int.tmod_eq_emod_of_nonneg (by omega), Int.neg_tmod, Int.tmod_neg]; simp [ha0, sg]
  · rw [show sz a = -a from if_pos ha0, show sz b = b from if_neg hb0, ← Int.tmod_eq_emod_of_nonneg (by omega), Int.neg_tmod]; simp [ha0, sg]
  · rw [show sz a = a from if_neg ha0, show sz b = -b from if_pos hb0, ← Int.tmod_eq_emod_of_nonneg (by omega), Int.tmod_neg]; simp [ha0, sg]
  · rw [show sz a = a from if_neg ha0, show sz b = b from if_neg hb0, ← Int.tmod_eq_emod_of_nonneg (by omega)]; simp [ha0, sg]
theorem mul_sz {a b : Int} : sg (sz a * sz b) (decide (a < 0) != decide (b < 0)) = a * b := by
  by_cases ha0 : a < 0 <;> by_cases hb0 : b < 0
  · rw [show sz a = -a from if_pos ha0, show sz b = -b from if_pos hb0, Int.neg_mul_neg]; simp [ha0, hb0, sg]
  · rw [show sz a = -a from if_pos ha0, show sz b = b from if_neg hb0]; simp [ha0, hb0, sg, Int.neg_mul]
  · rw [show sz a = a from if_neg ha0, show sz b = -b from if_pos hb0]; simp [ha0, hb0, sg, Int.mul_neg]
  · rw [show sz a = a from if_neg ha0, show sz b = b from if_neg hb0]; simp [ha0, hb0, sg]
set_option maxHeartbeats 400000 in
theorem rbad_op (op a b : Int) (w : World) (ho : 0 ≤ op ∧ op < 256) (hi : isOp op = false) :
    Calls Try.prog 21 #[.int .u8 op, .int .i64 a, .int .i64 b] w fun e w' => e = .returned (.tuple #[.int .i64 (arN op a b), .int .i64 (arE op a b)]) ∧ w' = w := by
  have h1 : (op != 43) = true := by have := of_decide_eq_false hi; simp; omega
  have h2 : (op != 45) = true := by have := of_decide_eq_false hi; simp; omega
  have h3 : (op != 42) = true := by have := of_decide_eq_false hi; simp; omega
  have h4 : (op != 47) = true := by have := of_decide_eq_false hi; simp; omega
  have h5 : (op != 37) = true := by have := of_decide_eq_false hi; simp; omega
  rw [show arN op a b = 0 by unfold arN arE; rw [hi]; rfl, show arE op a b = 2 by unfold arE; rw [hi]; rfl]
  clear hi
  go_enter Try.func21, Try.ntmps21
  go_wp2
  go_ret2
  exact ⟨rfl, rfl⟩
set_option maxHeartbeats 400000 in
theorem rbad_43 (a b : Int) (w : World) (h : fit a = false ∨ fit b = false) :
    Calls Try.prog 21 #[.int .u8 43, .int .i64 a, .int .i64 b] w fun e w' => e = .returned (.tuple #[.int .i64 (arN 43 a b), .int .i64 (arE 43 a b)]) ∧ w' = w := by
  obtain ⟨e1, e2⟩ := ar_bad (op := 43) h
  rw [e1, e2]
  have h1 := in_any a w
  have h2 := in_any b w
  clear e1 e2
  cases ha : fit a
  · rw [ha] at h1
    clear ha h
    go_enter Try.func21, Try.ntmps21
    go_wp2_with fail
    refine h1.mono ?_
    rintro e w1 ⟨rfl, rfl⟩
    go_wp2
    go_ret2
    exact ⟨rfl, rfl⟩
  · obtain hb : fit b = false := by simpa [ha] using h
    rw [ha] at h1
    rw [hb] at h2
    clear ha hb h
    go_enter Try.func21, Try.ntmps21
    go_wp2_with fail
    refine h1.mono ?_
    rintro e w1 ⟨rfl, rfl⟩
    go_wp2_with fail
    refine h2.mono ?_
    rintro e w1 ⟨rfl, rfl⟩
    go_wp2
    go_ret2
    exact ⟨rfl, rfl⟩
set_option maxHeartbeats 400000 in
theorem rbad_45 (a b : Int) (w : World) (h : fit a = false ∨ fit b = false) :
    Calls Try.prog 21 #[.int .u8 45, .int .i64 a, .int .i64 b] w fun e w' => e = .returned (.tuple #[.int .i64 (arN 45 a b), .int .i64 (arE 45 a b)]) ∧ w' = w := by
  obtain ⟨e1, e2⟩ := ar_bad (op := 45) h
  rw [e1, e2]
  have h1 := in_any a w
  have h2 := in_any b w
  clear e1 e2
  cases ha : fit a
  · rw [ha] at h1
    clear ha h
    go_enter Try.func21, Try.ntmps21
    go_wp2_with fail
    refine h1.mono ?_
    rintro e w1 ⟨rfl, rfl⟩
    go_wp2
    go_ret2
    exact ⟨rfl, rfl⟩
  · obtain hb : fit b = false := by simpa [ha] using h
    rw [ha] at h1
    rw [hb] at h2
    clear ha hb h
    go_enter Try.func21, Try.ntmps21
    go_wp2_with fail
    refine h1.mono ?_
    rintro e w1 ⟨rfl, rfl⟩
    go_wp2_with fail
    refine h2.mono ?_
    rintro e w1 ⟨rfl, rfl⟩
    go_wp2
    go_ret2
    exact ⟨rfl, rfl⟩
set_option maxHeartbeats 400000 in
theorem rbad_42 (a b : Int) (w : World) (h : fit a = false ∨ fit b = false) :
    Calls Try.prog 21 #[.int .u8 42, .int .i64 a, .int .i64 b] w fun e w' => e = .returned (.tuple #[.int .i64 (arN 42 a b), .int .i64 (arE 42 a b)]) ∧ w' = w := by
  obtain ⟨e1, e2⟩ := ar_bad (op := 42) h
  rw [e1, e2]
  have h1 := in_any a w
  have h2 := in_any b w
  clear e1 e2
  cases ha : fit a
  · rw [ha] at h1
    clear ha h
    go_enter Try.func21, Try.ntmps21
    go_wp2_with fail
    refine h1.mono ?_
    rintro e w1 ⟨rfl, rfl⟩
    go_wp2
    go_ret2
    exact ⟨rfl, rfl⟩
  · obtain hb : fit b = false := by simpa [ha] using h
    rw [ha] at h1
    rw [hb] at h2
    clear ha hb h
    go_enter Try.func21, Try.ntmps21
    go_wp2_with fail
    refine h1.mono ?_
    rintro e w1 ⟨rfl, rfl⟩
    go_wp2_with fail
    refine h2.mono ?_
    rintro e w1 ⟨rfl, rfl⟩
    go_wp2
    go_ret2
    exact ⟨rfl, rfl⟩
set_option maxHeartbeats 400000 in
theorem rbad_47 (a b : Int) (w : World) (h : fit a = false ∨ fit b = false) :
    Calls Try.prog 21 #[.int .u8 47, .int .i64 a, .int .i64 b] w fun e w' => e = .returned (.tuple #[.int .i64 (arN 47 a b), .int .i64 (arE 47 a b)]) ∧ w' = w := by
  obtain ⟨e1, e2⟩ := ar_bad (op := 47) h
  rw [e1, e2]
  have h1 := in_any a w
  have h2 := in_any b w
  clear e1 e2
  cases ha : fit a
  · rw [ha] at h1
    clear ha h
    go_enter Try.func21, Try.ntmps21
    go_wp2_with fail
    refine h1.mono ?_
    rintro e w1 ⟨rfl, rfl⟩
    go_wp2
    go_ret2
    exact ⟨rfl, rfl⟩
  · obtain hb : fit b = false := by simpa [ha] using h
    rw [ha] at h1
    rw [hb] at h2
    clear ha hb h
    go_enter Try.func21, Try.ntmps21
    go_wp2_with fail
    refine h1.mono ?_
    rintro e w1 ⟨rfl, rfl⟩
    go_wp2_with fail
    refine h2.mono ?_
    rintro e w1 ⟨rfl, rfl⟩
    go_wp2
    go_ret2
    exact ⟨rfl, rfl⟩
set_option maxHeartbeats 400000 in
theorem rbad_37 (a b : Int) (w : World) (h : fit a = false ∨ fit b = false) :
    Calls Try.prog 21 #[.int .u8 37, .int .i64 a, .int .i64 b] w fun e w' => e = .returned (.tuple #[.int .i64 (arN 37 a b), .int .i64 (arE 37 a b)]) ∧ w' = w := by
  obtain ⟨e1, e2⟩ := ar_bad (op := 37) h
  rw [e1, e2]
  have h1 := in_any a w
  have h2 := in_any b w
  clear e1 e2
  cases ha : fit a
  · rw [ha] at h1
    clear ha h
    go_enter Try.func21, Try.ntmps21
    go_wp2_with fail
    refine h1.mono ?_
    rintro e w1 ⟨rfl, rfl⟩
    go_wp2
    go_ret2
    exact ⟨rfl, rfl⟩
  · obtain hb : fit b = false := by simpa [ha] using h
    rw [ha] at h1
    rw [hb] at h2
    clear ha hb h
    go_enter Try.func21, Try.ntmps21
    go_wp2_with fail
    refine h1.mono ?_
    rintro e w1 ⟨rfl, rfl⟩
    go_wp2_with fail
    refine h2.mono ?_
    rintro e w1 ⟨rfl, rfl⟩
    go_wp2
    go_ret2
    exact ⟨rfl, rfl⟩
set_option maxHeartbeats 400000 in
theorem rar_43 (a b : Int) (w : World) (ha : fit a = true) (hb : fit b = true) :
    Calls Try.prog 21 #[.int .u8 43, .int .i64 a, .int .i64 b] w fun e w' => e = .returned (.tuple #[.int .i64 (arN 43 a b), .int .i64 (arE 43 a b)]) ∧ w' = w := by
  have he : arE 43 a b = if fit (a + b) then 0 else 18 := ar_op rfl ha hb
  rw [ar_two he rfl, he]
  have ha' := fit_true ha
  have hb' := fit_true hb
  have h1 := in_any a w
  have h2 := in_any b w
  have h3 := in_any (a + b) w
  have hw := wrap_in (n := a + b) (by omega)
  have hw2 := wrap_in (n := a + b) (by omega)
  rw [ha] at h1
  rw [hb] at h2
  clear ha hb he
  cases hx : fit (a + b)
  · rw [hx] at h3
    rw [if_neg (by decide), if_neg (by decide)]
    clear hx
    go_enter Try.func21, Try.ntmps21
    go_wp2_with fail
    refine h1.mono ?_
    rintro e w1 ⟨rfl, rfl⟩
    go_wp2_with fail
    refine h2.mono ?_
    rintro e w1 ⟨rfl, rfl⟩
    go_wp2_with fail
    refine h3.mono ?_
    rintro e w1 ⟨rfl, rfl⟩
    go_wp2
    go_ret2
    exact ⟨rfl, rfl⟩
  · rw [hx] at h3
    rw [if_pos rfl, if_pos rfl]
    clear hx
    go_enter Try.func21, Try.ntmps21
    go_wp2_with fail
    refine h1.mono ?_
    rintro e w1 ⟨rfl, rfl⟩
    go_wp2_with fail
    refine h2.mono ?_
    rintro e w1 ⟨rfl, rfl⟩
    go_wp2_with fail
    refine h3.mono ?_
    rintro e w1 ⟨rfl, rfl⟩
    go_wp2
    go_ret2
    exact ⟨rfl, rfl⟩
set_option maxHeartbeats 400000 in
theorem rar_45 (a b : Int) (w : World) (ha : fit a = true) (hb : fit b = true) :
    Calls Try.prog 21 #[.int .u8 45, .int .i64 a, .int .i64 b] w fun e w' => e = .returned (.tuple #[.int .i64 (arN 45 a b), .int .i64 (arE 45 a b)]) ∧ w' = w := by
  have he : arE 45 a b = if fit (a - b) then 0 else 18 := ar_op rfl ha hb
  rw [ar_two he rfl, he]
  have ha' := fit_true ha
  have hb' := fit_true hb
  have h1 := in_any a w
  have h2 := in_any b w
  have h3 := in_any (a - b) w
  have hw := wrap_in (n := a - b) (by omega)
  have hw2 := wrap_in (n := a + b) (by omega)
  rw [ha] at h1
  rw [hb] at h2
  clear ha hb he
  cases hx : fit (a - b)
  · rw [hx] at h3
    rw [if_neg (by decide), if_neg (by decide)]
    clear hx
    go_enter Try.func21, Try.ntmps21
    go_wp2_with fail
    refine h1.mono ?_
    rintro e w1 ⟨rfl, rfl⟩
    go_wp2_with fail
    refine h2.mono ?_
    rintro e w1 ⟨rfl, rfl⟩
    go_wp2_with fail
    refine h3.mono ?_
    rintro e w1 ⟨rfl, rfl⟩
    go_wp2
    go_ret2
    exact ⟨rfl, rfl⟩
  · rw [hx] at h3
    rw [if_pos rfl, if_pos rfl]
    clear hx
    go_enter Try.func21, Try.ntmps21
    go_wp2_with fail
    refine h1.mono ?_
    rintro e w1 ⟨rfl, rfl⟩
    go_wp2_with fail
    refine h2.mono ?_
    rintro e w1 ⟨rfl, rfl⟩
    go_wp2_with fail
    refine h3.mono ?_
    rintro e w1 ⟨rfl, rfl⟩
    go_wp2
    go_ret2
    exact ⟨rfl, rfl⟩
end Go.Proofs.Ytedoaiapjjocdaa
