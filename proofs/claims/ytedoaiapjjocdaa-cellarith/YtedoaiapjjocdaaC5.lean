/- What comes of two numbers: the document's ways, and the law CellArith. -/
import Derived.Test.YtedoaiapjjocdaaC4
namespace Go.Proofs.Ytedoaiapjjocdaa
open Go.RowKit
set_option linter.unusedSimpArgs false
set_option linter.unusedVariables false

set_option maxHeartbeats 400000 in
theorem rar_47 (a b : Int) (w : World) (ha : fit a = true) (hb : fit b = true) :
    Calls Try.prog 21 #[.int .u8 47, .int .i64 a, .int .i64 b] w fun e w' => e = .returned (.tuple #[.int .i64 (arN 47 a b), .int .i64 (arE 47 a b)]) ∧ w' = w := by
  have h1 := in_any a w
  have h2 := in_any b w
  rw [ha] at h1
  rw [hb] at h2
  by_cases h0 : b = 0
  · have he : arE 47 a b = 19 := by rw [ar_op rfl ha hb]; simp [h0]
    rw [show arN 47 a b = 0 by unfold arN; rw [he]; rfl, he]
    clear ha hb he
    subst h0
    go_enter Try.func21, Try.ntmps21
    go_wp2_with fail
    refine h1.mono ?_
    rintro e w1 ⟨rfl, rfl⟩
    go_wp2_with fail
    refine h2.mono ?_
    rintro e w1 ⟨rfl, rfl⟩
    go_wp2
    go_ret2
    exact ⟨rfl, rfl⟩
  · have he : arE 47 a b = if fit (a.tdiv b) then 0 else 18 := by rw [ar_op rfl ha hb, if_neg (by omega)]; rfl
    rw [ar_two he rfl, he]
    have h3 := size_any a w ha
    have h4 := size_any b w hb
    have hra := sz_range ha
    have hrb := sz_range hb
    have hsb : 0 < sz b := by unfold sz; split <;> omega
    have hz : (b == 0) = false := by simpa using h0
    have hv := div_sz (a := a) h0
    have hn0 : 0 ≤ sz a / sz b := by first | exact Int.ediv_nonneg hra.1 hrb.1 | exact Int.emod_nonneg _ (by omega)
    have hn1 : sz a / sz b ≤ 1152921504606846976 := by first | (have := Int.ediv_le_self (sz b) hra.1; omega) | (have := Int.emod_lt_of_pos (sz a) hsb; omega)
    have hs := fun m => signed_any (sz a / sz b) m w ⟨hn0, by omega⟩
    clear ha hb he
    generalize a.tdiv b = r at *
    generalize hq : sz a / sz b = q at *
    generalize sz a = x at *
    generalize sz b = y at *
    have hz2 : (y == 0) = false := by simp; omega
    generalize hsa : decide (a < 0) = sa at *
    generalize hsb2 : decide (b < 0) = sb at *
    have hs2 := hs ((sa != sb) && decide (q > 0))
    rw [hv] at hs2
    clear hs hv
    generalize (if fit r = true then r else 0) = r1 at *
    generalize (if fit r = true then (0 : Int) else 18) = r2 at *
    
    by_cases hq0 : q > 0
    · rw [show decide (q > 0) = true from decide_eq_true hq0] at hs2
      cases sa <;> cases sb <;> simp only [bne, beq_self_eq_true, Bool.not_true, Bool.not_false, Bool.true_and, Bool.false_and, Bool.and_true, Bool.and_false, show (true == false) = false from rfl, show (false == true) = false from rfl] at hs2
      all_goals
        go_enter Try.func21, Try.ntmps21
        go_wp2_with fail
        refine h1.mono ?_
        rintro e w1 ⟨rfl, rfl⟩
        go_wp2_with fail
        refine h2.mono ?_
        rintro e w1 ⟨rfl, rfl⟩
        go_wp2_with fail
        refine h3.mono ?_
        rintro e w1 ⟨rfl, rfl⟩
        go_wp2_with fail
        refine h4.mono ?_
        rintro e w1 ⟨rfl, rfl⟩
        go_wp2_with fail
        refine hs2.mono ?_
        rintro e w1 ⟨rfl, rfl⟩
        go_wp2
        go_ret2
        exact ⟨rfl, rfl⟩
    · rw [show decide (q > 0) = false from decide_eq_false hq0] at hs2
      simp only [Bool.and_false] at hs2
      obtain rfl : q = 0 := by omega
      clear hq0
      cases sa <;> cases sb
      all_goals
        go_enter Try.func21, Try.ntmps21
        go_wp2_with fail
        refine h1.mono ?_
        rintro e w1 ⟨rfl, rfl⟩
        go_wp2_with fail
        refine h2.mono ?_
        rintro e w1 ⟨rfl, rfl⟩
        go_wp2_with fail
        refine h3.mono ?_
        rintro e w1 ⟨rfl, rfl⟩
        go_wp2_with fail
        refine h4.mono ?_
        rintro e w1 ⟨rfl, rfl⟩
        go_wp2_with fail
        refine hs2.mono ?_
        rintro e w1 ⟨rfl, rfl⟩
        go_wp2
        go_ret2
        exact ⟨rfl, rfl⟩

set_option maxHeartbeats 400000 in
theorem rar_37 (a b : Int) (w : World) (ha : fit a = true) (hb : fit b = true) :
    Calls Try.prog 21 #[.int .u8 37, .int .i64 a, .int .i64 b] w fun e w' => e = .returned (.tuple #[.int .i64 (arN 37 a b), .int .i64 (arE 37 a b)]) ∧ w' = w := by
  have h1 := in_any a w
  have h2 := in_any b w
  rw [ha] at h1
  rw [hb] at h2
  by_cases h0 : b = 0
  · have he : arE 37 a b = 19 := by rw [ar_op rfl ha hb]; simp [h0]
    rw [show arN 37 a b = 0 by unfold arN; rw [he]; rfl, he]
    clear ha hb he
    subst h0
    go_enter Try.func21, Try.ntmps21
    go_wp2_with fail
    refine h1.mono ?_
    rintro e w1 ⟨rfl, rfl⟩
    go_wp2_with fail
    refine h2.mono ?_
    rintro e w1 ⟨rfl, rfl⟩
    go_wp2
    go_ret2
    exact ⟨rfl, rfl⟩
  · have he : arE 37 a b = if fit (a.tmod b) then 0 else 18 := by rw [ar_op rfl ha hb, if_neg (by omega)]; rfl
    rw [ar_two he rfl, he]
    have h3 := size_any a w ha
    have h4 := size_any b w hb
    have hra := sz_range ha
    have hrb := sz_range hb
    have hsb : 0 < sz b := by unfold sz; split <;> omega
    have hz : (b == 0) = false := by simpa using h0
    have hv := mod_sz (a := a) (b := b)
    have hn0 : 0 ≤ sz a % sz b := by first | exact Int.ediv_nonneg hra.1 hrb.1 | exact Int.emod_nonneg _ (by omega)
    have hn1 : sz a % sz b ≤ 1152921504606846976 := by first | (have := Int.ediv_le_self (sz b) hra.1; omega) | (have := Int.emod_lt_of_pos (sz a) hsb; omega)
    have hs := fun m => signed_any (sz a % sz b) m w ⟨hn0, by omega⟩
    clear ha hb he
    generalize a.tmod b = r at *
    generalize hq : sz a % sz b = q at *
    generalize sz a = x at *
    generalize sz b = y at *
    have hz2 : (y == 0) = false := by simp; omega
    generalize hsa : decide (a < 0) = sa at *
    have hs2 := hs sa
    rw [hv] at hs2
    clear hs hv
    generalize (if fit r = true then r else 0) = r1 at *
    generalize (if fit r = true then (0 : Int) else 18) = r2 at *
    
    go_enter Try.func21, Try.ntmps21
    go_wp2_with fail
    refine h1.mono ?_
    rintro e w1 ⟨rfl, rfl⟩
    go_wp2_with fail
    refine h2.mono ?_
    rintro e w1 ⟨rfl, rfl⟩
    go_wp2_with fail
    refine h3.mono ?_
    rintro e w1 ⟨rfl, rfl⟩
    go_wp2_with fail
    refine h4.mono ?_
    rintro e w1 ⟨rfl, rfl⟩
    go_wp2_with fail
    refine hs2.mono ?_
    rintro e w1 ⟨rfl, rfl⟩
    go_wp2
    go_ret2
    exact ⟨rfl, rfl⟩

set_option maxHeartbeats 400000 in
theorem rar_42 (a b : Int) (w : World) (ha : fit a = true) (hb : fit b = true) :
    Calls Try.prog 21 #[.int .u8 42, .int .i64 a, .int .i64 b] w fun e w' => e = .returned (.tuple #[.int .i64 (arN 42 a b), .int .i64 (arE 42 a b)]) ∧ w' = w := by
  have h1 := in_any a w
  have h2 := in_any b w
  rw [ha] at h1
  rw [hb] at h2
  have he : arE 42 a b = if fit (a * b) then 0 else 18 := by rw [ar_op rfl ha hb, if_neg (by omega)]; rfl
  rw [ar_two he rfl, he]
  have h3 := size_any a w ha
  have h4 := size_any b w hb
  have hra := sz_range ha
  have hrb := sz_range hb
  have hv := mul_sz (a := a) (b := b)
  clear ha hb he
  generalize hr : a * b = r at *
  by_cases hx0 : sz a = 0
  · rw [hx0] at h3 hv
    obtain rfl : 0 = r := by rw [← hv]; unfold sg; split <;> omega
    rw [show fit 0 = true from rfl, if_pos rfl, if_pos rfl]
    clear hx0 hv hr
    go_enter Try.func21, Try.ntmps21
    go_wp2_with fail
    refine h1.mono ?_
    rintro e w1 ⟨rfl, rfl⟩
    go_wp2_with fail
    refine h2.mono ?_
    rintro e w1 ⟨rfl, rfl⟩
    go_wp2_with fail
    refine h3.mono ?_
    rintro e w1 ⟨rfl, rfl⟩
    go_wp2_with fail
    refine h4.mono ?_
    rintro e w1 ⟨rfl, rfl⟩
    go_wp2
    go_ret2
    exact ⟨rfl, rfl⟩
  by_cases hy0 : sz b = 0
  · rw [hy0] at h4 hv
    obtain rfl : 0 = r := by rw [← hv]; unfold sg; split <;> omega
    rw [show fit 0 = true from rfl, if_pos rfl, if_pos rfl]
    have hz2 : (sz a == 0) = false := by simp; omega
    clear hx0 hy0 hv hr
    generalize sz a = x at *
    go_enter Try.func21, Try.ntmps21
    go_wp2_with fail
    refine h1.mono ?_
    rintro e w1 ⟨rfl, rfl⟩
    go_wp2_with fail
    refine h2.mono ?_
    rintro e w1 ⟨rfl, rfl⟩
    go_wp2_with fail
    refine h3.mono ?_
    rintro e w1 ⟨rfl, rfl⟩
    go_wp2_with fail
    refine h4.mono ?_
    rintro e w1 ⟨rfl, rfl⟩
    go_wp2
    go_ret2
    exact ⟨rfl, rfl⟩
  have hz2 : (sz a == 0) = false := by simp; omega
  have hz3 : (sz b == 0) = false := by simp; omega
  have hdiv : sz b ≤ 1152921504606846976 / sz a ↔ sz b * sz a ≤ 1152921504606846976 := Int.le_ediv_iff_mul_le (by omega)
  have hcm : sz b * sz a = sz a * sz b := Int.mul_comm _ _
  by_cases hgt : sz b ≤ 1152921504606846976 / sz a
  · have hle := hdiv.1 hgt
    have hp0 : 0 ≤ sz a * sz b := Int.mul_nonneg hra.1 hrb.1
    have hs := fun m => signed_any (sz a * sz b) m w ⟨hp0, by omega⟩
    have hs2 := hs (decide (a < 0) != decide (b < 0))
    rw [hv] at hs2
    have hwp : IntKind.u64.wrap (sz a * sz b) = sz a * sz b := by rw [IntKind.wrap_u64]; omega
    have hwp2 : (sz a * sz b) % 18446744073709551616 = sz a * sz b := by omega
    clear hs hv hdiv hcm hr hle
    generalize hpp : sz a * sz b = p at *
    generalize sz a = x at *
    generalize sz b = y at *
    generalize hsa : decide (a < 0) = sa at *
    generalize hsb2 : decide (b < 0) = sb at *
    generalize (if fit r = true then r else 0) = r1 at *
    generalize (if fit r = true then (0 : Int) else 18) = r2 at *
    cases sa <;> cases sb <;> simp only [bne, beq_self_eq_true, Bool.not_true, Bool.not_false, show (true == false) = false from rfl, show (false == true) = false from rfl] at hs2
    all_goals
      go_enter Try.func21, Try.ntmps21
      go_wp2_with fail
      refine h1.mono ?_
      rintro e w1 ⟨rfl, rfl⟩
      go_wp2_with fail
      refine h2.mono ?_
      rintro e w1 ⟨rfl, rfl⟩
      go_wp2_with fail
      refine h3.mono ?_
      rintro e w1 ⟨rfl, rfl⟩
      go_wp2_with fail
      refine h4.mono ?_
      rintro e w1 ⟨rfl, rfl⟩
      go_wp2_with fail
      refine hs2.mono ?_
      rintro e w1 ⟨rfl, rfl⟩
      go_wp2
      go_ret2
      exact ⟨rfl, rfl⟩
  · have hgt2 : fit r = false := by
      refine decide_eq_false ?_
      rw [← hv]
      unfold sg
      split <;> omega
    rw [hgt2, if_neg (by decide), if_neg (by decide)]
    clear hv hdiv hcm hr hgt2
    generalize sz b = y at *
    generalize sz a = x at *
    go_enter Try.func21, Try.ntmps21
    go_wp2_with fail
    refine h1.mono ?_
    rintro e w1 ⟨rfl, rfl⟩
    go_wp2_with fail
    refine h2.mono ?_
    rintro e w1 ⟨rfl, rfl⟩
    go_wp2_with fail
    refine h3.mono ?_
    rintro e w1 ⟨rfl, rfl⟩
    go_wp2_with fail
    refine h4.mono ?_
    rintro e w1 ⟨rfl, rfl⟩
    go_wp2
    go_ret2
    exact ⟨rfl, rfl⟩

theorem rarith_any (op a b : Int) (w : World) (ho : 0 ≤ op ∧ op < 256) :
    Calls Try.prog 21 #[.int .u8 op, .int .i64 a, .int .i64 b] w fun e w' => e = .returned (.tuple #[.int .i64 (arN op a b), .int .i64 (arE op a b)]) ∧ w' = w := by
  cases hi : isOp op
  · exact rbad_op op a b w ho hi
  · by_cases h : fit a = true ∧ fit b = true
    · obtain ⟨ha, hb⟩ := h
      rcases (of_decide_eq_true hi) with rfl | rfl | rfl | rfl | rfl
      · exact rar_43 a b w ha hb
      · exact rar_45 a b w ha hb
      · exact rar_42 a b w ha hb
      · exact rar_47 a b w ha hb
      · exact rar_37 a b w ha hb
    · have h' : fit a = false ∨ fit b = false := by cases ha : fit a <;> cases hb : fit b <;> simp_all
      rcases (of_decide_eq_true hi) with rfl | rfl | rfl | rfl | rfl
      · exact rbad_43 a b w h'
      · exact rbad_45 a b w h'
      · exact rbad_42 a b w h'
      · exact rbad_47 a b w h'
      · exact rbad_37 a b w h'
theorem arithlaw_any (op a b : Int) (w : World) (ho : 0 ≤ op ∧ op < 256) :
    Calls Try.prog 4 #[.int .u8 op, .int .i64 a, .int .i64 b] w fun e w' => e = .returned (.bool true) ∧ w' = w := by
  have h0 := awake_any w
  have h1 := arith_any op a b w ho
  have h2 := rarith_any op a b w ho
  generalize arN op a b = x at *
  generalize arE op a b = y at *
  go_enter Try.func4, Try.ntmps4
  go_wp2_with fail
  refine h0.mono ?_
  rintro e w1 ⟨rfl, rfl⟩
  go_wp2_with fail
  refine h1.mono ?_
  rintro e w1 ⟨rfl, rfl⟩
  go_wp2_with fail
  refine h2.mono ?_
  rintro e w1 ⟨rfl, rfl⟩
  go_wp2
  go_ret
  exact ⟨rfl, rfl⟩
end Go.Proofs.Ytedoaiapjjocdaa
