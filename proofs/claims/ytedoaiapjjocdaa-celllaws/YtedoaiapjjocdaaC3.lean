/- What comes of two numbers: the program's ways. -/
import Derived.Test.YtedoaiapjjocdaaC2
namespace Go.Proofs.Ytedoaiapjjocdaa
open Go.RowKit
set_option linter.unusedSimpArgs false
set_option linter.unusedVariables false

/-- Does a number go by 64 bits with a sign? -/
def inr (n : Int) : Bool := decide (-9223372036854775808 ≤ n ∧ n ≤ 9223372036854775807)
theorem tdiv_abs (n b : Int) : n - (n.tdiv b) * b = n.tmod b := by
  have := Int.tmod_add_tdiv_mul n b; omega
theorem tmod_small (n b : Int) (hb : b ≠ 0) : (n.tmod b).natAbs < b.natAbs := by
  rw [Int.natAbs_tmod]
  exact Nat.mod_lt _ (by omega)
/-- The quotient of a product that wraps round is not the factor. -/
theorem times_wraps {a b : Int} (ha : fit a = true) (hb : fit b = true) (h0 : b ≠ 0) (h : inr (a * b) = false) : (wrap64 ((wrap64 (a * b)).tdiv b) == a) = false := by
  have ha := fit_true ha
  have hb := fit_true hb
  have h := of_decide_eq_false h
  rw [beq_eq_false_iff_ne]
  intro he
  generalize hp : a * b = p at *
  have hn : ∃ k : Int, wrap64 p = p + k * 18446744073709551616 ∧ k ≠ 0 := by
    refine ⟨-((p + 9223372036854775808) / 18446744073709551616), ?_, ?_⟩
    · unfold wrap64; omega
    · omega
  obtain ⟨k, hk, hk0⟩ := hn
  have hr : -9223372036854775808 ≤ wrap64 p ∧ wrap64 p ≤ 9223372036854775807 := by unfold wrap64; omega
  generalize wrap64 p = n at *
  have hq := tdiv_abs n b
  have hs := tmod_small n b h0
  have hnq : (n.tdiv b).natAbs ≤ n.natAbs := by rw [Int.natAbs_tdiv]; exact Nat.div_le_self _ _
  generalize n.tmod b = r at *
  generalize n.tdiv b = q at *
  have : q = a := by
    unfold wrap64 at he
    omega
  subst this
  omega
theorem times_goes {a b : Int} (ha : fit a = true) (h0 : b ≠ 0) (h : inr (a * b) = true) : (wrap64 ((wrap64 (a * b)).tdiv b) == a) = true := by
  have ha := fit_true ha
  have h := of_decide_eq_true h
  rw [wrap_in h, Int.mul_tdiv_cancel _ h0, wrap_in (by omega), beq_self_eq_true]

theorem times_any (a b : Int) (w : World) (ha : fit a = true) (hb : fit b = true) :
    Calls Try.prog 30 #[.int .i64 a, .int .i64 b] w fun e w' => e = .returned (if inr (a * b) then .tuple #[.int .i64 (a * b), .int .i64 0] else .tuple #[.int .i64 0, .int .i64 18]) ∧ w' = w := by
  by_cases h0 : b = 0
  · subst h0
    rw [show a * 0 = 0 by omega, show inr 0 = true from rfl, if_pos rfl]
    have hz : wrap64 0 = 0 := wrap_in (by omega)
    clear ha hb
    go_enter Try.func30, Try.ntmps30
    go_wp2
    go_ret2
    exact ⟨rfl, rfl⟩
  · have hz : (b != 0) = true := by simpa using h0
    cases h : inr (a * b)
    · have hx : (wrap64 ((wrap64 (a * b)).tdiv b) != a) = true := by rw [bne, times_wraps ha hb h0 h]; rfl
      rw [if_neg (by decide)]
      clear ha hb h
      go_enter Try.func30, Try.ntmps30
      go_wp2
      go_ret2
      exact ⟨rfl, rfl⟩
    · have hw : wrap64 a = a := by have := fit_true ha; exact wrap_in (by omega)
      have hy := wrap_in (of_decide_eq_true h)
      rw [if_pos rfl]
      clear ha hb h
      go_enter Try.func30, Try.ntmps30
      go_wp2
      go_ret2
      exact ⟨congrArg (fun x => Ending.returned (.tuple #[.int .i64 x, .int .i64 0])) hy, rfl⟩
/-- What comes of two numbers, without a bound. -/
def opN (op a b : Int) : Int := if op = 43 then a + b else if op = 45 then a - b else if op = 42 then a * b else if op = 47 then a.tdiv b else a.tmod b
/-- Is it one of the five? -/
def isOp (op : Int) : Bool := decide (op = 43 ∨ op = 45 ∨ op = 42 ∨ op = 47 ∨ op = 37)
/-- The error. -/
def arE (op a b : Int) : Int := if isOp op && fit a && fit b then (if (op = 47 ∨ op = 37) ∧ b = 0 then 19 else if fit (opN op a b) then 0 else 18) else 2
/-- The answer. -/
def arN (op a b : Int) : Int := if arE op a b = 0 then opN op a b else 0
theorem tdiv_fits {a b : Int} (ha : fit a = true) : -1152921504606846976 ≤ a.tdiv b ∧ a.tdiv b ≤ 1152921504606846976 := by
  have ha := fit_true ha
  have hq : (a.tdiv b).natAbs ≤ a.natAbs := by rw [Int.natAbs_tdiv]; exact Nat.div_le_self _ _
  omega
theorem tmod_fits {a b : Int} (ha : fit a = true) : fit (a.tmod b) = true := by
  have ha := fit_true ha
  have hq : (a.tmod b).natAbs ≤ a.natAbs := by rw [Int.natAbs_tmod]; exact Nat.mod_le _ _
  refine decide_eq_true ⟨by omega, ?_⟩
  by_cases h : 0 ≤ a
  · omega
  · have e : a.tmod b = -((-a).tmod b) := by rw [Int.neg_tmod]; omega
    have := Int.tmod_nonneg (a := -a) b (by omega)
    omega
theorem divide_any (op a b : Int) (w : World) (ho : op = 47 ∨ op = 37) (ha : fit a = true) (hb : fit b = true) :
    Calls Try.prog 31 #[.int .u8 op, .int .i64 a, .int .i64 b] w fun e w' => e = .returned (if b = 0 then .tuple #[.int .i64 0, .int .i64 19] else .tuple #[.int .i64 (opN op a b), .int .i64 0]) ∧ w' = w := by
  by_cases h0 : b = 0
  · subst h0
    rw [if_pos rfl]
    go_enter Try.func31, Try.ntmps31
    go_wp2
    go_ret2
    exact ⟨rfl, rfl⟩
  · rw [if_neg h0]
    have hz : (b == 0) = false := by simpa using h0
    have hq := wrap_in (n := a.tdiv b) (by have := tdiv_fits (b := b) ha; omega)
    have hr := wrap_in (n := a.tmod b) (by have := fit_true (tmod_fits (b := b) ha); omega)
    rcases ho with rfl | rfl
    · rw [show opN 47 a b = a.tdiv b from rfl]
      clear ha hb
      go_enter Try.func31, Try.ntmps31
      go_wp2
      go_ret2
      exact ⟨congrArg (fun x => Ending.returned (.tuple #[.int .i64 x, .int .i64 0])) hq, rfl⟩
    · rw [show opN 37 a b = a.tmod b from rfl]
      clear ha hb
      go_enter Try.func31, Try.ntmps31
      go_wp2
      go_ret2
      exact ⟨rfl, rfl⟩
/-- What reckon answers. -/
def rkE (op a b : Int) : Int := if isOp op then (if (op = 47 ∨ op = 37) ∧ b = 0 then 19 else if op = 42 ∧ inr (a * b) = false then 18 else 0) else 2
theorem reckon_any (op a b : Int) (w : World) (ho : 0 ≤ op ∧ op < 256) (ha : fit a = true) (hb : fit b = true) :
    Calls Try.prog 27 #[.int .u8 op, .int .i64 a, .int .i64 b] w fun e w' => e = .returned (.tuple #[.int .i64 (if rkE op a b = 0 then opN op a b else 0), .int .i64 (rkE op a b)]) ∧ w' = w := by
  have ha' := fit_true ha
  have hb' := fit_true hb
  cases hi : isOp op
  · have h1 : (op == 43) = false := by have := of_decide_eq_false hi; simp; omega
    have h2 : (op == 45) = false := by have := of_decide_eq_false hi; simp; omega
    have h3 : (op == 42) = false := by have := of_decide_eq_false hi; simp; omega
    have h4 : (op == 47) = false := by have := of_decide_eq_false hi; simp; omega
    have h5 : (op == 37) = false := by have := of_decide_eq_false hi; simp; omega
    rw [show rkE op a b = 2 by unfold rkE; rw [hi]; rfl, if_neg (by decide)]
    clear hi
    go_enter Try.func27, Try.ntmps27
    go_wp2
    go_ret2
    exact ⟨rfl, rfl⟩
  · rcases (of_decide_eq_true hi) with rfl | rfl | rfl | rfl | rfl
    · have hw := wrap_in (n := a + b) (by omega)
      rw [show rkE 43 a b = 0 by rfl, if_pos rfl, show opN 43 a b = a + b from rfl]
      clear ha hb hi
      go_enter Try.func27, Try.ntmps27
      go_wp2
      go_ret2
      exact ⟨rfl, rfl⟩
    · have hw := wrap_in (n := a - b) (by omega)
      rw [show rkE 45 a b = 0 by rfl, if_pos rfl, show opN 45 a b = a - b from rfl]
      clear ha hb hi
      go_enter Try.func27, Try.ntmps27
      go_wp2
      go_ret2
      exact ⟨rfl, rfl⟩
    · have ht := times_any a b w ha hb
      rw [show (if inr (a * b) then Value.tuple #[.int .i64 (a * b), .int .i64 0] else .tuple #[.int .i64 0, .int .i64 18]) = .tuple #[.int .i64 (if rkE 42 a b = 0 then opN 42 a b else 0), .int .i64 (rkE 42 a b)] by
        cases h : inr (a * b)
        · rw [show rkE 42 a b = 18 by unfold rkE; rw [h]; rfl]; rfl
        · rw [show rkE 42 a b = 0 by unfold rkE; rw [h]; rfl]; rfl] at ht
      generalize rkE 42 a b = x at *
      generalize (if x = 0 then opN 42 a b else 0) = y at *
      clear ha hb hi
      go_enter Try.func27, Try.ntmps27
      go_wp2_with fail
      refine ht.mono ?_
      rintro e w1 ⟨rfl, rfl⟩
      go_wp2
      go_ret2
      exact ⟨rfl, rfl⟩
    · have ht := divide_any 47 a b w (.inl rfl) ha hb
      rw [show (if b = 0 then Value.tuple #[.int .i64 0, .int .i64 19] else .tuple #[.int .i64 (opN 47 a b), .int .i64 0]) = .tuple #[.int .i64 (if rkE 47 a b = 0 then opN 47 a b else 0), .int .i64 (rkE 47 a b)] by
        by_cases h : b = 0
        · rw [show rkE 47 a b = 19 by unfold rkE; simp [h, isOp]]; simp [h]
        · rw [show rkE 47 a b = 0 by unfold rkE; simp [h, isOp]]; simp [h]] at ht
      generalize rkE 47 a b = x at *
      generalize (if x = 0 then opN 47 a b else 0) = y at *
      clear ha hb hi
      go_enter Try.func27, Try.ntmps27
      go_wp2_with fail
      refine ht.mono ?_
      rintro e w1 ⟨rfl, rfl⟩
      go_wp2
      go_ret2
      exact ⟨rfl, rfl⟩
    · have ht := divide_any 37 a b w (.inr rfl) ha hb
      rw [show (if b = 0 then Value.tuple #[.int .i64 0, .int .i64 19] else .tuple #[.int .i64 (opN 37 a b), .int .i64 0]) = .tuple #[.int .i64 (if rkE 37 a b = 0 then opN 37 a b else 0), .int .i64 (rkE 37 a b)] by
        by_cases h : b = 0
        · rw [show rkE 37 a b = 19 by unfold rkE; simp [h, isOp]]; simp [h]
        · rw [show rkE 37 a b = 0 by unfold rkE; simp [h, isOp]]; simp [h]] at ht
      generalize rkE 37 a b = x at *
      generalize (if x = 0 then opN 37 a b else 0) = y at *
      clear ha hb hi
      go_enter Try.func27, Try.ntmps27
      go_wp2_with fail
      refine ht.mono ?_
      rintro e w1 ⟨rfl, rfl⟩
      go_wp2
      go_ret2
      exact ⟨rfl, rfl⟩
theorem ar_bad {op a b : Int} (h : fit a = false ∨ fit b = false) : arE op a b = 2 ∧ arN op a b = 0 := by
  have : arE op a b = 2 := by
    unfold arE
    rw [if_neg (by rcases h with h | h <;> simp [h])]
  exact ⟨this, by unfold arN; rw [this]; rfl⟩
theorem ar_rk {op a b : Int} (ha : fit a = true) (hb : fit b = true) : arE op a b = if rkE op a b = 0 then (if fit (opN op a b) then 0 else 18) else rkE op a b := by
  unfold arE rkE
  cases hi : isOp op
  · simp
  · simp only [ha, hb, Bool.and_self, if_true]
    by_cases h : (op = 47 ∨ op = 37) ∧ b = 0
    · simp [h]
    · rw [if_neg h, if_neg h]
      by_cases h2 : op = 42 ∧ inr (a * b) = false
      · rw [if_pos h2]
        obtain ⟨rfl, h3⟩ := h2
        rw [show opN 42 a b = a * b from rfl, if_neg]
        · rfl
        intro h4
        have := fit_true h4
        have := of_decide_eq_false h3
        omega
      · rw [if_neg h2]; rfl
theorem arith_any (op a b : Int) (w : World) (ho : 0 ≤ op ∧ op < 256) :
    Calls Try.prog 20 #[.int .u8 op, .int .i64 a, .int .i64 b] w fun e w' => e = .returned (.tuple #[.int .i64 (arN op a b), .int .i64 (arE op a b)]) ∧ w' = w := by
  have h1 := fits_any a w
  have h2 := fits_any b w
  cases ha : fit a
  · obtain ⟨e1, e2⟩ := ar_bad (op := op) (a := a) (b := b) (.inl ha)
    rw [e1, e2]
    rw [ha] at h1
    clear ha e1 e2
    go_enter Try.func20, Try.ntmps20
    go_wp2_with fail
    refine h1.mono ?_
    rintro e w1 ⟨rfl, rfl⟩
    go_wp2
    go_ret2
    exact ⟨rfl, rfl⟩
  · cases hb : fit b
    · obtain ⟨e1, e2⟩ := ar_bad (op := op) (a := a) (b := b) (.inr hb)
      rw [e1, e2]
      rw [ha] at h1
      rw [hb] at h2
      clear ha hb e1 e2
      go_enter Try.func20, Try.ntmps20
      go_wp2_with fail
      refine h1.mono ?_
      rintro e w1 ⟨rfl, rfl⟩
      go_wp2_with fail
      refine h2.mono ?_
      rintro e w1 ⟨rfl, rfl⟩
      go_wp2
      go_ret2
      exact ⟨rfl, rfl⟩
    · have h3 := reckon_any op a b w ho ha hb
      have he := ar_rk (op := op) ha hb
      rw [ha] at h1
      rw [hb] at h2
      by_cases hk : rkE op a b = 0
      · rw [if_pos hk] at he
        rw [hk, if_pos rfl] at h3
        unfold arN
        rw [he]
        have h4 := fits_any (opN op a b) w
        clear he ha hb hk
        generalize opN op a b = x at *
        cases hx : fit x
        · rw [hx] at h4
          rw [show (if (if false = true then (0 : Int) else 18) = 0 then x else 0) = 0 from rfl, show (if false = true then (0 : Int) else 18) = 18 from rfl]
          clear hx
          go_enter Try.func20, Try.ntmps20
          go_wp2_with fail
          refine h1.mono ?_
          rintro e w1 ⟨rfl, rfl⟩
          go_wp2_with fail
          refine h2.mono ?_
          rintro e w1 ⟨rfl, rfl⟩
          go_wp2_with fail
          refine h3.mono ?_
          rintro e w1 ⟨rfl, rfl⟩
          go_wp2_with fail
          refine h4.mono ?_
          rintro e w1 ⟨rfl, rfl⟩
          go_wp2
          go_ret2
          exact ⟨rfl, rfl⟩
        · rw [hx] at h4
          rw [show (if (if true = true then (0 : Int) else 18) = 0 then x else 0) = x from rfl, show (if true = true then (0 : Int) else 18) = 0 from rfl]
          clear hx
          go_enter Try.func20, Try.ntmps20
          go_wp2_with fail
          refine h1.mono ?_
          rintro e w1 ⟨rfl, rfl⟩
          go_wp2_with fail
          refine h2.mono ?_
          rintro e w1 ⟨rfl, rfl⟩
          go_wp2_with fail
          refine h3.mono ?_
          rintro e w1 ⟨rfl, rfl⟩
          go_wp2_with fail
          refine h4.mono ?_
          rintro e w1 ⟨rfl, rfl⟩
          go_wp2
          go_ret2
          exact ⟨rfl, rfl⟩
      · rw [if_neg hk] at he
        rw [if_neg hk] at h3
        unfold arN
        rw [he, if_neg hk]
        clear he ha hb
        generalize rkE op a b = x at *
        have hx : (x != 0) = true := by simpa using hk
        clear hk
        go_enter Try.func20, Try.ntmps20
        go_wp2_with fail
        refine h1.mono ?_
        rintro e w1 ⟨rfl, rfl⟩
        go_wp2_with fail
        refine h2.mono ?_
        rintro e w1 ⟨rfl, rfl⟩
        go_wp2_with fail
        refine h3.mono ?_
        rintro e w1 ⟨rfl, rfl⟩
        go_wp2
        go_ret2
        exact ⟨rfl, rfl⟩
end Go.Proofs.Ytedoaiapjjocdaa
