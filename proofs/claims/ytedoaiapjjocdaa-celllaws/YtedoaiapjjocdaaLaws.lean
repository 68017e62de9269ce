/- CellLaws: the walk. -/
import Derived.Test.YtedoaiapjjocdaaC3
namespace Go.Proofs.Ytedoaiapjjocdaa
open Go.RowKit
set_option linter.unusedSimpArgs false
set_option linter.unusedVariables false

theorem ar_val {op a b : Int} (hi : isOp op = true) (ha : fit a = true) (hb : fit b = true) (h0 : ¬ ((op = 47 ∨ op = 37) ∧ b = 0)) (h : fit (opN op a b) = true) : arE op a b = 0 ∧ arN op a b = opN op a b := by
  have : arE op a b = 0 := by unfold arE; rw [hi, ha, hb, if_neg h0, h]; rfl
  exact ⟨this, by unfold arN; rw [this]; rfl⟩
theorem ar_over {op a b : Int} (hi : isOp op = true) (ha : fit a = true) (hb : fit b = true) (h0 : ¬ ((op = 47 ∨ op = 37) ∧ b = 0)) (h : fit (opN op a b) = false) : arE op a b = 18 ∧ arN op a b = 0 := by
  have : arE op a b = 18 := by unfold arE; rw [hi, ha, hb, if_neg h0, h]; rfl
  exact ⟨this, by unfold arN; rw [this]; rfl⟩
theorem ar_zero {op a b : Int} (hi : op = 47 ∨ op = 37) (ha : fit a = true) (hb : fit b = true) (h0 : b = 0) : arE op a b = 19 ∧ arN op a b = 0 := by
  have hj : isOp op = true := decide_eq_true (by omega)
  have : arE op a b = 19 := by unfold arE; rw [hj, ha, hb, if_pos (show (true && true && true) = true from rfl)]; exact if_pos ⟨hi, h0⟩
  exact ⟨this, by unfold arN; rw [this]; rfl⟩
theorem add_comm (a b : Int) : arE 43 a b = arE 43 b a ∧ arN 43 a b = arN 43 b a := by
  have : arE 43 a b = arE 43 b a := by
    unfold arE
    rw [show opN 43 a b = a + b from rfl, show opN 43 b a = b + a from rfl, Int.add_comm]
    cases fit a <;> cases fit b <;> rfl
  exact ⟨this, by unfold arN; rw [this, show opN 43 a b = a + b from rfl, show opN 43 b a = b + a from rfl, Int.add_comm]⟩
theorem mul_comm (a b : Int) : arE 42 a b = arE 42 b a ∧ arN 42 a b = arN 42 b a := by
  have : arE 42 a b = arE 42 b a := by
    unfold arE
    rw [show opN 42 a b = a * b from rfl, show opN 42 b a = b * a from rfl, Int.mul_comm]
    cases fit a <;> cases fit b <;> rfl
  exact ⟨this, by unfold arN; rw [this, show opN 42 a b = a * b from rfl, show opN 42 b a = b * a from rfl, Int.mul_comm]⟩
theorem tmod_sign (a b : Int) : a.tmod b = 0 ∨ decide (a.tmod b < 0) = decide (a < 0) := by
  by_cases h : 0 ≤ a
  · have := Int.tmod_nonneg (a := a) b h
    exact .inr (by simp; omega)
  · have e : a.tmod b = -((-a).tmod b) := by rw [Int.neg_tmod]; omega
    have := Int.tmod_nonneg (a := -a) b (by omega)
    by_cases h2 : a.tmod b = 0
    · exact .inl h2
    · exact .inr (by simp; omega)
theorem quot_fits {a b : Int} (ha : fit a = true) : fit (a.tdiv b * b) = true := by
  have h1 := fit_true ha
  have h2 := fit_true (tmod_fits (b := b) ha)
  have h3 := Int.tmod_add_tdiv_mul a b
  have h4 := tmod_sign a b
  have h5 : (a.tmod b).natAbs ≤ a.natAbs := by rw [Int.natAbs_tmod]; exact Nat.mod_le _ _
  generalize a.tdiv b * b = m at *
  generalize a.tmod b = r at *
  refine decide_eq_true ?_
  rcases h4 with h4 | h4
  · omega
  · by_cases h6 : a < 0
    · have : r < 0 := by simpa [h6] using h4
      omega
    · have : ¬ r < 0 := by simpa [h6] using h4
      omega
theorem quot_over {a b : Int} (ha : fit a = true) (h : fit (a.tdiv b) = false) : a = -1152921504606846976 ∧ b = -1 := by
  have h1 := fit_true ha
  have h2 := of_decide_eq_false h
  have h3 := tdiv_fits (b := b) ha
  have h4 : a.tdiv b = 1152921504606846976 := by omega
  have h5 : a.natAbs / b.natAbs = 1152921504606846976 := by have := Int.natAbs_tdiv a b; rw [h4] at this; exact this.symm
  have h6 : a.natAbs ≤ 1152921504606846976 := by omega
  have hb : b.natAbs = 1 := by
    rcases (by omega : b.natAbs = 0 ∨ b.natAbs = 1 ∨ 2 ≤ b.natAbs) with h7 | h7 | h7
    · rw [h7] at h5; simp at h5
    · exact h7
    · have : a.natAbs / b.natAbs ≤ a.natAbs / 2 := Nat.div_le_div_left h7 (by omega)
      omega
  rw [hb] at h5
  have h8 : a.natAbs = 1152921504606846976 := by omega
  have h9 : a = -1152921504606846976 := by omega
  refine ⟨h9, ?_⟩
  rcases (by omega : b = 1 ∨ b = -1) with rfl | rfl
  · rw [Int.tdiv_one] at h4; omega
  · rfl
set_option maxRecDepth 20000 in
set_option maxHeartbeats 400000 in
theorem laws_bad (a b : Int) (w : World) (h : fit a = false ∨ fit b = false) :
    Calls Try.prog 6 #[.int .i64 a, .int .i64 b] w fun e w' => e = .returned (.bool true) ∧ w' = w := by
  have h0 := awake_any w
  have h1 := in_any a w
  have h2 := in_any b w
  have h3 := arith_any 43 a b w (by omega)
  rw [(ar_bad h).1, (ar_bad h).2] at h3
  cases ha : fit a
  · rw [ha] at h1
    clear ha h
    go_enter Try.func6, Try.ntmps6
    go_wp2_with fail
    refine h0.mono ?_
    rintro e w1 ⟨rfl, rfl⟩
    go_wp2_with fail
    refine h1.mono ?_
    rintro e w1 ⟨rfl, rfl⟩
    go_wp2_with fail
    refine h3.mono ?_
    rintro e w1 ⟨rfl, rfl⟩
    go_wp2
    go_ret
    exact ⟨rfl, rfl⟩
  · obtain hb : fit b = false := by simpa [ha] using h
    rw [ha] at h1
    rw [hb] at h2
    clear ha hb h
    go_enter Try.func6, Try.ntmps6
    go_wp2_with fail
    refine h0.mono ?_
    rintro e w1 ⟨rfl, rfl⟩
    go_wp2_with fail
    refine h1.mono ?_
    rintro e w1 ⟨rfl, rfl⟩
    go_wp2_with fail
    refine h2.mono ?_
    rintro e w1 ⟨rfl, rfl⟩
    go_wp2_with fail
    refine h3.mono ?_
    rintro e w1 ⟨rfl, rfl⟩
    go_wp2
    go_ret
    exact ⟨rfl, rfl⟩
set_option maxRecDepth 20000 in
set_option maxHeartbeats 800000 in
theorem laws_00 (a b : Int) (w : World) (ha : fit a = true) (hb : fit b = true) (hs : fit (a + b) = true) (h00 : b = 0) :
    Calls Try.prog 6 #[.int .i64 a, .int .i64 b] w fun e w' => e = .returned (.bool true) ∧ w' = w := by
  have h0 := awake_any w
  have h1 := in_any a w
  have h2 := in_any b w
  rw [ha] at h1
  rw [hb] at h2
  have h3 := arith_any 43 a b w (by omega)
  have h4 := arith_any 43 b a w (by omega)
  have h5 := arith_any 42 a b w (by omega)
  have h6 := arith_any 42 b a w (by omega)
  rw [← (add_comm a b).1, ← (add_comm a b).2] at h4
  rw [← (mul_comm a b).1, ← (mul_comm a b).2] at h6
  obtain ⟨e1, e2⟩ := ar_val (op := 43) rfl ha hb (by omega) hs
  rw [e1, e2, show opN 43 a b = a + b from rfl] at h3 h4
  obtain ⟨e3, e4⟩ := ar_val (op := 45) (a := a + b) (b := b) rfl hs hb (by omega) (by rw [show opN 45 (a + b) b = a + b - b from rfl, Int.add_sub_cancel]; exact ha)
  have h7 := arith_any 45 (a + b) b w (by omega)
  rw [e3, e4, show opN 45 (a + b) b = a + b - b from rfl, Int.add_sub_cancel] at h7
  clear e1 e2 e3 e4 hs
  generalize a + b = s at *
  have e5 := ar_val (op := 42) (a := a) (b := b) rfl ha hb (by omega) (by rw [h00, show opN 42 a 0 = a * 0 from rfl, Int.mul_zero]; rfl)
  rw [e5.1, e5.2, show opN 42 a b = 0 by rw [h00]; exact Int.mul_zero a] at h5 h6
  have h8 := arith_any 47 a b w (by omega)
  have h9 := arith_any 37 a b w (by omega)
  rw [(ar_zero (.inl rfl) ha hb h00).1, (ar_zero (.inl rfl) ha hb h00).2] at h8
  rw [(ar_zero (.inr rfl) ha hb h00).1, (ar_zero (.inr rfl) ha hb h00).2] at h9
  clear e5 ha hb
  subst h00
  go_enter Try.func6, Try.ntmps6
  go_wp2_with fail
  refine h0.mono ?_
  rintro e w1 ⟨rfl, rfl⟩
  go_wp2_with fail
  refine h1.mono ?_
  rintro e w1 ⟨rfl, rfl⟩
  go_wp2_with fail
  refine h2.mono ?_
  rintro e w1 ⟨rfl, rfl⟩
  go_wp2_with fail
  refine h3.mono ?_
  rintro e w1 ⟨rfl, rfl⟩
  go_wp2_with fail
  refine h4.mono ?_
  rintro e w1 ⟨rfl, rfl⟩
  go_wp2_with fail
  refine h5.mono ?_
  rintro e w1 ⟨rfl, rfl⟩
  go_wp2_with fail
  refine h6.mono ?_
  rintro e w1 ⟨rfl, rfl⟩
  go_wp2_with fail
  refine h7.mono ?_
  rintro e w1 ⟨rfl, rfl⟩
  go_wp2_with fail
  refine h8.mono ?_
  rintro e w1 ⟨rfl, rfl⟩
  go_wp2_with fail
  refine h9.mono ?_
  rintro e w1 ⟨rfl, rfl⟩
  go_wp2
  go_ret
  exact ⟨rfl, rfl⟩
set_option maxRecDepth 20000 in
set_option maxHeartbeats 800000 in
theorem laws_01 (a b : Int) (w : World) (ha : fit a = true) (hb : fit b = true) (hs : fit (a + b) = true) (h00 : ¬ b = 0) (hd : fit (a.tdiv b) = false) :
    Calls Try.prog 6 #[.int .i64 a, .int .i64 b] w fun e w' => e = .returned (.bool true) ∧ w' = w := by
  have h0 := awake_any w
  have h1 := in_any a w
  have h2 := in_any b w
  rw [ha] at h1
  rw [hb] at h2
  have h3 := arith_any 43 a b w (by omega)
  have h4 := arith_any 43 b a w (by omega)
  have h5 := arith_any 42 a b w (by omega)
  have h6 := arith_any 42 b a w (by omega)
  rw [← (add_comm a b).1, ← (add_comm a b).2] at h4
  rw [← (mul_comm a b).1, ← (mul_comm a b).2] at h6
  obtain ⟨e1, e2⟩ := ar_val (op := 43) rfl ha hb (by omega) hs
  rw [e1, e2, show opN 43 a b = a + b from rfl] at h3 h4
  obtain ⟨e3, e4⟩ := ar_val (op := 45) (a := a + b) (b := b) rfl hs hb (by omega) (by rw [show opN 45 (a + b) b = a + b - b from rfl, Int.add_sub_cancel]; exact ha)
  have h7 := arith_any 45 (a + b) b w (by omega)
  rw [e3, e4, show opN 45 (a + b) b = a + b - b from rfl, Int.add_sub_cancel] at h7
  clear e1 e2 e3 e4 hs
  generalize a + b = s at *
  have hz : (b == 0) = false := by simpa using h00
  have h9 := arith_any 37 a b w (by omega)
  have h8 := arith_any 47 a b w (by omega)
  have e6 := ar_val (op := 37) (a := a) (b := b) rfl ha hb (by omega) (tmod_fits ha)
  rw [e6.1, e6.2, show opN 37 a b = a.tmod b from rfl] at h9
  generalize arN 42 a b = p at *
  generalize arE 42 a b = g at *
  have e7 := ar_over (op := 47) (a := a) (b := b) rfl ha hb (by omega) hd
  rw [e7.1, e7.2] at h8
  obtain ⟨rfl, rfl⟩ := quot_over ha hd
  rw [show (-1152921504606846976 : Int).tmod (-1) = 0 from rfl] at h9
  clear e6 e7 ha hb hd
  go_enter Try.func6, Try.ntmps6
  go_wp2_with fail
  refine h0.mono ?_
  rintro e w1 ⟨rfl, rfl⟩
  go_wp2_with fail
  refine h1.mono ?_
  rintro e w1 ⟨rfl, rfl⟩
  go_wp2_with fail
  refine h2.mono ?_
  rintro e w1 ⟨rfl, rfl⟩
  go_wp2_with fail
  refine h3.mono ?_
  rintro e w1 ⟨rfl, rfl⟩
  go_wp2_with fail
  refine h4.mono ?_
  rintro e w1 ⟨rfl, rfl⟩
  go_wp2_with fail
  refine h5.mono ?_
  rintro e w1 ⟨rfl, rfl⟩
  go_wp2_with fail
  refine h6.mono ?_
  rintro e w1 ⟨rfl, rfl⟩
  go_wp2_with fail
  refine h7.mono ?_
  rintro e w1 ⟨rfl, rfl⟩
  go_wp2_with fail
  refine h8.mono ?_
  rintro e w1 ⟨rfl, rfl⟩
  go_wp2_with fail
  refine h9.mono ?_
  rintro e w1 ⟨rfl, rfl⟩
  go_wp2
  go_ret
  exact ⟨rfl, rfl⟩
set_option maxRecDepth 20000 in
set_option maxHeartbeats 800000 in
theorem laws_02 (a b : Int) (w : World) (ha : fit a = true) (hb : fit b = true) (hs : fit (a + b) = true) (h00 : ¬ b = 0) (hd : fit (a.tdiv b) = true) :
    Calls Try.prog 6 #[.int .i64 a, .int .i64 b] w fun e w' => e = .returned (.bool true) ∧ w' = w := by
  have h0 := awake_any w
  have h1 := in_any a w
  have h2 := in_any b w
  rw [ha] at h1
  rw [hb] at h2
  have h3 := arith_any 43 a b w (by omega)
  have h4 := arith_any 43 b a w (by omega)
  have h5 := arith_any 42 a b w (by omega)
  have h6 := arith_any 42 b a w (by omega)
  rw [← (add_comm a b).1, ← (add_comm a b).2] at h4
  rw [← (mul_comm a b).1, ← (mul_comm a b).2] at h6
  obtain ⟨e1, e2⟩ := ar_val (op := 43) rfl ha hb (by omega) hs
  rw [e1, e2, show opN 43 a b = a + b from rfl] at h3 h4
  obtain ⟨e3, e4⟩ := ar_val (op := 45) (a := a + b) (b := b) rfl hs hb (by omega) (by rw [show opN 45 (a + b) b = a + b - b from rfl, Int.add_sub_cancel]; exact ha)
  have h7 := arith_any 45 (a + b) b w (by omega)
  rw [e3, e4, show opN 45 (a + b) b = a + b - b from rfl, Int.add_sub_cancel] at h7
  clear e1 e2 e3 e4 hs
  generalize a + b = s at *
  have hz : (b == 0) = false := by simpa using h00
  have h9 := arith_any 37 a b w (by omega)
  have h8 := arith_any 47 a b w (by omega)
  have e6 := ar_val (op := 37) (a := a) (b := b) rfl ha hb (by omega) (tmod_fits ha)
  rw [e6.1, e6.2, show opN 37 a b = a.tmod b from rfl] at h9
  generalize arN 42 a b = p at *
  generalize arE 42 a b = g at *
  have e7 := ar_val (op := 47) (a := a) (b := b) rfl ha hb (by omega) hd
  rw [e7.1, e7.2, show opN 47 a b = a.tdiv b from rfl] at h8
  have e8 := ar_val (op := 42) (a := a.tdiv b) (b := b) rfl hd hb (by omega) (quot_fits ha)
  have h10 := arith_any 42 (a.tdiv b) b w (by omega)
  rw [e8.1, e8.2, show opN 42 (a.tdiv b) b = a.tdiv b * b from rfl] at h10
  have e10 : a.tdiv b * b + a.tmod b = a := by have := Int.tmod_add_tdiv_mul a b; omega
  have e9 := ar_val (op := 43) (a := a.tdiv b * b) (b := a.tmod b) rfl (quot_fits ha) (tmod_fits ha) (by omega) (by rw [show opN 43 (a.tdiv b * b) (a.tmod b) = a.tdiv b * b + a.tmod b from rfl, e10]; exact ha)
  have h11 := arith_any 43 (a.tdiv b * b) (a.tmod b) w (by omega)
  rw [e9.1, e9.2, show opN 43 (a.tdiv b * b) (a.tmod b) = a.tdiv b * b + a.tmod b from rfl, e10] at h11
  have h12 := tmod_sign a b
  clear e6 e7 e8 e9 e10 ha hb hd
  generalize a.tdiv b * b = m at *
  generalize a.tdiv b = d at *
  generalize a.tmod b = r at *
  by_cases hr0 : r = 0
  · have hr : (r == 0) = true := by simpa using hr0
    subst hr0
    go_enter Try.func6, Try.ntmps6
    go_wp2_with fail
    refine h0.mono ?_
    rintro e w1 ⟨rfl, rfl⟩
    go_wp2_with fail
    refine h1.mono ?_
    rintro e w1 ⟨rfl, rfl⟩
    go_wp2_with fail
    refine h2.mono ?_
    rintro e w1 ⟨rfl, rfl⟩
    go_wp2_with fail
    refine h3.mono ?_
    rintro e w1 ⟨rfl, rfl⟩
    go_wp2_with fail
    refine h4.mono ?_
    rintro e w1 ⟨rfl, rfl⟩
    go_wp2_with fail
    refine h5.mono ?_
    rintro e w1 ⟨rfl, rfl⟩
    go_wp2_with fail
    refine h6.mono ?_
    rintro e w1 ⟨rfl, rfl⟩
    go_wp2_with fail
    refine h7.mono ?_
    rintro e w1 ⟨rfl, rfl⟩
    go_wp2_with fail
    refine h8.mono ?_
    rintro e w1 ⟨rfl, rfl⟩
    go_wp2_with fail
    refine h9.mono ?_
    rintro e w1 ⟨rfl, rfl⟩
    go_wp2_with fail
    refine h10.mono ?_
    rintro e w1 ⟨rfl, rfl⟩
    go_wp2_with fail
    refine h11.mono ?_
    rintro e w1 ⟨rfl, rfl⟩
    go_wp2
    go_ret
    exact ⟨rfl, rfl⟩
  · have hr : (r == 0) = false := by simpa using hr0
    have hsg : decide (r < 0) = decide (a < 0) := by rcases h12 with h | h; exact absurd h hr0; exact h
    clear h12 hr0
    go_enter Try.func6, Try.ntmps6
    go_wp2_with fail
    refine h0.mono ?_
    rintro e w1 ⟨rfl, rfl⟩
    go_wp2_with fail
    refine h1.mono ?_
    rintro e w1 ⟨rfl, rfl⟩
    go_wp2_with fail
    refine h2.mono ?_
    rintro e w1 ⟨rfl, rfl⟩
    go_wp2_with fail
    refine h3.mono ?_
    rintro e w1 ⟨rfl, rfl⟩
    go_wp2_with fail
    refine h4.mono ?_
    rintro e w1 ⟨rfl, rfl⟩
    go_wp2_with fail
    refine h5.mono ?_
    rintro e w1 ⟨rfl, rfl⟩
    go_wp2_with fail
    refine h6.mono ?_
    rintro e w1 ⟨rfl, rfl⟩
    go_wp2_with fail
    refine h7.mono ?_
    rintro e w1 ⟨rfl, rfl⟩
    go_wp2_with fail
    refine h8.mono ?_
    rintro e w1 ⟨rfl, rfl⟩
    go_wp2_with fail
    refine h9.mono ?_
    rintro e w1 ⟨rfl, rfl⟩
    go_wp2_with fail
    refine h10.mono ?_
    rintro e w1 ⟨rfl, rfl⟩
    go_wp2_with fail
    refine h11.mono ?_
    rintro e w1 ⟨rfl, rfl⟩
    go_wp2
    go_ret
    exact ⟨rfl, rfl⟩
set_option maxRecDepth 20000 in
set_option maxHeartbeats 800000 in
theorem laws_10 (a b : Int) (w : World) (ha : fit a = true) (hb : fit b = true) (hs : fit (a + b) = false) (h00 : b = 0) :
    Calls Try.prog 6 #[.int .i64 a, .int .i64 b] w fun e w' => e = .returned (.bool true) ∧ w' = w := by
  have h0 := awake_any w
  have h1 := in_any a w
  have h2 := in_any b w
  rw [ha] at h1
  rw [hb] at h2
  have h3 := arith_any 43 a b w (by omega)
  have h4 := arith_any 43 b a w (by omega)
  have h5 := arith_any 42 a b w (by omega)
  have h6 := arith_any 42 b a w (by omega)
  rw [← (add_comm a b).1, ← (add_comm a b).2] at h4
  rw [← (mul_comm a b).1, ← (mul_comm a b).2] at h6
  obtain ⟨e1, e2⟩ := ar_over (op := 43) rfl ha hb (by omega) hs
  rw [e1, e2] at h3 h4
  clear e1 e2 hs
  have e5 := ar_val (op := 42) (a := a) (b := b) rfl ha hb (by omega) (by rw [h00, show opN 42 a 0 = a * 0 from rfl, Int.mul_zero]; rfl)
  rw [e5.1, e5.2, show opN 42 a b = 0 by rw [h00]; exact Int.mul_zero a] at h5 h6
  have h8 := arith_any 47 a b w (by omega)
  have h9 := arith_any 37 a b w (by omega)
  rw [(ar_zero (.inl rfl) ha hb h00).1, (ar_zero (.inl rfl) ha hb h00).2] at h8
  rw [(ar_zero (.inr rfl) ha hb h00).1, (ar_zero (.inr rfl) ha hb h00).2] at h9
  clear e5 ha hb
  subst h00
  go_enter Try.func6, Try.ntmps6
  go_wp2_with fail
  refine h0.mono ?_
  rintro e w1 ⟨rfl, rfl⟩
  go_wp2_with fail
  refine h1.mono ?_
  rintro e w1 ⟨rfl, rfl⟩
  go_wp2_with fail
  refine h2.mono ?_
  rintro e w1 ⟨rfl, rfl⟩
  go_wp2_with fail
  refine h3.mono ?_
  rintro e w1 ⟨rfl, rfl⟩
  go_wp2_with fail
  refine h4.mono ?_
  rintro e w1 ⟨rfl, rfl⟩
  go_wp2_with fail
  refine h5.mono ?_
  rintro e w1 ⟨rfl, rfl⟩
  go_wp2_with fail
  refine h6.mono ?_
  rintro e w1 ⟨rfl, rfl⟩
  go_wp2_with fail
  refine h8.mono ?_
  rintro e w1 ⟨rfl, rfl⟩
  go_wp2_with fail
  refine h9.mono ?_
  rintro e w1 ⟨rfl, rfl⟩
  go_wp2
  go_ret
  exact ⟨rfl, rfl⟩
set_option maxRecDepth 20000 in
set_option maxHeartbeats 800000 in
theorem laws_11 (a b : Int) (w : World) (ha : fit a = true) (hb : fit b = true) (hs : fit (a + b) = false) (h00 : ¬ b = 0) (hd : fit (a.tdiv b) = false) :
    Calls Try.prog 6 #[.int .i64 a, .int .i64 b] w fun e w' => e = .returned (.bool true) ∧ w' = w := by
  have h0 := awake_any w
  have h1 := in_any a w
  have h2 := in_any b w
  rw [ha] at h1
  rw [hb] at h2
  have h3 := arith_any 43 a b w (by omega)
  have h4 := arith_any 43 b a w (by omega)
  have h5 := arith_any 42 a b w (by omega)
  have h6 := arith_any 42 b a w (by omega)
  rw [← (add_comm a b).1, ← (add_comm a b).2] at h4
  rw [← (mul_comm a b).1, ← (mul_comm a b).2] at h6
  obtain ⟨e1, e2⟩ := ar_over (op := 43) rfl ha hb (by omega) hs
  rw [e1, e2] at h3 h4
  clear e1 e2 hs
  have hz : (b == 0) = false := by simpa using h00
  have h9 := arith_any 37 a b w (by omega)
  have h8 := arith_any 47 a b w (by omega)
  have e6 := ar_val (op := 37) (a := a) (b := b) rfl ha hb (by omega) (tmod_fits ha)
  rw [e6.1, e6.2, show opN 37 a b = a.tmod b from rfl] at h9
  generalize arN 42 a b = p at *
  generalize arE 42 a b = g at *
  have e7 := ar_over (op := 47) (a := a) (b := b) rfl ha hb (by omega) hd
  rw [e7.1, e7.2] at h8
  obtain ⟨rfl, rfl⟩ := quot_over ha hd
  rw [show (-1152921504606846976 : Int).tmod (-1) = 0 from rfl] at h9
  clear e6 e7 ha hb hd
  go_enter Try.func6, Try.ntmps6
  go_wp2_with fail
  refine h0.mono ?_
  rintro e w1 ⟨rfl, rfl⟩
  go_wp2_with fail
  refine h1.mono ?_
  rintro e w1 ⟨rfl, rfl⟩
  go_wp2_with fail
  refine h2.mono ?_
  rintro e w1 ⟨rfl, rfl⟩
  go_wp2_with fail
  refine h3.mono ?_
  rintro e w1 ⟨rfl, rfl⟩
  go_wp2_with fail
  refine h4.mono ?_
  rintro e w1 ⟨rfl, rfl⟩
  go_wp2_with fail
  refine h5.mono ?_
  rintro e w1 ⟨rfl, rfl⟩
  go_wp2_with fail
  refine h6.mono ?_
  rintro e w1 ⟨rfl, rfl⟩
  go_wp2_with fail
  refine h8.mono ?_
  rintro e w1 ⟨rfl, rfl⟩
  go_wp2_with fail
  refine h9.mono ?_
  rintro e w1 ⟨rfl, rfl⟩
  go_wp2
  go_ret
  exact ⟨rfl, rfl⟩
set_option maxRecDepth 20000 in
set_option maxHeartbeats 800000 in
theorem laws_12 (a b : Int) (w : World) (ha : fit a = true) (hb : fit b = true) (hs : fit (a + b) = false) (h00 : ¬ b = 0) (hd : fit (a.tdiv b) = true) :
    Calls Try.prog 6 #[.int .i64 a, .int .i64 b] w fun e w' => e = .returned (.bool true) ∧ w' = w := by
  have h0 := awake_any w
  have h1 := in_any a w
  have h2 := in_any b w
  rw [ha] at h1
  rw [hb] at h2
  have h3 := arith_any 43 a b w (by omega)
  have h4 := arith_any 43 b a w (by omega)
  have h5 := arith_any 42 a b w (by omega)
  have h6 := arith_any 42 b a w (by omega)
  rw [← (add_comm a b).1, ← (add_comm a b).2] at h4
  rw [← (mul_comm a b).1, ← (mul_comm a b).2] at h6
  obtain ⟨e1, e2⟩ := ar_over (op := 43) rfl ha hb (by omega) hs
  rw [e1, e2] at h3 h4
  clear e1 e2 hs
  have hz : (b == 0) = false := by simpa using h00
  have h9 := arith_any 37 a b w (by omega)
  have h8 := arith_any 47 a b w (by omega)
  have e6 := ar_val (op := 37) (a := a) (b := b) rfl ha hb (by omega) (tmod_fits ha)
  rw [e6.1, e6.2, show opN 37 a b = a.tmod b from rfl] at h9
  generalize arN 42 a b = p at *
  generalize arE 42 a b = g at *
  have e7 := ar_val (op := 47) (a := a) (b := b) rfl ha hb (by omega) hd
  rw [e7.1, e7.2, show opN 47 a b = a.tdiv b from rfl] at h8
  have e8 := ar_val (op := 42) (a := a.tdiv b) (b := b) rfl hd hb (by omega) (quot_fits ha)
  have h10 := arith_any 42 (a.tdiv b) b w (by omega)
  rw [e8.1, e8.2, show opN 42 (a.tdiv b) b = a.tdiv b * b from rfl] at h10
  have e10 : a.tdiv b * b + a.tmod b = a := by have := Int.tmod_add_tdiv_mul a b; omega
  have e9 := ar_val (op := 43) (a := a.tdiv b * b) (b := a.tmod b) rfl (quot_fits ha) (tmod_fits ha) (by omega) (by rw [show opN 43 (a.tdiv b * b) (a.tmod b) = a.tdiv b * b + a.tmod b from rfl, e10]; exact ha)
  have h11 := arith_any 43 (a.tdiv b * b) (a.tmod b) w (by omega)
  rw [e9.1, e9.2, show opN 43 (a.tdiv b * b) (a.tmod b) = a.tdiv b * b + a.tmod b from rfl, e10] at h11
  have h12 := tmod_sign a b
  clear e6 e7 e8 e9 e10 ha hb hd
  generalize a.tdiv b * b = m at *
  generalize a.tdiv b = d at *
  generalize a.tmod b = r at *
  by_cases hr0 : r = 0
  · have hr : (r == 0) = true := by simpa using hr0
    subst hr0
    go_enter Try.func6, Try.ntmps6
    go_wp2_with fail
    refine h0.mono ?_
    rintro e w1 ⟨rfl, rfl⟩
    go_wp2_with fail
    refine h1.mono ?_
    rintro e w1 ⟨rfl, rfl⟩
    go_wp2_with fail
    refine h2.mono ?_
    rintro e w1 ⟨rfl, rfl⟩
    go_wp2_with fail
    refine h3.mono ?_
    rintro e w1 ⟨rfl, rfl⟩
    go_wp2_with fail
    refine h4.mono ?_
    rintro e w1 ⟨rfl, rfl⟩
    go_wp2_with fail
    refine h5.mono ?_
    rintro e w1 ⟨rfl, rfl⟩
    go_wp2_with fail
    refine h6.mono ?_
    rintro e w1 ⟨rfl, rfl⟩
    go_wp2_with fail
    refine h8.mono ?_
    rintro e w1 ⟨rfl, rfl⟩
    go_wp2_with fail
    refine h9.mono ?_
    rintro e w1 ⟨rfl, rfl⟩
    go_wp2_with fail
    refine h10.mono ?_
    rintro e w1 ⟨rfl, rfl⟩
    go_wp2_with fail
    refine h11.mono ?_
    rintro e w1 ⟨rfl, rfl⟩
    go_wp2
    go_ret
    exact ⟨rfl, rfl⟩
  · have hr : (r == 0) = false := by simpa using hr0
    have hsg : decide (r < 0) = decide (a < 0) := by rcases h12 with h | h; exact absurd h hr0; exact h
    clear h12 hr0
    go_enter Try.func6, Try.ntmps6
    go_wp2_with fail
    refine h0.mono ?_
    rintro e w1 ⟨rfl, rfl⟩
    go_wp2_with fail
    refine h1.mono ?_
    rintro e w1 ⟨rfl, rfl⟩
    go_wp2_with fail
    refine h2.mono ?_
    rintro e w1 ⟨rfl, rfl⟩
    go_wp2_with fail
    refine h3.mono ?_
    rintro e w1 ⟨rfl, rfl⟩
    go_wp2_with fail
    refine h4.mono ?_
    rintro e w1 ⟨rfl, rfl⟩
    go_wp2_with fail
    refine h5.mono ?_
    rintro e w1 ⟨rfl, rfl⟩
    go_wp2_with fail
    refine h6.mono ?_
    rintro e w1 ⟨rfl, rfl⟩
    go_wp2_with fail
    refine h8.mono ?_
    rintro e w1 ⟨rfl, rfl⟩
    go_wp2_with fail
    refine h9.mono ?_
    rintro e w1 ⟨rfl, rfl⟩
    go_wp2_with fail
    refine h10.mono ?_
    rintro e w1 ⟨rfl, rfl⟩
    go_wp2_with fail
    refine h11.mono ?_
    rintro e w1 ⟨rfl, rfl⟩
    go_wp2
    go_ret
    exact ⟨rfl, rfl⟩
theorem laws_any (a b : Int) (w : World) :
    Calls Try.prog 6 #[.int .i64 a, .int .i64 b] w fun e w' => e = .returned (.bool true) ∧ w' = w := by
  by_cases h : fit a = true ∧ fit b = true
  · obtain ⟨ha, hb⟩ := h
    by_cases h0 : b = 0
    · cases hs : fit (a + b)
      · exact laws_10 a b w ha hb hs h0
      · exact laws_00 a b w ha hb hs h0
    · cases hs : fit (a + b) <;> cases hd : fit (a.tdiv b)
      · exact laws_11 a b w ha hb hs h0 hd
      · exact laws_12 a b w ha hb hs h0 hd
      · exact laws_01 a b w ha hb hs h0 hd
      · exact laws_02 a b w ha hb hs h0 hd
  · have h' : fit a = false ∨ fit b = false := by cases ha : fit a <;> cases hb : fit b <;> simp_all
    exact laws_bad a b w h'
end Go.Proofs.Ytedoaiapjjocdaa
