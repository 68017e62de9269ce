import Derived.Test.YtenjollhlgjjdaaGreatDoorGaa
import Derived.Test.YtenjollhlgjjdaaGreatDoorGam
import Derived.Test.YtenjollhlgjjdaaGreatDoorGal
import Derived.Test.YtenjollhlgjjdaaGreatDoorGaf
import Derived.Test.YtenjollhlgjjdaaGreatDoorGak
/-      -/
set_option linter.unusedSimpArgs false
set_option linter.unusedVariables false
set_option maxRecDepth 100000
set_option maxHeartbeats 40000000
namespace Go.Proofs.YtenjollhlgjjdaaGreatDoor
open Go.RowKit
def csz (a : Int) : Int := if a < 0 then -a else a
theorem csz_range {a : Int} (ha : cfit a = true) : 0 ≤ csz a ∧ csz a ≤ 1152921504606846976 := by
 have := cfit_true ha
 unfold csz; split <;> omega
theorem csize_any (a : Int) (w : World) (ha : cfit a = true) : Cz 126 #[.int .i64 a] w fun e w' => e = .returned (.int .u64 (csz a)) ∧ w' = w := by
 have ha := cfit_true ha
 by_cases h : a < 0
 ·rw [show csz a = -a from if_pos h]
  have h1 := cwrap_in (n := -a) (by omega)
  have h2 : IntKind.u64.wrap (-a) = -a := by rw [IntKind.wrap_u64]; omega
  go_enter Tryz.func126, Tryz.ntmps126
  go_wp2
  go_ret
  exact ⟨rfl, rfl⟩
 ·rw [show csz a = a from if_neg h]
  have h2 : IntKind.u64.wrap a = a := by rw [IntKind.wrap_u64]; omega
  go_enter Tryz.func126, Tryz.ntmps126
  go_wp2
  go_ret
  exact ⟨rfl, rfl⟩
def csg (n : Int) (m : Bool) : Int := if m then -n else n
theorem csigned_any (n : Int) (m : Bool) (w : World) (hn : cU n) : Cz 127 #[.int .u64 n, .bool m] w fun e w' => e = .returned (.tuple #[.int .i64 (if cfit (csg n m) then csg n m else 0), .int .i64 (if cfit (csg n m) then 0 else 18)]) ∧ w' = w := by
 obtain ⟨hn1, hn2⟩ := hn
 cases m
 ·rw [show csg n false = n from rfl]
  by_cases h : n ≤ 1152921504606846975
  ·rw [show cfit n = true from decide_eq_true (by omega), if_pos rfl, if_pos rfl]
   have h1 := cwrap_in (n := n) (by omega)
   go_enter Tryz.func127, Tryz.ntmps127
   go_wp2
   go_ret2
   exact ⟨rfl, rfl⟩
  ·rw [show cfit n = false from decide_eq_false (by omega), if_neg (by decide), if_neg (by decide)]
   go_enter Tryz.func127, Tryz.ntmps127
   go_wp2
   go_ret2
   exact ⟨rfl, rfl⟩
 ·rw [show csg n true = -n from rfl]
  by_cases h : n ≤ 1152921504606846976
  ·rw [show cfit (-n) = true from decide_eq_true (by omega), if_pos rfl, if_pos rfl]
   have h1 := cwrap_in (n := n) (by omega)
   have h2 := cwrap_in (n := -n) (by omega)
   go_enter Tryz.func127, Tryz.ntmps127
   go_wp2
   go_ret2
   exact ⟨rfl, rfl⟩
  ·rw [show cfit (-n) = false from decide_eq_false (by omega), if_neg (by decide), if_neg (by decide)]
   go_enter Tryz.func127, Tryz.ntmps127
   go_wp2
   go_ret2
   exact ⟨rfl, rfl⟩
theorem ar_op {op a b : Int} (hi : cisOp op = true) (ha : cfit a = true) (hb : cfit b = true) : arE op a b = (if (op = 47 ∨ op = 37) ∧ b = 0 then 19 else if cfit (copN op a b) then 0 else 18) := by
 unfold arE; rw [hi, ha, hb]; rfl
theorem ar_two {op a b x : Int} (h : arE op a b = if cfit x then 0 else 18) (hx : copN op a b = x) : arN op a b = (if cfit x then x else 0) := by
 unfold arN; rw [h, hx]; cases cfit x <;> rfl
theorem div_sz {a b : Int} (hb : b ≠ 0) : csg (csz a / csz b) ((decide (a < 0) != decide (b < 0)) && decide (csz a / csz b > 0)) = a.tdiv b := by
 have h1 : 0 ≤ csz a := by unfold csz; split <;> omega
 have h2 : 0 ≤ csz b := by unfold csz; split <;> omega
 have h3 : 0 ≤ csz a / csz b := Int.ediv_nonneg h1 h2
 have key : a.tdiv b = if (decide (a < 0) != decide (b < 0)) then -(csz a / csz b) else csz a / csz b := by
  by_cases ha0 : a < 0 <;> by_cases hb0 : b < 0
  ·rw [show csz a = -a from if_pos ha0, show csz b = -b from if_pos hb0, ← Int.tdiv_eq_ediv_of_nonneg (by omega), Int.neg_tdiv_neg]; simp [ha0, hb0]
  ·rw [show csz a = -a from if_pos ha0, show csz b = b from if_neg hb0, ← Int.tdiv_eq_ediv_of_nonneg (by omega), Int.neg_tdiv]; simp [ha0, hb0]
  ·rw [show csz a = a from if_neg ha0, show csz b = -b from if_pos hb0, ← Int.tdiv_eq_ediv_of_nonneg (by omega), Int.tdiv_neg]; simp [ha0, hb0]
  ·rw [show csz a = a from if_neg ha0, show csz b = b from if_neg hb0, ← Int.tdiv_eq_ediv_of_nonneg (by omega)]; simp [ha0, hb0]
 rw [key]
 generalize (decide (a < 0) != decide (b < 0)) = m
 generalize csz a / csz b = n at *
 unfold csg
 cases m
 ·rfl
 ·by_cases hn : n > 0
  ·simp [hn]
  ·obtain rfl : n = 0 := by omega
   rfl
theorem mod_sz {a b : Int} : csg (csz a % csz b) (decide (a < 0)) = a.tmod b := by
 by_cases ha0 : a < 0 <;> by_cases hb0 : b < 0
 ·rw [show csz a = -a from if_pos ha0, show csz b = -b from if_pos hb0, ← Int.tmod_eq_emod_of_nonneg (by omega), Int.neg_tmod, Int.tmod_neg]; simp [ha0, csg]
 ·rw [show csz a = -a from if_pos ha0, show csz b = b from if_neg hb0, ← Int.tmod_eq_emod_of_nonneg (by omega), Int.neg_tmod]; simp [ha0, csg]
 ·rw [show csz a = a from if_neg ha0, show csz b = -b from if_pos hb0, ← Int.tmod_eq_emod_of_nonneg (by omega), Int.tmod_neg]; simp [ha0, csg]
 ·rw [show csz a = a from if_neg ha0, show csz b = b from if_neg hb0, ← Int.tmod_eq_emod_of_nonneg (by omega)]; simp [ha0, csg]
theorem mul_sz {a b : Int} : csg (csz a * csz b) (decide (a < 0) != decide (b < 0)) = a * b := by
 by_cases ha0 : a < 0 <;> by_cases hb0 : b < 0
 ·rw [show csz a = -a from if_pos ha0, show csz b = -b from if_pos hb0, Int.neg_mul_neg]; simp [ha0, hb0, csg]
 ·rw [show csz a = -a from if_pos ha0, show csz b = b from if_neg hb0]; simp [ha0, hb0, csg, Int.neg_mul]
 ·rw [show csz a = a from if_neg ha0, show csz b = -b from if_pos hb0]; simp [ha0, hb0, csg, Int.mul_neg]
 ·rw [show csz a = a from if_neg ha0, show csz b = b from if_neg hb0]; simp [ha0, hb0, csg]
theorem rbad_op (op a b : Int) (w : World) (ho : 0 ≤ op ∧ op < 256) (hi : cisOp op = false) :
  Cz 102 #[.int .u8 op, .int .i64 a, .int .i64 b] w fun e w' => e = .returned (.tuple #[.int .i64 (arN op a b), .int .i64 (arE op a b)]) ∧ w' = w := by
 have h1 : (op != 43) = true := by have := of_decide_eq_false hi; simp; omega
 have h2 : (op != 45) = true := by have := of_decide_eq_false hi; simp; omega
 have h3 : (op != 42) = true := by have := of_decide_eq_false hi; simp; omega
 have h4 : (op != 47) = true := by have := of_decide_eq_false hi; simp; omega
 have h5 : (op != 37) = true := by have := of_decide_eq_false hi; simp; omega
 rw [show arN op a b = 0 by unfold arN arE; rw [hi]; rfl, show arE op a b = 2 by unfold arE; rw [hi]; rfl]
 clear hi
 go_enter Tryz.func102, Tryz.ntmps102
 go_wp2
 go_ret2
 exact ⟨rfl, rfl⟩
def RbC (z0 : Int) : Prop := ∀ (a b : Int) (w : World) (h : cfit a = false ∨ cfit b = false), Cz 102 #[.int .u8 z0, .int .i64 a, .int .i64 b] w fun e w' => e = .returned (.tuple #[.int .i64 (arN z0 a b), .int .i64 (arE z0 a b)]) ∧ w' = w
theorem rbC_all : RbC 43 ∧ RbC 45 ∧ RbC 42 ∧ RbC 47 ∧ RbC 37 := by
 refine ⟨?_, ?_, ?_, ?_, ?_⟩
 all_goals
  intro a b w h
  obtain ⟨e1, e2⟩ := ar_bad h
  rw [e1, e2]
  have h1 := cin_any a w
  have h2 := cin_any b w
  clear e1 e2
  cases ha : cfit a
  ·rw [ha] at h1
   clear ha h
   go_enter Tryz.func102, Tryz.ntmps102
   go_wp2_with fail
   refine h1.mono ?_
   rintro e w1 ⟨rfl, rfl⟩
   go_wp2
   go_ret2
   exact ⟨rfl, rfl⟩
  ·obtain hb : cfit b = false := by simpa [ha] using h
   rw [ha] at h1
   rw [hb] at h2
   clear ha hb h
   go_enter Tryz.func102, Tryz.ntmps102
   go_wp2_with fail
   refine h1.mono ?_
   rintro e w1 ⟨rfl, rfl⟩
   go_wp2_with fail
   refine h2.mono ?_
   rintro e w1 ⟨rfl, rfl⟩
   go_wp2
   go_ret2
   exact ⟨rfl, rfl⟩
theorem rbad_43 (a b : Int) (w : World) (h : cfit a = false ∨ cfit b = false) : Cz 102 #[.int .u8 43, .int .i64 a, .int .i64 b] w fun e w' => e = .returned (.tuple #[.int .i64 (arN 43 a b), .int .i64 (arE 43 a b)]) ∧ w' = w := rbC_all.1 a b w h
theorem rbad_45 (a b : Int) (w : World) (h : cfit a = false ∨ cfit b = false) : Cz 102 #[.int .u8 45, .int .i64 a, .int .i64 b] w fun e w' => e = .returned (.tuple #[.int .i64 (arN 45 a b), .int .i64 (arE 45 a b)]) ∧ w' = w := rbC_all.2.1 a b w h
theorem rbad_42 (a b : Int) (w : World) (h : cfit a = false ∨ cfit b = false) : Cz 102 #[.int .u8 42, .int .i64 a, .int .i64 b] w fun e w' => e = .returned (.tuple #[.int .i64 (arN 42 a b), .int .i64 (arE 42 a b)]) ∧ w' = w := rbC_all.2.2.1 a b w h
theorem rbad_47 (a b : Int) (w : World) (h : cfit a = false ∨ cfit b = false) : Cz 102 #[.int .u8 47, .int .i64 a, .int .i64 b] w fun e w' => e = .returned (.tuple #[.int .i64 (arN 47 a b), .int .i64 (arE 47 a b)]) ∧ w' = w := rbC_all.2.2.2.1 a b w h
theorem rbad_37 (a b : Int) (w : World) (h : cfit a = false ∨ cfit b = false) : Cz 102 #[.int .u8 37, .int .i64 a, .int .i64 b] w fun e w' => e = .returned (.tuple #[.int .i64 (arN 37 a b), .int .i64 (arE 37 a b)]) ∧ w' = w := rbC_all.2.2.2.2 a b w h
theorem rar_43 (a b : Int) (w : World) (ha : cfit a = true) (hb : cfit b = true) :
  Cz 102 #[.int .u8 43, .int .i64 a, .int .i64 b] w fun e w' => e = .returned (.tuple #[.int .i64 (arN 43 a b), .int .i64 (arE 43 a b)]) ∧ w' = w := by
 have he : arE 43 a b = if cfit (a + b) then 0 else 18 := ar_op rfl ha hb
 rw [ar_two he rfl, he]
 have ha' := cfit_true ha
 have hb' := cfit_true hb
 have h1 := cin_any a w
 have h2 := cin_any b w
 have h3 := cin_any (a + b) w
 have hw := cwrap_in (n := a + b) (by omega)
 have hw2 := cwrap_in (n := a + b) (by omega)
 rw [ha] at h1
 rw [hb] at h2
 clear ha hb he
 cases hx : cfit (a + b)
 ·rw [hx] at h3
  rw [if_neg (by decide), if_neg (by decide)]
  clear hx
  go_enter Tryz.func102, Tryz.ntmps102
  go_wp2_with fail
  refine h1.mono ?_
  rintro e w1 ⟨rfl, rfl⟩
  go_wp2_with fail
  refine h2.mono ?_
  rintro e w1 ⟨rfl, rfl⟩
  go_wp2_with fail
  refine h3.mono ?_
  rintro e w1 ⟨rfl, rfl⟩
  go_wp2
  go_ret2
  exact ⟨rfl, rfl⟩
 ·rw [hx] at h3
  rw [if_pos rfl, if_pos rfl]
  clear hx
  go_enter Tryz.func102, Tryz.ntmps102
  go_wp2_with fail
  refine h1.mono ?_
  rintro e w1 ⟨rfl, rfl⟩
  go_wp2_with fail
  refine h2.mono ?_
  rintro e w1 ⟨rfl, rfl⟩
  go_wp2_with fail
  refine h3.mono ?_
  rintro e w1 ⟨rfl, rfl⟩
  go_wp2
  go_ret2
  exact ⟨rfl, rfl⟩
theorem rar_45 (a b : Int) (w : World) (ha : cfit a = true) (hb : cfit b = true) :
  Cz 102 #[.int .u8 45, .int .i64 a, .int .i64 b] w fun e w' => e = .returned (.tuple #[.int .i64 (arN 45 a b), .int .i64 (arE 45 a b)]) ∧ w' = w := by
 have he : arE 45 a b = if cfit (a - b) then 0 else 18 := ar_op rfl ha hb
 rw [ar_two he rfl, he]
 have ha' := cfit_true ha
 have hb' := cfit_true hb
 have h1 := cin_any a w
 have h2 := cin_any b w
 have h3 := cin_any (a - b) w
 have hw := cwrap_in (n := a - b) (by omega)
 have hw2 := cwrap_in (n := a + b) (by omega)
 rw [ha] at h1
 rw [hb] at h2
 clear ha hb he
 cases hx : cfit (a - b)
 ·rw [hx] at h3
  rw [if_neg (by decide), if_neg (by decide)]
  clear hx
  go_enter Tryz.func102, Tryz.ntmps102
  go_wp2_with fail
  refine h1.mono ?_
  rintro e w1 ⟨rfl, rfl⟩
  go_wp2_with fail
  refine h2.mono ?_
  rintro e w1 ⟨rfl, rfl⟩
  go_wp2_with fail
  refine h3.mono ?_
  rintro e w1 ⟨rfl, rfl⟩
  go_wp2
  go_ret2
  exact ⟨rfl, rfl⟩
 ·rw [hx] at h3
  rw [if_pos rfl, if_pos rfl]
  clear hx
  go_enter Tryz.func102, Tryz.ntmps102
  go_wp2_with fail
  refine h1.mono ?_
  rintro e w1 ⟨rfl, rfl⟩
  go_wp2_with fail
  refine h2.mono ?_
  rintro e w1 ⟨rfl, rfl⟩
  go_wp2_with fail
  refine h3.mono ?_
  rintro e w1 ⟨rfl, rfl⟩
  go_wp2
  go_ret2
  exact ⟨rfl, rfl⟩
theorem rar_47 (a b : Int) (w : World) (ha : cfit a = true) (hb : cfit b = true) :
  Cz 102 #[.int .u8 47, .int .i64 a, .int .i64 b] w fun e w' => e = .returned (.tuple #[.int .i64 (arN 47 a b), .int .i64 (arE 47 a b)]) ∧ w' = w := by
 have h1 := cin_any a w
 have h2 := cin_any b w
 rw [ha] at h1
 rw [hb] at h2
 by_cases h0 : b = 0
 ·have he : arE 47 a b = 19 := by rw [ar_op rfl ha hb]; simp [h0]
  rw [show arN 47 a b = 0 by unfold arN; rw [he]; rfl, he]
  clear ha hb he
  subst h0
  go_enter Tryz.func102, Tryz.ntmps102
  go_wp2_with fail
  refine h1.mono ?_
  rintro e w1 ⟨rfl, rfl⟩
  go_wp2_with fail
  refine h2.mono ?_
  rintro e w1 ⟨rfl, rfl⟩
  go_wp2
  go_ret2
  exact ⟨rfl, rfl⟩
 ·have he : arE 47 a b = if cfit (a.tdiv b) then 0 else 18 := by rw [ar_op rfl ha hb, if_neg (by omega)]; rfl
  rw [ar_two he rfl, he]
  have h3 := csize_any a w ha
  have h4 := csize_any b w hb
  have hra := csz_range ha
  have hrb := csz_range hb
  have hsb : 0 < csz b := by unfold csz; split <;> omega
  have hz : (b == 0) = false := by simpa using h0
  have hv := div_sz (a := a) h0
  have hn0 : 0 ≤ csz a / csz b := by first | exact Int.ediv_nonneg hra.1 hrb.1 | exact Int.emod_nonneg _ (by omega)
  have hn1 : csz a / csz b ≤ 1152921504606846976 := by first | (have := Int.ediv_le_self (csz b) hra.1; omega) | (have := Int.emod_lt_of_pos (csz a) hsb; omega)
  have hs := fun m => csigned_any (csz a / csz b) m w ⟨hn0, by omega⟩
  clear ha hb he
  generalize a.tdiv b = r at *
  generalize hq : csz a / csz b = q at *
  generalize csz a = x at *
  generalize csz b = y at *
  have hz2 : (y == 0) = false := by simp; omega
  generalize hsa : decide (a < 0) = sa at *
  generalize hsb2 : decide (b < 0) = sb at *
  have hs2 := hs ((sa != sb) && decide (q > 0))
  rw [hv] at hs2
  clear hs hv
  generalize (if cfit r = true then r else 0) = r1 at *
  generalize (if cfit r = true then (0 : Int) else 18) = r2 at *
  by_cases hq0 : q > 0
  ·rw [show decide (q > 0) = true from decide_eq_true hq0] at hs2
   cases sa <;> cases sb <;> simp only [bne, beq_self_eq_true, Bool.not_true, Bool.not_false, Bool.true_and, Bool.false_and, Bool.and_true, Bool.and_false, show (true == false) = false from rfl, show (false == true) = false from rfl] at hs2
   all_goals
    go_enter Tryz.func102, Tryz.ntmps102
    go_wp2_with fail
    refine h1.mono ?_
    rintro e w1 ⟨rfl, rfl⟩
    go_wp2_with fail
    refine h2.mono ?_
    rintro e w1 ⟨rfl, rfl⟩
    go_wp2_with fail
    refine h3.mono ?_
    rintro e w1 ⟨rfl, rfl⟩
    go_wp2_with fail
    refine h4.mono ?_
    rintro e w1 ⟨rfl, rfl⟩
    go_wp2_with fail
    refine hs2.mono ?_
    rintro e w1 ⟨rfl, rfl⟩
    go_wp2
    go_ret2
    exact ⟨rfl, rfl⟩
  ·rw [show decide (q > 0) = false from decide_eq_false hq0] at hs2
   simp only [Bool.and_false] at hs2
   obtain rfl : q = 0 := by omega
   clear hq0
   cases sa <;> cases sb
   all_goals
    go_enter Tryz.func102, Tryz.ntmps102
    go_wp2_with fail
    refine h1.mono ?_
    rintro e w1 ⟨rfl, rfl⟩
    go_wp2_with fail
    refine h2.mono ?_
    rintro e w1 ⟨rfl, rfl⟩
    go_wp2_with fail
    refine h3.mono ?_
    rintro e w1 ⟨rfl, rfl⟩
    go_wp2_with fail
    refine h4.mono ?_
    rintro e w1 ⟨rfl, rfl⟩
    go_wp2_with fail
    refine hs2.mono ?_
    rintro e w1 ⟨rfl, rfl⟩
    go_wp2
    go_ret2
    exact ⟨rfl, rfl⟩
theorem rar_37 (a b : Int) (w : World) (ha : cfit a = true) (hb : cfit b = true) :
  Cz 102 #[.int .u8 37, .int .i64 a, .int .i64 b] w fun e w' => e = .returned (.tuple #[.int .i64 (arN 37 a b), .int .i64 (arE 37 a b)]) ∧ w' = w := by
 have h1 := cin_any a w
 have h2 := cin_any b w
 rw [ha] at h1
 rw [hb] at h2
 by_cases h0 : b = 0
 ·have he : arE 37 a b = 19 := by rw [ar_op rfl ha hb]; simp [h0]
  rw [show arN 37 a b = 0 by unfold arN; rw [he]; rfl, he]
  clear ha hb he
  subst h0
  go_enter Tryz.func102, Tryz.ntmps102
  go_wp2_with fail
  refine h1.mono ?_
  rintro e w1 ⟨rfl, rfl⟩
  go_wp2_with fail
  refine h2.mono ?_
  rintro e w1 ⟨rfl, rfl⟩
  go_wp2
  go_ret2
  exact ⟨rfl, rfl⟩
 ·have he : arE 37 a b = if cfit (a.tmod b) then 0 else 18 := by rw [ar_op rfl ha hb, if_neg (by omega)]; rfl
  rw [ar_two he rfl, he]
  have h3 := csize_any a w ha
  have h4 := csize_any b w hb
  have hra := csz_range ha
  have hrb := csz_range hb
  have hsb : 0 < csz b := by unfold csz; split <;> omega
  have hz : (b == 0) = false := by simpa using h0
  have hv := mod_sz (a := a) (b := b)
  have hn0 : 0 ≤ csz a % csz b := by first | exact Int.ediv_nonneg hra.1 hrb.1 | exact Int.emod_nonneg _ (by omega)
  have hn1 : csz a % csz b ≤ 1152921504606846976 := by first | (have := Int.ediv_le_self (csz b) hra.1; omega) | (have := Int.emod_lt_of_pos (csz a) hsb; omega)
  have hs := fun m => csigned_any (csz a % csz b) m w ⟨hn0, by omega⟩
  clear ha hb he
  generalize a.tmod b = r at *
  generalize hq : csz a % csz b = q at *
  generalize csz a = x at *
  generalize csz b = y at *
  have hz2 : (y == 0) = false := by simp; omega
  generalize hsa : decide (a < 0) = sa at *
  have hs2 := hs sa
  rw [hv] at hs2
  clear hs hv
  generalize (if cfit r = true then r else 0) = r1 at *
  generalize (if cfit r = true then (0 : Int) else 18) = r2 at *
  go_enter Tryz.func102, Tryz.ntmps102
  go_wp2_with fail
  refine h1.mono ?_
  rintro e w1 ⟨rfl, rfl⟩
  go_wp2_with fail
  refine h2.mono ?_
  rintro e w1 ⟨rfl, rfl⟩
  go_wp2_with fail
  refine h3.mono ?_
  rintro e w1 ⟨rfl, rfl⟩
  go_wp2_with fail
  refine h4.mono ?_
  rintro e w1 ⟨rfl, rfl⟩
  go_wp2_with fail
  refine hs2.mono ?_
  rintro e w1 ⟨rfl, rfl⟩
  go_wp2
  go_ret2
  exact ⟨rfl, rfl⟩
theorem rar_42 (a b : Int) (w : World) (ha : cfit a = true) (hb : cfit b = true) :
  Cz 102 #[.int .u8 42, .int .i64 a, .int .i64 b] w fun e w' => e = .returned (.tuple #[.int .i64 (arN 42 a b), .int .i64 (arE 42 a b)]) ∧ w' = w := by
 have h1 := cin_any a w
 have h2 := cin_any b w
 rw [ha] at h1
 rw [hb] at h2
 have he : arE 42 a b = if cfit (a * b) then 0 else 18 := by rw [ar_op rfl ha hb, if_neg (by omega)]; rfl
 rw [ar_two he rfl, he]
 have h3 := csize_any a w ha
 have h4 := csize_any b w hb
 have hra := csz_range ha
 have hrb := csz_range hb
 have hv := mul_sz (a := a) (b := b)
 clear ha hb he
 generalize hr : a * b = r at *
 by_cases hx0 : csz a = 0
 ·rw [hx0] at h3 hv
  obtain rfl : 0 = r := by rw [← hv]; unfold csg; split <;> omega
  rw [show cfit 0 = true from rfl, if_pos rfl, if_pos rfl]
  clear hx0 hv hr
  go_enter Tryz.func102, Tryz.ntmps102
  go_wp2_with fail
  refine h1.mono ?_
  rintro e w1 ⟨rfl, rfl⟩
  go_wp2_with fail
  refine h2.mono ?_
  rintro e w1 ⟨rfl, rfl⟩
  go_wp2_with fail
  refine h3.mono ?_
  rintro e w1 ⟨rfl, rfl⟩
  go_wp2_with fail
  refine h4.mono ?_
  rintro e w1 ⟨rfl, rfl⟩
  go_wp2
  go_ret2
  exact ⟨rfl, rfl⟩
 by_cases hy0 : csz b = 0
 ·rw [hy0] at h4 hv
  obtain rfl : 0 = r := by rw [← hv]; unfold csg; split <;> omega
  rw [show cfit 0 = true from rfl, if_pos rfl, if_pos rfl]
  have hz2 : (csz a == 0) = false := by simp; omega
  clear hx0 hy0 hv hr
  generalize csz a = x at *
  go_enter Tryz.func102, Tryz.ntmps102
  go_wp2_with fail
  refine h1.mono ?_
  rintro e w1 ⟨rfl, rfl⟩
  go_wp2_with fail
  refine h2.mono ?_
  rintro e w1 ⟨rfl, rfl⟩
  go_wp2_with fail
  refine h3.mono ?_
  rintro e w1 ⟨rfl, rfl⟩
  go_wp2_with fail
  refine h4.mono ?_
  rintro e w1 ⟨rfl, rfl⟩
  go_wp2
  go_ret2
  exact ⟨rfl, rfl⟩
 have hz2 : (csz a == 0) = false := by simp; omega
 have hz3 : (csz b == 0) = false := by simp; omega
 have hdiv : csz b ≤ 1152921504606846976 / csz a ↔ csz b * csz a ≤ 1152921504606846976 := Int.le_ediv_iff_mul_le (by omega)
 have hcm : csz b * csz a = csz a * csz b := Int.mul_comm _ _
 by_cases hgt : csz b ≤ 1152921504606846976 / csz a
 ·have hle := hdiv.1 hgt
  have hp0 : 0 ≤ csz a * csz b := Int.mul_nonneg hra.1 hrb.1
  have hs := fun m => csigned_any (csz a * csz b) m w ⟨hp0, by omega⟩
  have hs2 := hs (decide (a < 0) != decide (b < 0))
  rw [hv] at hs2
  have hwp : IntKind.u64.wrap (csz a * csz b) = csz a * csz b := by rw [IntKind.wrap_u64]; omega
  have hwp2 : (csz a * csz b) % 18446744073709551616 = csz a * csz b := by omega
  clear hs hv hdiv hcm hr hle
  generalize hpp : csz a * csz b = p at *
  generalize csz a = x at *
  generalize csz b = y at *
  generalize hsa : decide (a < 0) = sa at *
  generalize hsb2 : decide (b < 0) = sb at *
  generalize (if cfit r = true then r else 0) = r1 at *
  generalize (if cfit r = true then (0 : Int) else 18) = r2 at *
  cases sa <;> cases sb <;> simp only [bne, beq_self_eq_true, Bool.not_true, Bool.not_false, show (true == false) = false from rfl, show (false == true) = false from rfl] at hs2
  all_goals
   go_enter Tryz.func102, Tryz.ntmps102
   go_wp2_with fail
   refine h1.mono ?_
   rintro e w1 ⟨rfl, rfl⟩
   go_wp2_with fail
   refine h2.mono ?_
   rintro e w1 ⟨rfl, rfl⟩
   go_wp2_with fail
   refine h3.mono ?_
   rintro e w1 ⟨rfl, rfl⟩
   go_wp2_with fail
   refine h4.mono ?_
   rintro e w1 ⟨rfl, rfl⟩
   go_wp2_with fail
   refine hs2.mono ?_
   rintro e w1 ⟨rfl, rfl⟩
   go_wp2
   go_ret2
   exact ⟨rfl, rfl⟩
 ·have hgt2 : cfit r = false := by
   refine decide_eq_false ?_
   rw [← hv]
   unfold csg
   split <;> omega
  rw [hgt2, if_neg (by decide), if_neg (by decide)]
  clear hv hdiv hcm hr hgt2
  generalize csz b = y at *
  generalize csz a = x at *
  go_enter Tryz.func102, Tryz.ntmps102
  go_wp2_with fail
  refine h1.mono ?_
  rintro e w1 ⟨rfl, rfl⟩
  go_wp2_with fail
  refine h2.mono ?_
  rintro e w1 ⟨rfl, rfl⟩
  go_wp2_with fail
  refine h3.mono ?_
  rintro e w1 ⟨rfl, rfl⟩
  go_wp2_with fail
  refine h4.mono ?_
  rintro e w1 ⟨rfl, rfl⟩
  go_wp2
  go_ret2
  exact ⟨rfl, rfl⟩
theorem rarith_any (op a b : Int) (w : World) (ho : 0 ≤ op ∧ op < 256) :
  Cz 102 #[.int .u8 op, .int .i64 a, .int .i64 b] w fun e w' => e = .returned (.tuple #[.int .i64 (arN op a b), .int .i64 (arE op a b)]) ∧ w' = w := by
 cases hi : cisOp op
 ·exact rbad_op op a b w ho hi
 ·by_cases h : cfit a = true ∧ cfit b = true
  ·obtain ⟨ha, hb⟩ := h
   rcases (of_decide_eq_true hi) with rfl | rfl | rfl | rfl | rfl
   ·exact rar_43 a b w ha hb
   ·exact rar_45 a b w ha hb
   ·exact rar_42 a b w ha hb
   ·exact rar_47 a b w ha hb
   ·exact rar_37 a b w ha hb
  ·have h' : cfit a = false ∨ cfit b = false := by cases ha : cfit a <;> cases hb : cfit b <;> simp_all
   rcases (of_decide_eq_true hi) with rfl | rfl | rfl | rfl | rfl
   ·exact rbad_43 a b w h'
   ·exact rbad_45 a b w h'
   ·exact rbad_42 a b w h'
   ·exact rbad_47 a b w h'
   ·exact rbad_37 a b w h'
end Go.Proofs.YtenjollhlgjjdaaGreatDoor
namespace Go.Proofs.YtenjollhlgjjdaaGreatDoor
open Go.RowKit Go.Lib
def boT (b : Bool) : Vt := ⟨3, if b then 1 else 0, ⟨#[]⟩, []⟩
theorem bo_sm (b : Bool) : ∃ e, SmT e (boT b) := by
 refine ⟨1, Nat.zero_le _, Nat.zero_le _, ⟨(by decide : (-9223372036854775808 : Int) ≤ 3), (by decide : (3 : Int) ≤ 9223372036854775807)⟩, ?_, fun x hx => by cases hx⟩
 cases b
 ·exact ⟨(by decide : (-9223372036854775808 : Int) ≤ 0), (by decide : (0 : Int) ≤ 9223372036854775807)⟩
 ·exact ⟨(by decide : (-9223372036854775808 : Int) ≤ 1), (by decide : (1 : Int) ≤ 9223372036854775807)⟩
theorem bo_ti (w : World) (S : Nat → Prop) (d : Nat) (b : Bool) : TiAt w S (d + 1) false (boT b) (.iface 61 (.agg #[.bool b])) := by
 refine .inr (.inr (.inl ⟨rfl, rfl, ?_⟩))
 cases b <;> rfl
def HoC (name : ByteArray) (ks : List Int) (hb : List Vt → Bool) : Prop := ∀ (d : Nat) (l : List Vt) (G q : Nat) (w : World) (S : Nat → Prop), PsAt w S d false l (some ⟨G, q, none⟩) → (∀ b, S b → b < w.heap.size) → l.length = ks.length → (∀ x ∈ l, ∃ e, SmT e x) → l.all (sdB d) = true → fitB l ks = true → Tx w →
 Cz 52 #[.string name, .slice (some ⟨G, q, none⟩) l.length l.length] w fun e w' => e = .returned (.bool (hb l)) ∧ Oz w w'
theorem ti_1 {w : World} {S : Nat → Prop} {d : Nat} {t : Vt} {v : Value} (h : TiAt w S d false t v) (hk : t.k = 1) : v = .iface 35 (.agg #[.int .i64 t.n]) := by
 cases d with
 | zero => exact h.elim
 | succ d => rcases h with ⟨e, _, g⟩ | ⟨e, _, g⟩ | ⟨e, _, g⟩ | ⟨e, _, g⟩ | ⟨e, _, g⟩ | ⟨e, _⟩ <;> first | exact g | omega
theorem ti_2 {w : World} {S : Nat → Prop} {d : Nat} {t : Vt} {v : Value} (h : TiAt w S d false t v) (hk : t.k = 2) : v = .iface 59 (.agg #[.string t.s]) := by
 cases d with
 | zero => exact h.elim
 | succ d => rcases h with ⟨e, _, g⟩ | ⟨e, _, g⟩ | ⟨e, _, g⟩ | ⟨e, _, g⟩ | ⟨e, _, g⟩ | ⟨e, _⟩ <;> first | omega | exact g
theorem ti_3 {w : World} {S : Nat → Prop} {d : Nat} {t : Vt} {v : Value} (h : TiAt w S d false t v) (hk : t.k = 3) : v = .iface 61 (.agg #[.bool (t.n != 0)]) := by
 cases d with
 | zero => exact h.elim
 | succ d => rcases h with ⟨e, _, g⟩ | ⟨e, _, g⟩ | ⟨e, _, g⟩ | ⟨e, _, g⟩ | ⟨e, _, g⟩ | ⟨e, _⟩ <;> first | omega | exact g
theorem mh_all : ∀ nm ∈ ([[110, 111, 116], [97, 110, 100], [111, 114], [60], [62], [61], [105, 110, 116, 63], [115, 116, 114, 63], [98, 111, 111, 108, 63], [108, 105, 115, 116, 63], [113, 117, 111, 116, 63], [98, 111, 120, 63]] : List (List UInt8)), ∀ (ks : List Int) (hb : List Vt → Bool), HoC ⟨nm.toArray⟩ ks hb → MdC ⟨nm.toArray⟩ ks (fun _ l => .ok (boT (hb l))) := by
 intro nm hx ks hb hH d l G q w S hl hS hlen hsm hsd hf hT
 have HH : Hid _ := hH d l G q w S hl hS hlen hsm hsd hf hT
 obtain ⟨b, hb0⟩ : ∃ b, b = hb l := ⟨_, rfl⟩
 have HP : Hid (∀ w', Oz w w' → MdP (.ok (boT b)) (d + 2) w (.returned (.tuple #[.iface 61 (.agg #[.bool b]), .int .i64 0])) w') := fun w' o => ⟨_, rfl, ⟨fun _ => False, bo_ti w' _ (d + 1) b, fun _ g => g.elim⟩, bo_sm b, o⟩
 obtain ⟨L, hL⟩ : ∃ L, L = l.length := ⟨_, rfl⟩
 dsimp only
 rw [← hb0] at HH ⊢
 rw [← hL] at HH ⊢
 clear hl hS hlen hsm hsd hf hT hL hb0 hH
 simp only [List.mem_cons, List.not_mem_nil, or_false] at hx
 rcases hx with rfl|rfl|rfl|rfl|rfl|rfl|rfl|rfl|rfl|rfl|rfl|rfl
 all_goals
  go_enter Tryz.func33, Tryz.ntmps33
  go_wp2_with fail
  refine (show Cz 52 _ _ _ from HH.out).mono ?_
  rintro e w1 ⟨rfl, o1⟩
  have O1 : Hid (Oz w w1) := o1
  clear HH o1
  go_wp2
  go_ret2
  exact HP.out _ O1.out
theorem mh_not {ks : List Int} {hb : List Vt → Bool} (hH : HoC ⟨#[110, 111, 116]⟩ ks hb) : MdC ⟨#[110, 111, 116]⟩ ks (fun _ l => .ok (boT (hb l))) := mh_all _ (by decide) ks hb hH
theorem mh_and {ks : List Int} {hb : List Vt → Bool} (hH : HoC ⟨#[97, 110, 100]⟩ ks hb) : MdC ⟨#[97, 110, 100]⟩ ks (fun _ l => .ok (boT (hb l))) := mh_all _ (by decide) ks hb hH
theorem mh_or {ks : List Int} {hb : List Vt → Bool} (hH : HoC ⟨#[111, 114]⟩ ks hb) : MdC ⟨#[111, 114]⟩ ks (fun _ l => .ok (boT (hb l))) := mh_all _ (by decide) ks hb hH
theorem mh_lt {ks : List Int} {hb : List Vt → Bool} (hH : HoC ⟨#[60]⟩ ks hb) : MdC ⟨#[60]⟩ ks (fun _ l => .ok (boT (hb l))) := mh_all _ (by decide) ks hb hH
theorem mh_gt {ks : List Int} {hb : List Vt → Bool} (hH : HoC ⟨#[62]⟩ ks hb) : MdC ⟨#[62]⟩ ks (fun _ l => .ok (boT (hb l))) := mh_all _ (by decide) ks hb hH
theorem mh_intQ {ks : List Int} {hb : List Vt → Bool} (hH : HoC ⟨#[105, 110, 116, 63]⟩ ks hb) : MdC ⟨#[105, 110, 116, 63]⟩ ks (fun _ l => .ok (boT (hb l))) := mh_all _ (by decide) ks hb hH
theorem mh_strQ {ks : List Int} {hb : List Vt → Bool} (hH : HoC ⟨#[115, 116, 114, 63]⟩ ks hb) : MdC ⟨#[115, 116, 114, 63]⟩ ks (fun _ l => .ok (boT (hb l))) := mh_all _ (by decide) ks hb hH
theorem mh_boolQ {ks : List Int} {hb : List Vt → Bool} (hH : HoC ⟨#[98, 111, 111, 108, 63]⟩ ks hb) : MdC ⟨#[98, 111, 111, 108, 63]⟩ ks (fun _ l => .ok (boT (hb l))) := mh_all _ (by decide) ks hb hH
theorem mh_listQ {ks : List Int} {hb : List Vt → Bool} (hH : HoC ⟨#[108, 105, 115, 116, 63]⟩ ks hb) : MdC ⟨#[108, 105, 115, 116, 63]⟩ ks (fun _ l => .ok (boT (hb l))) := mh_all _ (by decide) ks hb hH
theorem mh_quotQ {ks : List Int} {hb : List Vt → Bool} (hH : HoC ⟨#[113, 117, 111, 116, 63]⟩ ks hb) : MdC ⟨#[113, 117, 111, 116, 63]⟩ ks (fun _ l => .ok (boT (hb l))) := mh_all _ (by decide) ks hb hH
theorem mh_boxQ {ks : List Int} {hb : List Vt → Bool} (hH : HoC ⟨#[98, 111, 120, 63]⟩ ks hb) : MdC ⟨#[98, 111, 120, 63]⟩ ks (fun _ l => .ok (boT (hb l))) := mh_all _ (by decide) ks hb hH
def flB (t : Vt) : Bool := t.n != 0
theorem ho_not : HoC ⟨#[110, 111, 116]⟩ [4] (fun l => !flB (l.getD 0 zT)) := by
 intro d l G q w S hl hS hlen hsm hsd hf hT
 obtain ⟨x, rfl, hk⟩ := fit1 hlen hf
 obtain ⟨g, k, u, ha, hg, hc, ht⟩ := hl 0 x rfl
 cases ha
 have hu := ti_3 ht (fb_4 hk)
 subst hu
 show Cz 52 #[_, .slice (some ⟨G, q, none⟩) 1 1] w fun e w' => e = .returned (.bool (!flB x)) ∧ _
 have hc0 : w.cell? ⟨G, q, none⟩ = some (.iface 61 (.agg #[.bool (flB x)])) := hc
 obtain ⟨b, hb⟩ : ∃ b, b = flB x := ⟨_, rfl⟩
 rw [← hb] at hc0 ⊢
 have HF : Hid _ := g_flag b w
 have O0 : Hid (Oz w w) := Only.refl _ _
 clear hl hS hlen hsm hsd hf hT hk hg hc ht hb
 go_enter Tryz.func52, Tryz.ntmps52
 go_wp2_with fail
 refine (show Cz 82 _ _ _ from HF.out).mono ?_
 rintro e w1 ⟨rfl, hw1⟩
 obtain rfl := hw1.symm
 go_wp2
 go_ret
 exact ⟨rfl, O0.out⟩
theorem ho_and : HoC ⟨#[97, 110, 100]⟩ [4, 4] (fun l => flB (l.getD 0 zT) && flB (l.getD 1 zT)) := by
 intro d l G q w S hl hS hlen hsm hsd hf hT
 obtain ⟨x, y, rfl, hk, hk2⟩ := fit2 hlen hf
 obtain ⟨g, k, u, ha, hg, hc, ht⟩ := hl 0 x rfl
 cases ha
 obtain ⟨g2, k2, u2, ha2, hg2, hc2, ht2⟩ := hl 1 y rfl
 cases ha2
 have hu := ti_3 ht (fb_4 hk)
 subst hu
 have hu2 := ti_3 ht2 (fb_4 hk2)
 subst hu2
 show Cz 52 #[_, .slice (some ⟨G, q, none⟩) 2 2] w fun e w' => e = .returned (.bool (flB x && flB y)) ∧ _
 have hc0 : w.cell? ⟨G, q, none⟩ = some (.iface 61 (.agg #[.bool (flB x)])) := hc
 have hc1 : w.cell? ⟨G, q + 1, none⟩ = some (.iface 61 (.agg #[.bool (flB y)])) := hc2
 obtain ⟨b, hb⟩ : ∃ b, b = flB x := ⟨_, rfl⟩
 obtain ⟨c, hcc⟩ : ∃ c, c = flB y := ⟨_, rfl⟩
 rw [← hb] at hc0 ⊢
 rw [← hcc] at hc1 ⊢
 have HF : Hid _ := g_flag b w
 have HF2 : Hid _ := g_flag c w
 have O0 : Hid (Oz w w) := Only.refl _ _
 clear hl hS hlen hsm hsd hf hT hk hg hc ht hb hk2 hg2 hc2 ht2 hcc
 cases b with
 | false =>
   go_enter Tryz.func52, Tryz.ntmps52
   go_wp2_with fail
   refine (show Cz 82 _ _ _ from HF.out).mono ?_
   rintro e w1 ⟨rfl, hw1⟩
   obtain rfl := hw1.symm
   go_wp2
   go_ret
   exact ⟨rfl, O0.out⟩
 | true =>
   go_enter Tryz.func52, Tryz.ntmps52
   go_wp2_with fail
   refine (show Cz 82 _ _ _ from HF.out).mono ?_
   rintro e w1 ⟨rfl, hw1⟩
   obtain rfl := hw1.symm
   go_wp2_with fail
   refine (show Cz 82 _ _ _ from HF2.out).mono ?_
   rintro e w1 ⟨rfl, hw1⟩
   obtain rfl := hw1.symm
   go_wp2
   go_ret
   exact ⟨rfl, O0.out⟩
theorem ho_or : HoC ⟨#[111, 114]⟩ [4, 4] (fun l => flB (l.getD 0 zT) || flB (l.getD 1 zT)) := by
 intro d l G q w S hl hS hlen hsm hsd hf hT
 obtain ⟨x, y, rfl, hk, hk2⟩ := fit2 hlen hf
 obtain ⟨g, k, u, ha, hg, hc, ht⟩ := hl 0 x rfl
 cases ha
 obtain ⟨g2, k2, u2, ha2, hg2, hc2, ht2⟩ := hl 1 y rfl
 cases ha2
 have hu := ti_3 ht (fb_4 hk)
 subst hu
 have hu2 := ti_3 ht2 (fb_4 hk2)
 subst hu2
 show Cz 52 #[_, .slice (some ⟨G, q, none⟩) 2 2] w fun e w' => e = .returned (.bool (flB x || flB y)) ∧ _
 have hc0 : w.cell? ⟨G, q, none⟩ = some (.iface 61 (.agg #[.bool (flB x)])) := hc
 have hc1 : w.cell? ⟨G, q + 1, none⟩ = some (.iface 61 (.agg #[.bool (flB y)])) := hc2
 obtain ⟨b, hb⟩ : ∃ b, b = flB x := ⟨_, rfl⟩
 obtain ⟨c, hcc⟩ : ∃ c, c = flB y := ⟨_, rfl⟩
 rw [← hb] at hc0 ⊢
 rw [← hcc] at hc1 ⊢
 have HF : Hid _ := g_flag b w
 have HF2 : Hid _ := g_flag c w
 have O0 : Hid (Oz w w) := Only.refl _ _
 clear hl hS hlen hsm hsd hf hT hk hg hc ht hb hk2 hg2 hc2 ht2 hcc
 cases b with
 | true =>
   go_enter Tryz.func52, Tryz.ntmps52
   go_wp2_with fail
   refine (show Cz 82 _ _ _ from HF.out).mono ?_
   rintro e w1 ⟨rfl, hw1⟩
   obtain rfl := hw1.symm
   go_wp2
   go_ret
   exact ⟨rfl, O0.out⟩
 | false =>
   go_enter Tryz.func52, Tryz.ntmps52
   go_wp2_with fail
   refine (show Cz 82 _ _ _ from HF.out).mono ?_
   rintro e w1 ⟨rfl, hw1⟩
   obtain rfl := hw1.symm
   go_wp2_with fail
   refine (show Cz 82 _ _ _ from HF2.out).mono ?_
   rintro e w1 ⟨rfl, hw1⟩
   obtain rfl := hw1.symm
   go_wp2
   go_ret
   exact ⟨rfl, O0.out⟩
def pV (T : TypeId) (y : Value) : Value := .iface 109 (.agg #[.iface T y])
theorem pitemV {T : TypeId} {y : Value} (hv : PsV (.iface T y)) (M : Nat) (w : World) (hT : Tb w) (hg : Mg M) (h : MlB w M 1024) : Cz 157 #[.pointer (some ⟨M, 0, none⟩), pV T y, .int .i64 32] w fun e w' => e = .returned (.bool true) ∧ Only (fun b => b = M) w w' := by
 have HV : Hid (∀ w1, Oz w w1 → Cz 161 #[.pointer (some ⟨M, 0, none⟩), .iface T y, .int .i64 32] w1 fun e w' => e = .returned (.bool true) ∧ Only (fun b => b = M) w1 w') := fun w1 o => hv M w1 (hT.frame o) (mlB_keep h o) hg
 have hP := va_hit 109 97 _ Tryz.underlying109 (by intro m h; cases h)
 have O0 : Hid (Oz w w) := Only.refl _ _
 clear h hv hT hg
 unfold pV
 go_enter Tryz.func157, Tryz.ntmps157
 go_wp2_with fail
 refine (show Cz 161 _ _ _ from HV.out _ (O0.out.alloc _)).mono ?_
 rintro e w1 ⟨rfl, o1⟩
 have O1 : Hid (Only (fun b => b = M) w w1) := ((Only.refl (fun b => b = M) w).alloc _).trans o1 (fun _ _ g => g)
 clear HV o1
 go_wp2
 go_ret
 exact ⟨rfl, O1.out⟩
theorem psoundV {T : TypeId} {y : Value} (hv : PsV (.iface T y)) (w : World) (hT : Tb w) : Cz 154 #[pV T y] w fun e w' => e = .returned (.bool true) ∧ Oz w w' := by
 have HI : Hid (Cz 157 #[.pointer (some ⟨w.heap.size, 0, none⟩), pV T y, .int .i64 32] (w.alloc (.cells #[.int .i64 1024] 249)) fun e w' => e = .returned (.bool true) ∧ Only (fun b => b = w.heap.size) (w.alloc (.cells #[.int .i64 1024] 249)) w') := pitemV hv _ _ (hT.frame ((Only.refl _ w).alloc _)) (by have := hT.lt; exact ⟨by omega, by omega, by omega⟩) (va_at _ _ _ rfl)
 clear hv hT
 unfold pV at HI ⊢
 go_enter Tryz.func154, Tryz.ntmps154
 go_wp2_with fail
 refine (show Cz 157 _ _ _ from HI.out).mono ?_
 rintro e w1 ⟨rfl, o1⟩
 have O1 : Hid (Oz w w1) := ((Only.refl (fun _ => False) w).alloc _).trans o1 (fun k hk e => by omega)
 clear HI o1
 go_wp2
 go_ret
 exact ⟨rfl, O1.out⟩
theorem psoundsV {T : TypeId} {y : Value} (hv : PsV (.iface T y)) (w : World) (hT : Tb w) (g : Nat) (hg : w.cell? ⟨g, 0, none⟩ = some (pV T y)) : Cz 149 #[.slice (some ⟨g, 0, none⟩) 1 1] w fun e w' => e = .returned (.bool true) ∧ Oz w w' := by
 have HI : Hid (∀ w1, Oz w w1 → Cz 154 #[pV T y] w1 fun e w' => e = .returned (.bool true) ∧ Oz w1 w') := fun w1 o => psoundV hv w1 (hT.frame o)
 clear hv hT
 unfold pV at HI hg
 go_enter Tryz.func149, Tryz.ntmps149
 go_wp2
 go_loopw [7] (fun r wr => ∃ i : Int, r = .int .i64 i ∧ (i = 0 ∨ i = 1) ∧ Hid (Oz w wr)) (fun r _ => 1 - uOf r)
 case atStart => exact ⟨0, rfl, .inl rfl, Only.refl _ _⟩
 case round =>
  obtain ⟨i, rfl, hi, HO⟩ := hrel
  obtain ⟨w1, rfl⟩ : ∃ w1, w1 = wr := ⟨_, rfl⟩
  rcases hi with rfl | rfl
  ·have hg1 := HO.out.cell hg (fun h => h)
   go_wp2_with fail
   refine (show Cz 154 _ _ _ from HI.out _ HO.out).mono ?_
   rintro e w2 ⟨rfl, o2⟩
   have O2 : Hid (Oz w w2) := HO.out.trans o2 (fun _ _ g => g)
   clear HI o2 hg1 HO
   go_wp2
   go_roundw
   case rel => exact ⟨1, rfl, .inr rfl, O2⟩
   case measure => simp [uOf]
  ·go_wp2
   go_ret
   exact ⟨rfl, HO.out⟩
theorem witemV {T : TypeId} {y : Value} {t : ByteArray} (hv : WvV (.iface T y) t) (B b : Nat) (w : World) (hT : Tx w) (h : WrU B b [] false w) (hBw : B ≤ w.heap.size) : Cz 155 #[.pointer (some ⟨b, 0, none⟩), pV T y] w fun e w' => e = .returned (.tuple #[]) ∧ Hid (WrU B b (strCells t) true w' ∧ Only (fun k => B ≤ k) w w') := by
 have HV : Hid (Cz 158 #[.pointer (some ⟨b, 0, none⟩), .iface T y] (w.alloc (.cells #[.iface T y] 109)) fun e w' => e = .returned (.tuple #[]) ∧ Hid (WrU B b (strCells t) true w' ∧ Only (fun k => B ≤ k) (w.alloc (.cells #[.iface T y] 109)) w')) := hv B b _ (hT.frame ((Only.refl _ w).alloc _)) (h.alloc _) (by simp; omega)
 have hP := va_hit 109 97 _ Tryz.underlying109 (by intro m h; cases h)
 have O0 : Hid (Only (fun k => B ≤ k) w (w.alloc (.cells #[.iface T y] 109))) := (Only.refl (fun k => B ≤ k) w).alloc _
 clear h hBw hv hT
 unfold pV
 go_enter Tryz.func155, Tryz.ntmps155
 go_wp2_with fail
 refine (show Cz 158 _ _ _ from HV.out).mono ?_
 rintro e w1 ⟨rfl, g1⟩
 clear HV
 go_wp2
 go_end0
 exact ⟨rfl, g1.out.1, O0.out.trans g1.out.2 (fun _ _ g => g)⟩
theorem witemsV {T : TypeId} {y : Value} {t : ByteArray} (hv : WvV (.iface T y) t) (B b g : Nat) (w : World) (hT : Tx w) (h : WrU B b [] false w) (hBw : B ≤ w.heap.size) (hg : w.cell? ⟨g, 0, none⟩ = some (pV T y)) : Cz 150 #[.pointer (some ⟨b, 0, none⟩), .slice (some ⟨g, 0, none⟩) 1 1] w fun e w' => e = .returned (.tuple #[]) ∧ Hid (WrU B b (strCells t) true w' ∧ Only (fun k => B ≤ k) w w') := by
 have HI : Hid (Cz 155 #[.pointer (some ⟨b, 0, none⟩), pV T y] w fun e w' => e = .returned (.tuple #[]) ∧ Hid (WrU B b (strCells t) true w' ∧ Only (fun k => B ≤ k) w w')) := witemV hv B b w hT h hBw
 clear h hBw hv hT
 unfold pV at HI hg
 go_enter Tryz.func150, Tryz.ntmps150
 go_wp2
 go_loopw [8] (fun r wr => (r = .int .i64 0 ∧ wr = w) ∨ (r = .int .i64 1 ∧ Hid (WrU B b (strCells t) true wr ∧ Only (fun k => B ≤ k) w wr))) (fun r _ => 1 - uOf r)
 case atStart => exact .inl ⟨rfl, rfl⟩
 case round =>
  rcases hrel with ⟨rfl, rfl⟩ | ⟨rfl, HO⟩
  ·go_wp2_with fail
   refine (show Cz 155 _ _ _ from HI.out).mono ?_
   rintro e w2 ⟨rfl, g2⟩
   clear HI hg
   go_wp2
   go_roundw
   case rel => exact .inr ⟨rfl, g2⟩
   case measure => simp [uOf]
  ·obtain ⟨w1, rfl⟩ : ∃ w1, w1 = wr := ⟨_, rfl⟩
   go_wp2
   go_end0
   exact ⟨rfl, HO⟩
theorem textV {T : TypeId} {y : Value} {t : ByteArray} (hp : PsV (.iface T y)) (hv : WvV (.iface T y) t) (h0 : 0 < t.size) (h1 : t.size ≤ 65536) (g : Nat) (w : World) (hT : Tx w) (hg : w.cell? ⟨g, 0, none⟩ = some (pV T y)) : Cz 143 #[.slice (some ⟨g, 0, none⟩) 1 1] w fun e w' => e = .returned (.tuple #[.string t, .int .i64 0]) ∧ Oz w w' := by
 have HS : Hid (Cz 149 #[.slice (some ⟨g, 0, none⟩) 1 1] w fun e w' => e = .returned (.bool true) ∧ Oz w w') := psoundsV hp w hT.1 g hg
 have HG : Hid (w.cell? ⟨g, 0, none⟩ = some (pV T y)) := hg
 have HTx : Hid (Tx w) := hT
 have HZ : Hid (0 < t.size ∧ t.size ≤ 65536) := ⟨h0, h1⟩
 clear hg hp hT h0 h1
 go_enter Tryz.func143, Tryz.ntmps143
 go_wp2_with fail
 refine (show Cz 149 _ _ _ from HS.out).mono ?_
 rintro e w1 ⟨rfl, o1⟩
 have O1 : Hid (Oz w w1) := o1
 obtain ⟨b, hb⟩ : ∃ b, b = w1.heap.size := ⟨_, rfl⟩
 obtain ⟨W2, hW2⟩ : ∃ W2, W2 = w1.alloc (.cells #[.pointer none, .slice none 0 0, .bool false] 237) := ⟨_, rfl⟩
 have A2 : WrU b b [] false W2 := ⟨Nat.le_refl _, .pointer none, .slice none 0 0, by rw [hW2]; exact va_at _ _ _ hb, .inl rfl, ⟨rfl, .inl ⟨rfl, rfl⟩⟩, by simp [Value.ownBlock]⟩
 have o2 : Oz w1 W2 := by rw [hW2]; exact (Only.refl _ w1).alloc _
 have HI : Hid (Cz 150 #[.pointer (some ⟨b, 0, none⟩), .slice (some ⟨g, 0, none⟩) 1 1] W2 fun e w' => e = .returned (.tuple #[]) ∧ Hid (WrU b b (strCells t) true w' ∧ Only (fun k => b ≤ k) W2 w')) := witemsV hv b b g W2 (HTx.out.frame (O1.out.trans o2 (fun _ _ g => g))) A2 (by rw [hW2]; simp; omega) ((O1.out.trans o2 (fun _ _ g => g)).cell HG.out (fun h => h))
 have H2 : Hid (Oz w W2 ∧ w.heap.size ≤ b) := ⟨O1.out.trans o2 (fun _ _ g => g), by rw [hb]; exact O1.out.size⟩
 clear HS o1 A2 o2 O1 HG
 go_wp2_with fail
 rw [← hb, ← hW2]
 refine (show Cz 150 _ _ _ from HI.out).mono ?_
 rintro e w3 ⟨rfl, g3⟩
 have HW : Hid (Cz 151 #[.pointer (some ⟨b, 0, none⟩)] w3 fun e w' => e = .returned (.tuple #[.string t, .int .i64 0]) ∧ Below b w3 w') := by
  have hne : t.data.toList ≠ [] := fun e => by
   have h4 : t.data.toList.length = 0 := by rw [e]; rfl
   rw [Array.length_toList] at h4
   have h2 : t.data.size = t.size := rfl
   have h3 := HZ.out.1
   omega
  have := wwhole_any b b t.data.toList true w3 (by rw [byteCells_str]; exact g3.out.1) hne (by rw [Array.length_toList]; exact HZ.out.2)
  rwa [show (⟨t.data.toList.toArray⟩ : ByteArray) = t from rfl] at this
 have O3 : Hid (Oz w w3) := H2.out.1.trans g3.out.2 (fun k hk e => by have := H2.out.2; omega)
 clear HI g3 hW2 hb
 go_wp2_with fail
 refine (show Cz 151 _ _ _ from HW.out).mono ?_
 rintro e w4 ⟨rfl, b4⟩
 have O4 : Hid (Oz w w4) := O3.out.trans (⟨b4.os, b4.tape, b4.output, b4.size, fun k hk hn => b4.block k (by omega)⟩ : Only (fun k => b ≤ k) w3 w4) (fun k hk e => by have := H2.out.2; omega)
 clear HW b4 O3
 go_wp2
 go_ret2
 exact ⟨rfl, O4.out⟩
theorem wordV {T : TypeId} {y : Value} {t : ByteArray} (hp : PsV (.iface T y)) (hv : WvV (.iface T y) t) (h0 : 0 < t.size) (h1 : t.size ≤ 65536) (w : World) (hT : Tx w) : Cz 119 #[pV T y] w fun e w' => e = .returned (.string t) ∧ Oz w w' := by
 have HV : Hid (∀ w1 g, Oz w w1 → w1.cell? ⟨g, 0, none⟩ = some (pV T y) → Cz 143 #[.slice (some ⟨g, 0, none⟩) 1 1] w1 fun e w' => e = .returned (.tuple #[.string t, .int .i64 0]) ∧ Oz w1 w') := fun w1 g o => textV hp hv h0 h1 g w1 (hT.frame o)
 clear hp hv h0 h1 hT
 unfold pV at HV ⊢
 go_enter Tryz.func119, Tryz.ntmps119
 go_wp2_with fail
 have hc : (w.alloc (.cells #[pV T y] 97)).cell? ⟨w.heap.size, 0, none⟩ = some (pV T y) := (wr_cell (va_at w (.cells #[pV T y] 97) _ rfl) 0).trans rfl
 refine (show Cz 143 _ _ _ from HV.out _ _ ((Only.refl _ w).alloc _) hc).mono ?_
 rintro e w1 ⟨rfl, o1⟩
 have O1 : Hid (Oz w w1) := ((Only.refl (fun _ => False) w).alloc _).trans o1 (fun _ _ g => g)
 clear HV o1 hc
 go_wp2
 go_ret
 exact ⟨rfl, O1.out⟩
theorem wordC (s : ByteArray) (hs : clB s = true) (w : World) (hN : Nog w) : Cz 119 #[cV s] w fun e w' => e = .returned (.string s) ∧ Oz w w' := by
 have HV : Hid (∀ w1 g, Oz w w1 → w1.cell? ⟨g, 0, none⟩ = some (cV s) → Cz 143 #[.slice (some ⟨g, 0, none⟩) 1 1] w1 fun e w' => e = .returned (.tuple #[.string s, .int .i64 0]) ∧ Oz w1 w') := fun w1 g o hg => by
  have := textC s g w1 hg ⟨o.cell hN.1 (fun h => h), o.cell hN.2.1 (fun h => h), o.cell hN.2.2 (fun h => h)⟩
  rw [hs] at this
  exact this
 clear hs hN
 unfold cV at HV ⊢
 go_enter Tryz.func119, Tryz.ntmps119
 go_wp2_with fail
 have hc : (w.alloc (.cells #[cV s] 97)).cell? ⟨w.heap.size, 0, none⟩ = some (cV s) := (wr_cell (va_at w (.cells #[cV s] 97) _ rfl) 0).trans rfl
 refine (show Cz 143 _ _ _ from HV.out _ _ ((Only.refl _ w).alloc _) hc).mono ?_
 rintro e w1 ⟨rfl, o1⟩
 have O1 : Hid (Oz w w1) := ((Only.refl (fun _ => False) w).alloc _).trans o1 (fun _ _ g => g)
 clear HV o1 hc
 go_wp2
 go_ret
 exact ⟨rfl, O1.out⟩
end Go.Proofs.YtenjollhlgjjdaaGreatDoor
