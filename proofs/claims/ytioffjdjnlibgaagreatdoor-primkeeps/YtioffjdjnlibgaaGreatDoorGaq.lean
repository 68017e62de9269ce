/- What the calls of cell and of the document's answer give: numbers, addresses, flags, kinds. What comes of two numbers: the program's ways. Words that reckon with numbers. A word that reckons. A word that reckons. A word that reckons. A word that reckons. A word that reckons. A word that reckons. A word that reckons. -/
import Derived.Test.YtioffjdjnlibgaaGreatDoorRows
import Derived.Laws.BitsLemmas
import Derived.WalkKit
import Derived.WalkSpells
import Derived.WalkLawsBesides
import Derived.Test.YtioffjdjnlibgaaGreatDoorGap
import Derived.Deep.RegionHeld3
namespace Go.Proofs.YtioffjdjnlibgaaGreatDoor
open Go.RowKit
set_option linter.unusedSimpArgs false
set_option linter.unusedVariables false

/-- May a number be one? -/
def cfit (n : Int) : Bool := decide (-1152921504606846976 ≤ n ∧ n ≤ 1152921504606846975)
theorem cfit_true {n : Int} (h : cfit n = true) : -1152921504606846976 ≤ n ∧ n ≤ 1152921504606846975 := of_decide_eq_true h
theorem cfit_false {n : Int} (h : cfit n = false) : ¬ (-1152921504606846976 ≤ n ∧ n ≤ 1152921504606846975) := of_decide_eq_false h
/-- A word as a number with its sign. -/
def cwd (c : Int) : Int := if c < 9223372036854775808 then c else c - 18446744073709551616
/-- What a cell is. -/
def ckindN (c : Int) : Int := if c % 4 = 0 then (if cfit (cwd c / 4) then 1 else 0) else if c % 4 = 1 then 2 else if c = 2 ∨ c = 6 then 3 else 0
/-- A word that goes by 64 bits. -/
def cU (c : Int) : Prop := 0 ≤ c ∧ c < 18446744073709551616
theorem cr_u64 {z : Int} (h : (Lit.int .u64 z).wf = true) : cU z := by
  have h' : IntKind.u64.min ≤ z ∧ z ≤ IntKind.u64.max := by simpa [Lit.wf] using h
  have h2 : 0 ≤ z ∧ z ≤ 18446744073709551615 := h'
  exact ⟨h2.1, by omega⟩
theorem cr_i64 {z : Int} (h : (Lit.int .i64 z).wf = true) : -9223372036854775808 ≤ z ∧ z ≤ 9223372036854775807 := by
  have h' : IntKind.i64.min ≤ z ∧ z ≤ IntKind.i64.max := by simpa [Lit.wf] using h
  exact h'
theorem cr_u8 {z : Int} (h : (Lit.int .u8 z).wf = true) : 0 ≤ z ∧ z < 256 := by
  have h' : IntKind.u8.min ≤ z ∧ z ≤ IntKind.u8.max := by simpa [Lit.wf] using h
  have h2 : 0 ≤ z ∧ z ≤ 255 := h'
  omega
theorem cwrap_wd {c : Int} (h : cU c) : wrap64 c = cwd c := by
  obtain ⟨h1, h2⟩ := h
  unfold cwd wrap64
  split <;> omega
theorem cwrap_in {n : Int} (h : -9223372036854775808 ≤ n ∧ n ≤ 9223372036854775807) : wrap64 n = n := by unfold wrap64; omega
theorem cwd_range {c : Int} (h : cU c) : -9223372036854775808 ≤ cwd c ∧ cwd c ≤ 9223372036854775807 := by
  obtain ⟨h1, h2⟩ := h
  unfold cwd; split <;> omega
theorem cand3 {c : Int} (h : cU c) : bits .and .u64 c 3 = c % 4 := by
  obtain ⟨h1, h2⟩ := h
  obtain ⟨n, rfl⟩ := Int.eq_ofNat_of_zero_le h1
  have e1 : n % 2 ^ IntKind.u64.bits = n := Nat.mod_eq_of_lt (by simpa [IntKind.bits] using (show n < 18446744073709551616 by omega))
  have e2 : (3 : Int) = ((3 : Nat) : Int) := rfl
  have e3 : 3 % 2 ^ IntKind.u64.bits = 3 := rfl
  rw [e2]
  simp only [bits, BitVec.ofInt_natCast, BitVec.toNat_and, BitVec.toNat_ofNat, e1, e3]
  rw [IntKind.wrap_u64, show n &&& 3 = n % 4 from Nat.and_two_pow_sub_one_eq_mod n 2]
  omega
theorem cor0 {c : Int} (h : cU c) : bits .or .u64 c 0 = c := by
  obtain ⟨h1, h2⟩ := h
  obtain ⟨n, rfl⟩ := Int.eq_ofNat_of_zero_le h1
  have e1 : n % 2 ^ IntKind.u64.bits = n := Nat.mod_eq_of_lt (by simpa [IntKind.bits] using (show n < 18446744073709551616 by omega))
  have e2 : (0 : Int) = ((0 : Nat) : Int) := rfl
  have e3 : 0 % 2 ^ IntKind.u64.bits = 0 := rfl
  rw [e2]
  simp only [bits, BitVec.ofInt_natCast, BitVec.toNat_or, BitVec.toNat_ofNat, e1, e3]
  rw [IntKind.wrap_u64, Nat.or_zero]
  omega
theorem cor1 {c : Int} (h : 0 ≤ c ∧ c < 4611686018427387904) : bits .or .u64 (c * 4) 1 = c * 4 + 1 := by
  obtain ⟨h1, h2⟩ := h
  obtain ⟨n, rfl⟩ := Int.eq_ofNat_of_zero_le h1
  have e1 : (n * 4) % 2 ^ IntKind.u64.bits = n * 4 := Nat.mod_eq_of_lt (by simpa [IntKind.bits] using (show n * 4 < 18446744073709551616 by omega))
  have e2 : (1 : Int) = ((1 : Nat) : Int) := rfl
  have e3 : 1 % 2 ^ IntKind.u64.bits = 1 := rfl
  have e4 : (n : Int) * 4 = ((n * 4 : Nat) : Int) := by omega
  rw [e2, e4]
  simp only [bits, BitVec.ofInt_natCast, BitVec.toNat_or, BitVec.toNat_ofNat, e1, e3]
  have e5 : n * 4 ||| 1 = n * 4 + 1 := by
    have := Nat.two_pow_add_eq_or_of_lt (i := 2) (b := 1) (by omega) n
    rw [show 2 ^ 2 * n = n * 4 by omega] at this
    exact this.symm
  rw [IntKind.wrap_u64, e5]
  omega

theorem cfits_any (n : Int) (w : World) : Calls Tryz.prog 72 #[.int .i64 n] w fun e w' => e = .returned (.bool (cfit n)) ∧ w' = w := by
  by_cases h1 : -1152921504606846976 ≤ n
  · by_cases h2 : n ≤ 1152921504606846975
    · rw [show cfit n = true from decide_eq_true ⟨h1, h2⟩]
      go_enter Tryz.func72, Tryz.ntmps72
      go_wp2
      go_ret
      exact ⟨rfl, rfl⟩
    · rw [show cfit n = false from decide_eq_false (by omega)]
      go_enter Tryz.func72, Tryz.ntmps72
      go_wp2
      go_ret
      exact ⟨rfl, rfl⟩
  · rw [show cfit n = false from decide_eq_false (by omega)]
    go_enter Tryz.func72, Tryz.ntmps72
    go_wp2
    go_ret
    exact ⟨rfl, rfl⟩
end Go.Proofs.YtioffjdjnlibgaaGreatDoor
namespace Go.Proofs.YtioffjdjnlibgaaGreatDoor
open Go.RowKit
set_option linter.unusedSimpArgs false
set_option linter.unusedVariables false

/-- Does a number go by 64 bits with a sign? -/
def cinr (n : Int) : Bool := decide (-9223372036854775808 ≤ n ∧ n ≤ 9223372036854775807)
theorem tdiv_abs (n b : Int) : n - (n.tdiv b) * b = n.tmod b := by
  have := Int.tmod_add_tdiv_mul n b; omega
theorem tmod_small (n b : Int) (hb : b ≠ 0) : (n.tmod b).natAbs < b.natAbs := by
  rw [Int.natAbs_tmod]
  exact Nat.mod_lt _ (by omega)
/-- The quotient of a product that wraps round is not the factor. -/
theorem times_wraps {a b : Int} (ha : cfit a = true) (hb : cfit b = true) (h0 : b ≠ 0) (h : cinr (a * b) = false) : (wrap64 ((wrap64 (a * b)).tdiv b) == a) = false := by
  have ha := cfit_true ha
  have hb := cfit_true hb
  have h := of_decide_eq_false h
  rw [beq_eq_false_iff_ne]
  intro he
  generalize hp : a * b = p at *
  have hn : ∃ k : Int, wrap64 p = p + k * 18446744073709551616 ∧ k ≠ 0 := by
    refine ⟨-((p + 9223372036854775808) / 18446744073709551616), ?_, ?_⟩
    · unfold wrap64; omega
    · omega
  obtain ⟨k, hk, hk0⟩ := hn
  have hr : -9223372036854775808 ≤ wrap64 p ∧ wrap64 p ≤ 9223372036854775807 := by unfold wrap64; omega
  generalize wrap64 p = n at *
  have hq := tdiv_abs n b
  have hs := tmod_small n b h0
  have hnq : (n.tdiv b).natAbs ≤ n.natAbs := by rw [Int.natAbs_tdiv]; exact Nat.div_le_self _ _
  generalize n.tmod b = r at *
  generalize n.tdiv b = q at *
  have : q = a := by
    unfold wrap64 at he
    omega
  subst this
  omega
theorem times_goes {a b : Int} (ha : cfit a = true) (h0 : b ≠ 0) (h : cinr (a * b) = true) : (wrap64 ((wrap64 (a * b)).tdiv b) == a) = true := by
  have ha := cfit_true ha
  have h := of_decide_eq_true h
  rw [cwrap_in h, Int.mul_tdiv_cancel _ h0, cwrap_in (by omega), beq_self_eq_true]

theorem ctimes_any (a b : Int) (w : World) (ha : cfit a = true) (hb : cfit b = true) :
    Calls Tryz.prog 96 #[.int .i64 a, .int .i64 b] w fun e w' => e = .returned (if cinr (a * b) then .tuple #[.int .i64 (a * b), .int .i64 0] else .tuple #[.int .i64 0, .int .i64 18]) ∧ w' = w := by
  by_cases h0 : b = 0
  · subst h0
    rw [show a * 0 = 0 by omega, show cinr 0 = true from rfl, if_pos rfl]
    have hz : wrap64 0 = 0 := cwrap_in (by omega)
    clear ha hb
    go_enter Tryz.func96, Tryz.ntmps96
    go_wp2
    go_ret2
    exact ⟨rfl, rfl⟩
  · have hz : (b != 0) = true := by simpa using h0
    cases h : cinr (a * b)
    · have hx : (wrap64 ((wrap64 (a * b)).tdiv b) != a) = true := by rw [bne, times_wraps ha hb h0 h]; rfl
      rw [if_neg (by decide)]
      clear ha hb h
      go_enter Tryz.func96, Tryz.ntmps96
      go_wp2
      go_ret2
      exact ⟨rfl, rfl⟩
    · have hw : wrap64 a = a := by have := cfit_true ha; exact cwrap_in (by omega)
      have hy := cwrap_in (of_decide_eq_true h)
      rw [if_pos rfl]
      clear ha hb h
      go_enter Tryz.func96, Tryz.ntmps96
      go_wp2
      go_ret2
      exact ⟨congrArg (fun x => Ending.returned (.tuple #[.int .i64 x, .int .i64 0])) hy, rfl⟩
/-- What comes of two numbers, without a bound. -/
def copN (op a b : Int) : Int := if op = 43 then a + b else if op = 45 then a - b else if op = 42 then a * b else if op = 47 then a.tdiv b else a.tmod b
/-- Is it one of the five? -/
def cisOp (op : Int) : Bool := decide (op = 43 ∨ op = 45 ∨ op = 42 ∨ op = 47 ∨ op = 37)
/-- The error. -/
def arE (op a b : Int) : Int := if cisOp op && cfit a && cfit b then (if (op = 47 ∨ op = 37) ∧ b = 0 then 19 else if cfit (copN op a b) then 0 else 18) else 2
/-- The answer. -/
def arN (op a b : Int) : Int := if arE op a b = 0 then copN op a b else 0
theorem tdiv_fits {a b : Int} (ha : cfit a = true) : -1152921504606846976 ≤ a.tdiv b ∧ a.tdiv b ≤ 1152921504606846976 := by
  have ha := cfit_true ha
  have hq : (a.tdiv b).natAbs ≤ a.natAbs := by rw [Int.natAbs_tdiv]; exact Nat.div_le_self _ _
  omega
theorem tmod_fits {a b : Int} (ha : cfit a = true) : cfit (a.tmod b) = true := by
  have ha := cfit_true ha
  have hq : (a.tmod b).natAbs ≤ a.natAbs := by rw [Int.natAbs_tmod]; exact Nat.mod_le _ _
  refine decide_eq_true ⟨by omega, ?_⟩
  by_cases h : 0 ≤ a
  · omega
  · have e : a.tmod b = -((-a).tmod b) := by rw [Int.neg_tmod]; omega
    have := Int.tmod_nonneg (a := -a) b (by omega)
    omega
theorem cdivide_any (op a b : Int) (w : World) (ho : op = 47 ∨ op = 37) (ha : cfit a = true) (hb : cfit b = true) :
    Calls Tryz.prog 97 #[.int .u8 op, .int .i64 a, .int .i64 b] w fun e w' => e = .returned (if b = 0 then .tuple #[.int .i64 0, .int .i64 19] else .tuple #[.int .i64 (copN op a b), .int .i64 0]) ∧ w' = w := by
  by_cases h0 : b = 0
  · subst h0
    rw [if_pos rfl]
    go_enter Tryz.func97, Tryz.ntmps97
    go_wp2
    go_ret2
    exact ⟨rfl, rfl⟩
  · rw [if_neg h0]
    have hz : (b == 0) = false := by simpa using h0
    have hq := cwrap_in (n := a.tdiv b) (by have := tdiv_fits (b := b) ha; omega)
    have hr := cwrap_in (n := a.tmod b) (by have := cfit_true (tmod_fits (b := b) ha); omega)
    rcases ho with rfl | rfl
    · rw [show copN 47 a b = a.tdiv b from rfl]
      clear ha hb
      go_enter Tryz.func97, Tryz.ntmps97
      go_wp2
      go_ret2
      exact ⟨congrArg (fun x => Ending.returned (.tuple #[.int .i64 x, .int .i64 0])) hq, rfl⟩
    · rw [show copN 37 a b = a.tmod b from rfl]
      clear ha hb
      go_enter Tryz.func97, Tryz.ntmps97
      go_wp2
      go_ret2
      exact ⟨rfl, rfl⟩
/-- What reckon answers. -/
def rkE (op a b : Int) : Int := if cisOp op then (if (op = 47 ∨ op = 37) ∧ b = 0 then 19 else if op = 42 ∧ cinr (a * b) = false then 18 else 0) else 2
theorem reckon_any (op a b : Int) (w : World) (ho : 0 ≤ op ∧ op < 256) (ha : cfit a = true) (hb : cfit b = true) :
    Calls Tryz.prog 73 #[.int .u8 op, .int .i64 a, .int .i64 b] w fun e w' => e = .returned (.tuple #[.int .i64 (if rkE op a b = 0 then copN op a b else 0), .int .i64 (rkE op a b)]) ∧ w' = w := by
  have ha' := cfit_true ha
  have hb' := cfit_true hb
  cases hi : cisOp op
  · have h1 : (op == 43) = false := by have := of_decide_eq_false hi; simp; omega
    have h2 : (op == 45) = false := by have := of_decide_eq_false hi; simp; omega
    have h3 : (op == 42) = false := by have := of_decide_eq_false hi; simp; omega
    have h4 : (op == 47) = false := by have := of_decide_eq_false hi; simp; omega
    have h5 : (op == 37) = false := by have := of_decide_eq_false hi; simp; omega
    rw [show rkE op a b = 2 by unfold rkE; rw [hi]; rfl, if_neg (by decide)]
    clear hi
    go_enter Tryz.func73, Tryz.ntmps73
    go_wp2
    go_ret2
    exact ⟨rfl, rfl⟩
  · rcases (of_decide_eq_true hi) with rfl | rfl | rfl | rfl | rfl
    · have hw := cwrap_in (n := a + b) (by omega)
      rw [show rkE 43 a b = 0 by rfl, if_pos rfl, show copN 43 a b = a + b from rfl]
      clear ha hb hi
      go_enter Tryz.func73, Tryz.ntmps73
      go_wp2
      go_ret2
      exact ⟨rfl, rfl⟩
    · have hw := cwrap_in (n := a - b) (by omega)
      rw [show rkE 45 a b = 0 by rfl, if_pos rfl, show copN 45 a b = a - b from rfl]
      clear ha hb hi
      go_enter Tryz.func73, Tryz.ntmps73
      go_wp2
      go_ret2
      exact ⟨rfl, rfl⟩
    · have ht := ctimes_any a b w ha hb
      rw [show (if cinr (a * b) then Value.tuple #[.int .i64 (a * b), .int .i64 0] else .tuple #[.int .i64 0, .int .i64 18]) = .tuple #[.int .i64 (if rkE 42 a b = 0 then copN 42 a b else 0), .int .i64 (rkE 42 a b)] by
        cases h : cinr (a * b)
        · rw [show rkE 42 a b = 18 by unfold rkE; rw [h]; rfl]; rfl
        · rw [show rkE 42 a b = 0 by unfold rkE; rw [h]; rfl]; rfl] at ht
      generalize rkE 42 a b = x at *
      generalize (if x = 0 then copN 42 a b else 0) = y at *
      clear ha hb hi
      go_enter Tryz.func73, Tryz.ntmps73
      go_wp2_with fail
      refine ht.mono ?_
      rintro e w1 ⟨rfl, rfl⟩
      go_wp2
      go_ret2
      exact ⟨rfl, rfl⟩
    · have ht := cdivide_any 47 a b w (.inl rfl) ha hb
      rw [show (if b = 0 then Value.tuple #[.int .i64 0, .int .i64 19] else .tuple #[.int .i64 (copN 47 a b), .int .i64 0]) = .tuple #[.int .i64 (if rkE 47 a b = 0 then copN 47 a b else 0), .int .i64 (rkE 47 a b)] by
        by_cases h : b = 0
        · rw [show rkE 47 a b = 19 by unfold rkE; simp [h, cisOp]]; simp [h]
        · rw [show rkE 47 a b = 0 by unfold rkE; simp [h, cisOp]]; simp [h]] at ht
      generalize rkE 47 a b = x at *
      generalize (if x = 0 then copN 47 a b else 0) = y at *
      clear ha hb hi
      go_enter Tryz.func73, Tryz.ntmps73
      go_wp2_with fail
      refine ht.mono ?_
      rintro e w1 ⟨rfl, rfl⟩
      go_wp2
      go_ret2
      exact ⟨rfl, rfl⟩
    · have ht := cdivide_any 37 a b w (.inr rfl) ha hb
      rw [show (if b = 0 then Value.tuple #[.int .i64 0, .int .i64 19] else .tuple #[.int .i64 (copN 37 a b), .int .i64 0]) = .tuple #[.int .i64 (if rkE 37 a b = 0 then copN 37 a b else 0), .int .i64 (rkE 37 a b)] by
        by_cases h : b = 0
        · rw [show rkE 37 a b = 19 by unfold rkE; simp [h, cisOp]]; simp [h]
        · rw [show rkE 37 a b = 0 by unfold rkE; simp [h, cisOp]]; simp [h]] at ht
      generalize rkE 37 a b = x at *
      generalize (if x = 0 then copN 37 a b else 0) = y at *
      clear ha hb hi
      go_enter Tryz.func73, Tryz.ntmps73
      go_wp2_with fail
      refine ht.mono ?_
      rintro e w1 ⟨rfl, rfl⟩
      go_wp2
      go_ret2
      exact ⟨rfl, rfl⟩
theorem ar_bad {op a b : Int} (h : cfit a = false ∨ cfit b = false) : arE op a b = 2 ∧ arN op a b = 0 := by
  have : arE op a b = 2 := by
    unfold arE
    rw [if_neg (by rcases h with h | h <;> simp [h])]
  exact ⟨this, by unfold arN; rw [this]; rfl⟩
theorem ar_rk {op a b : Int} (ha : cfit a = true) (hb : cfit b = true) : arE op a b = if rkE op a b = 0 then (if cfit (copN op a b) then 0 else 18) else rkE op a b := by
  unfold arE rkE
  cases hi : cisOp op
  · simp
  · simp only [ha, hb, Bool.and_self, if_true]
    by_cases h : (op = 47 ∨ op = 37) ∧ b = 0
    · simp [h]
    · rw [if_neg h, if_neg h]
      by_cases h2 : op = 42 ∧ cinr (a * b) = false
      · rw [if_pos h2]
        obtain ⟨rfl, h3⟩ := h2
        rw [show copN 42 a b = a * b from rfl, if_neg]
        · rfl
        intro h4
        have := cfit_true h4
        have := of_decide_eq_false h3
        omega
      · rw [if_neg h2]; rfl
theorem arith_any (op a b : Int) (w : World) (ho : 0 ≤ op ∧ op < 256) :
    Calls Tryz.prog 53 #[.int .u8 op, .int .i64 a, .int .i64 b] w fun e w' => e = .returned (.tuple #[.int .i64 (arN op a b), .int .i64 (arE op a b)]) ∧ w' = w := by
  have h1 := cfits_any a w
  have h2 := cfits_any b w
  cases ha : cfit a
  · obtain ⟨e1, e2⟩ := ar_bad (op := op) (a := a) (b := b) (.inl ha)
    rw [e1, e2]
    rw [ha] at h1
    clear ha e1 e2
    go_enter Tryz.func53, Tryz.ntmps53
    go_wp2_with fail
    refine h1.mono ?_
    rintro e w1 ⟨rfl, rfl⟩
    go_wp2
    go_ret2
    exact ⟨rfl, rfl⟩
  · cases hb : cfit b
    · obtain ⟨e1, e2⟩ := ar_bad (op := op) (a := a) (b := b) (.inr hb)
      rw [e1, e2]
      rw [ha] at h1
      rw [hb] at h2
      clear ha hb e1 e2
      go_enter Tryz.func53, Tryz.ntmps53
      go_wp2_with fail
      refine h1.mono ?_
      rintro e w1 ⟨rfl, rfl⟩
      go_wp2_with fail
      refine h2.mono ?_
      rintro e w1 ⟨rfl, rfl⟩
      go_wp2
      go_ret2
      exact ⟨rfl, rfl⟩
    · have h3 := reckon_any op a b w ho ha hb
      have he := ar_rk (op := op) ha hb
      rw [ha] at h1
      rw [hb] at h2
      by_cases hk : rkE op a b = 0
      · rw [if_pos hk] at he
        rw [hk, if_pos rfl] at h3
        unfold arN
        rw [he]
        have h4 := cfits_any (copN op a b) w
        clear he ha hb hk
        generalize copN op a b = x at *
        cases hx : cfit x
        · rw [hx] at h4
          rw [show (if (if false = true then (0 : Int) else 18) = 0 then x else 0) = 0 from rfl, show (if false = true then (0 : Int) else 18) = 18 from rfl]
          clear hx
          go_enter Tryz.func53, Tryz.ntmps53
          go_wp2_with fail
          refine h1.mono ?_
          rintro e w1 ⟨rfl, rfl⟩
          go_wp2_with fail
          refine h2.mono ?_
          rintro e w1 ⟨rfl, rfl⟩
          go_wp2_with fail
          refine h3.mono ?_
          rintro e w1 ⟨rfl, rfl⟩
          go_wp2_with fail
          refine h4.mono ?_
          rintro e w1 ⟨rfl, rfl⟩
          go_wp2
          go_ret2
          exact ⟨rfl, rfl⟩
        · rw [hx] at h4
          rw [show (if (if true = true then (0 : Int) else 18) = 0 then x else 0) = x from rfl, show (if true = true then (0 : Int) else 18) = 0 from rfl]
          clear hx
          go_enter Tryz.func53, Tryz.ntmps53
          go_wp2_with fail
          refine h1.mono ?_
          rintro e w1 ⟨rfl, rfl⟩
          go_wp2_with fail
          refine h2.mono ?_
          rintro e w1 ⟨rfl, rfl⟩
          go_wp2_with fail
          refine h3.mono ?_
          rintro e w1 ⟨rfl, rfl⟩
          go_wp2_with fail
          refine h4.mono ?_
          rintro e w1 ⟨rfl, rfl⟩
          go_wp2
          go_ret2
          exact ⟨rfl, rfl⟩
      · rw [if_neg hk] at he
        rw [if_neg hk] at h3
        unfold arN
        rw [he, if_neg hk]
        clear he ha hb
        generalize rkE op a b = x at *
        have hx : (x != 0) = true := by simpa using hk
        clear hk
        go_enter Tryz.func53, Tryz.ntmps53
        go_wp2_with fail
        refine h1.mono ?_
        rintro e w1 ⟨rfl, rfl⟩
        go_wp2_with fail
        refine h2.mono ?_
        rintro e w1 ⟨rfl, rfl⟩
        go_wp2_with fail
        refine h3.mono ?_
        rintro e w1 ⟨rfl, rfl⟩
        go_wp2
        go_ret2
        exact ⟨rfl, rfl⟩
end Go.Proofs.YtioffjdjnlibgaaGreatDoor
namespace Go.Proofs.YtioffjdjnlibgaaGreatDoor
open Go.RowKit Go.Lib
set_option linter.unusedSimpArgs false
set_option linter.unusedVariables false
/-- what reckoned answers of numbers that fit -/
def RkC (name : ByteArray) (rk : Int → Int → Int × Int) : Prop := ∀ (n m : Int) (w : World), cfit n = true → cfit m = true → Calls Tryz.prog 36 #[.string name, .int .i64 n, .int .i64 m] w fun e w' => e = .returned (.tuple #[.int .i64 (rk n m).1, .int .i64 (rk n m).2]) ∧ w' = w
def arK (op n m : Int) : Int × Int := (arN op n m, arE op n m)
def ngK (n _ : Int) : Int × Int := (arN 45 0 n, arE 45 0 n)
def abK (n _ : Int) : Int × Int := if n < 0 then (arN 45 0 n, arE 45 0 n) else (n, 0)
def miK (n m : Int) : Int × Int := (min n m, 0)
def maK (n m : Int) : Int × Int := (max n m, 0)
set_option maxRecDepth 100000 in
theorem rk_add : RkC ⟨#[43]⟩ (arK 43) := by
  intro n m w hn hm
  have HR : Hid _ := arith_any 43 n m w (by omega)
  obtain ⟨x, hx⟩ : ∃ x, x = arN 43 n m := ⟨_, rfl⟩
  obtain ⟨y, hy⟩ : ∃ y, y = arE 43 n m := ⟨_, rfl⟩
  unfold arK
  dsimp only
  rw [← hx, ← hy] at HR ⊢
  clear hx hy hn hm
  go_enter Tryz.func36, Tryz.ntmps36
  go_wp2_with fail
  refine (show Calls Tryz.prog 53 _ _ _ from HR.out).mono ?_
  rintro e w1 ⟨rfl, hw⟩
  obtain rfl := hw.symm
  go_wp2
  go_ret2
  exact ⟨rfl, rfl⟩
set_option maxRecDepth 100000 in
theorem rk_sub : RkC ⟨#[45]⟩ (arK 45) := by
  intro n m w hn hm
  have HR : Hid _ := arith_any 45 n m w (by omega)
  obtain ⟨x, hx⟩ : ∃ x, x = arN 45 n m := ⟨_, rfl⟩
  obtain ⟨y, hy⟩ : ∃ y, y = arE 45 n m := ⟨_, rfl⟩
  unfold arK
  dsimp only
  rw [← hx, ← hy] at HR ⊢
  clear hx hy hn hm
  go_enter Tryz.func36, Tryz.ntmps36
  go_wp2_with fail
  refine (show Calls Tryz.prog 53 _ _ _ from HR.out).mono ?_
  rintro e w1 ⟨rfl, hw⟩
  obtain rfl := hw.symm
  go_wp2
  go_ret2
  exact ⟨rfl, rfl⟩
set_option maxRecDepth 100000 in
theorem rk_mul : RkC ⟨#[42]⟩ (arK 42) := by
  intro n m w hn hm
  have HR : Hid _ := arith_any 42 n m w (by omega)
  obtain ⟨x, hx⟩ : ∃ x, x = arN 42 n m := ⟨_, rfl⟩
  obtain ⟨y, hy⟩ : ∃ y, y = arE 42 n m := ⟨_, rfl⟩
  unfold arK
  dsimp only
  rw [← hx, ← hy] at HR ⊢
  clear hx hy hn hm
  go_enter Tryz.func36, Tryz.ntmps36
  go_wp2_with fail
  refine (show Calls Tryz.prog 53 _ _ _ from HR.out).mono ?_
  rintro e w1 ⟨rfl, hw⟩
  obtain rfl := hw.symm
  go_wp2
  go_ret2
  exact ⟨rfl, rfl⟩
set_option maxRecDepth 100000 in
theorem rk_div : RkC ⟨#[47]⟩ (arK 47) := by
  intro n m w hn hm
  have HR : Hid _ := arith_any 47 n m w (by omega)
  obtain ⟨x, hx⟩ : ∃ x, x = arN 47 n m := ⟨_, rfl⟩
  obtain ⟨y, hy⟩ : ∃ y, y = arE 47 n m := ⟨_, rfl⟩
  unfold arK
  dsimp only
  rw [← hx, ← hy] at HR ⊢
  clear hx hy hn hm
  go_enter Tryz.func36, Tryz.ntmps36
  go_wp2_with fail
  refine (show Calls Tryz.prog 53 _ _ _ from HR.out).mono ?_
  rintro e w1 ⟨rfl, hw⟩
  obtain rfl := hw.symm
  go_wp2
  go_ret2
  exact ⟨rfl, rfl⟩
set_option maxRecDepth 100000 in
theorem rk_mod : RkC ⟨#[109, 111, 100]⟩ (arK 37) := by
  intro n m w hn hm
  have HR : Hid _ := arith_any 37 n m w (by omega)
  obtain ⟨x, hx⟩ : ∃ x, x = arN 37 n m := ⟨_, rfl⟩
  obtain ⟨y, hy⟩ : ∃ y, y = arE 37 n m := ⟨_, rfl⟩
  unfold arK
  dsimp only
  rw [← hx, ← hy] at HR ⊢
  clear hx hy hn hm
  go_enter Tryz.func36, Tryz.ntmps36
  go_wp2_with fail
  refine (show Calls Tryz.prog 53 _ _ _ from HR.out).mono ?_
  rintro e w1 ⟨rfl, hw⟩
  obtain rfl := hw.symm
  go_wp2
  go_ret2
  exact ⟨rfl, rfl⟩
set_option maxRecDepth 100000 in
theorem rk_neg : RkC ⟨#[110, 101, 103]⟩ ngK := by
  intro n m w hn hm
  have HR : Hid _ := arith_any 45 0 n w (by omega)
  obtain ⟨x, hx⟩ : ∃ x, x = arN 45 0 n := ⟨_, rfl⟩
  obtain ⟨y, hy⟩ : ∃ y, y = arE 45 0 n := ⟨_, rfl⟩
  unfold ngK
  dsimp only
  rw [← hx, ← hy] at HR ⊢
  clear hx hy hn hm
  go_enter Tryz.func36, Tryz.ntmps36
  go_wp2_with fail
  refine (show Calls Tryz.prog 53 _ _ _ from HR.out).mono ?_
  rintro e w1 ⟨rfl, hw⟩
  obtain rfl := hw.symm
  go_wp2
  go_ret2
  exact ⟨rfl, rfl⟩
set_option maxRecDepth 100000 in
theorem rk_abs : RkC ⟨#[97, 98, 115]⟩ abK := by
  intro n m w hn hm
  have HR : Hid _ := arith_any 45 0 n w (by omega)
  obtain ⟨x, hx⟩ : ∃ x, x = arN 45 0 n := ⟨_, rfl⟩
  obtain ⟨y, hy⟩ : ∃ y, y = arE 45 0 n := ⟨_, rfl⟩
  unfold abK
  rw [← hx, ← hy] at HR ⊢
  clear hx hy hn hm
  by_cases h : n < 0
  · rw [if_pos h]
    dsimp only
    go_enter Tryz.func36, Tryz.ntmps36
    go_wp2_with fail
    refine (show Calls Tryz.prog 53 _ _ _ from HR.out).mono ?_
    rintro e w1 ⟨rfl, hw⟩
    obtain rfl := hw.symm
    go_wp2
    go_ret2
    exact ⟨rfl, rfl⟩
  · rw [if_neg h]
    dsimp only
    go_enter Tryz.func36, Tryz.ntmps36
    go_wp2
    go_ret2
    exact ⟨rfl, rfl⟩
set_option maxRecDepth 100000 in
theorem rk_min : RkC ⟨#[109, 105, 110]⟩ miK := by
  intro n m w hn hm
  unfold miK
  dsimp only
  clear hn hm
  go_enter Tryz.func36, Tryz.ntmps36
  go_wp2
  go_ret2
  refine ⟨?_, rfl⟩
  first | rfl | (congr 3; simp only [Int.min_def, Int.max_def]; split <;> split <;> omega)
set_option maxRecDepth 100000 in
theorem rk_max : RkC ⟨#[109, 97, 120]⟩ maK := by
  intro n m w hn hm
  unfold maK
  dsimp only
  clear hn hm
  go_enter Tryz.func36, Tryz.ntmps36
  go_wp2
  go_ret2
  refine ⟨?_, rfl⟩
  first | rfl | (congr 3; simp only [Int.min_def, Int.max_def]; split <;> split <;> omega)
/-- what comes of numbers -/
def nmR (rk : Int → Int → Int × Int) (n m : Int) : Except Int Vt := if (rk n m).2 = 0 then .ok (inT (rk n m).1) else .error (rk n m).2
theorem sd_fit {d : Nat} {t : Vt} (h : sdB d t = true) (hk : t.k = 1) : cfit t.n = true := by
  cases d with
  | zero => unfold sdB msB at h; simp [okV] at h
  | succ d =>
    unfold sdB msB at h
    simp only [Bool.and_eq_true] at h
    have h1 := h.1.1
    simp only [okV] at h1
    rw [if_neg (by omega)] at h1
    unfold alB at h1
    rw [if_pos hk] at h1
    unfold cfit
    simpa using h1
theorem ar_b (op n m : Int) : -9223372036854775808 ≤ (arK op n m).1 ∧ (arK op n m).1 ≤ 9223372036854775807 := by
  show -9223372036854775808 ≤ arN op n m ∧ arN op n m ≤ 9223372036854775807
  unfold arN
  split
  · rename_i h
    unfold arE at h
    split at h
    · split at h
      · omega
      · split at h
        · rename_i h3
          have := cfit_true h3
          omega
        · omega
    · omega
  · omega
theorem ng_b (n m : Int) : -9223372036854775808 ≤ (ngK n m).1 ∧ (ngK n m).1 ≤ 9223372036854775807 := ar_b 45 0 n
theorem ab_b (n m : Int) (h : cfit n = true) : -9223372036854775808 ≤ (abK n m).1 ∧ (abK n m).1 ≤ 9223372036854775807 := by
  unfold abK
  split
  · exact ar_b 45 0 n
  · have := cfit_true h
    show -9223372036854775808 ≤ n ∧ n ≤ 9223372036854775807
    omega
theorem mi_b (n m : Int) (h : cfit n = true) (g : cfit m = true) : -9223372036854775808 ≤ (miK n m).1 ∧ (miK n m).1 ≤ 9223372036854775807 := by
  have := cfit_true h
  have := cfit_true g
  show -9223372036854775808 ≤ min n m ∧ min n m ≤ 9223372036854775807
  omega
theorem ma_b (n m : Int) (h : cfit n = true) (g : cfit m = true) : -9223372036854775808 ≤ (maK n m).1 ∧ (maK n m).1 ≤ 9223372036854775807 := by
  have := cfit_true h
  have := cfit_true g
  show -9223372036854775808 ≤ max n m ∧ max n m ≤ 9223372036854775807
  omega
end Go.Proofs.YtioffjdjnlibgaaGreatDoor
namespace Go.Proofs.YtioffjdjnlibgaaGreatDoor
open Go.RowKit Go.Lib
set_option linter.unusedSimpArgs false
set_option linter.unusedVariables false
set_option maxRecDepth 100000 in
set_option maxHeartbeats 4000000 in
theorem md_add : MdC ⟨#[43]⟩ [1, 1] (fun _ l => nmR (arK 43) (l.getD 0 zT).n (l.getD 1 zT).n) := by
  intro d l G q w S hl hS hlen hsm hsd hf hT
  have hb : ∀ n m, cfit n = true → cfit m = true → -9223372036854775808 ≤ (arK 43 n m).1 ∧ (arK 43 n m).1 ≤ 9223372036854775807 := fun n m _ _ => ar_b 43 n m
  obtain ⟨x, y, rfl, hk, hk2⟩ := fit2 hlen hf
  obtain ⟨g, k, u, ha, hg, hc, ht⟩ := hl 0 x rfl
  cases ha
  obtain ⟨g2, k2, u2, ha2, hg2, hc2, ht2⟩ := hl 1 y rfl
  cases ha2
  have hu := ti_1 ht (fb_1 hk)
  subst hu
  have hu2 := ti_1 ht2 (fb_1 hk2)
  subst hu2
  have hsd' : sdB d x = true ∧ sdB d y = true := by simpa using hsd
  have f1 := sd_fit hsd'.1 (fb_1 hk)
  have f2 := sd_fit hsd'.2 (fb_1 hk2)
  show Calls Tryz.prog 28 #[_, .slice (some ⟨G, q, none⟩) 2 2] w fun e w' => MdP (nmR (arK 43) x.n y.n) (d + 2) w e w'
  obtain ⟨n, hn⟩ : ∃ n, n = x.n := ⟨_, rfl⟩
  obtain ⟨m, hm⟩ : ∃ m, m = y.n := ⟨_, rfl⟩
  have HC : Hid (∀ W, Only (fun _ => False) w W → W.cell? ⟨G, q, none⟩ = some (.iface 27 (.agg #[.int .i64 n])) ∧ W.cell? ⟨G, q + 1, none⟩ = some (.iface 27 (.agg #[.int .i64 m]))) := fun W o => ⟨o.cell (by rw [hn]; exact hc) (fun g => g), o.cell (by rw [hm]; exact hc2) (fun g => g)⟩
  rw [← hn] at f1
  rw [← hm] at f2
  rw [← hn, ← hm]
  have HN1 : Hid (∀ W, Calls Tryz.prog 37 #[.iface 27 (.agg #[.int .i64 n])] W fun e w' => e = .returned (.int .i64 n) ∧ w' = W) := g_number n
  have HN2 : Hid (∀ W, Calls Tryz.prog 37 #[.iface 27 (.agg #[.int .i64 m])] W fun e w' => e = .returned (.int .i64 m) ∧ w' = W) := g_number m
  have HR : Hid (∀ W, Calls Tryz.prog 36 #[.string ⟨#[43]⟩, .int .i64 n, .int .i64 m] W fun e w' => e = .returned (.tuple #[.int .i64 (arK 43 n m).1, .int .i64 (arK 43 n m).2]) ∧ w' = W) := fun W => rk_add n m W f1 f2
  have hbb := hb n m f1 f2
  obtain ⟨r1, hr1⟩ : ∃ r, r = (arK 43 n m).1 := ⟨_, rfl⟩
  obtain ⟨r2, hr2⟩ : ∃ r, r = (arK 43 n m).2 := ⟨_, rfl⟩
  unfold nmR
  rw [← hr1, ← hr2] at HR ⊢
  rw [← hr1] at hbb
  have HP : Hid (∀ w', Only (fun _ => False) w w' → MdP (if r2 = 0 then .ok (inT r1) else .error r2) (d + 2) w (.returned (.tuple #[.iface 27 (.agg #[.int .i64 r1]), .int .i64 r2])) w') := fun w' o => by
    by_cases h0 : r2 = 0
    · rw [if_pos h0, h0]
      exact ⟨_, rfl, ⟨fun _ => False, in_ti w' _ (d + 1) r1, fun _ g => g.elim⟩, in_sm hbb, o⟩
    · rw [if_neg h0]
      exact ⟨_, rfl, .inr ⟨_, _, rfl⟩, by simpa using h0, o⟩
  have O0 : Hid (Only (fun _ => False) w w) := Only.refl _ _
  obtain ⟨c0, c1⟩ := HC.out w (Only.refl _ _)
  obtain ⟨Y, hY⟩ : ∃ Y : Except Int Vt, Y = if r2 = 0 then .ok (inT r1) else .error r2 := ⟨_, rfl⟩
  rw [← hY] at HP ⊢
  clear hl hS hlen hsm hsd hf hT hk hg hc ht hk2 hg2 hc2 ht2 hsd' f1 f2 hb hbb hr1 hr2 hn hm hY
  have e21 : IntKind.i64.wrap ((2 : Int) - 1) = 1 := by decide
  have e22 : (0 : Int) ≤ 1 := by omega
  have e23 : (1 : Int) < 2 := by omega
  have e26 : IntKind.i64.wrap (1 : Int) = 1 := by decide
  have e27 : IntKind.i64.wrap (-1 + 2 : Int) = 1 := by decide
  have e28 : IntKind.i64.wrap (2 + -1 : Int) = 1 := by decide
  have e29 : IntKind.i64.wrap (0 : Int) = 0 := by decide
  go_enter Tryz.func28, Tryz.ntmps28
  go_wp2
  go_region_held3 (fun W => W.cell? ⟨G, q, none⟩ = some (.iface 27 (.agg #[.int .i64 n])) ∧ W.cell? ⟨G, q + 1, none⟩ = some (.iface 27 (.agg #[.int .i64 m])))
    (first | with_reducible exact HC.out _ O0.out | with_reducible exact HC.out _ O0.out.drew | with_reducible exact HC.out _ O0.out.drew.drew)
    (first
      | (go_at_call 36; refine (show Calls Tryz.prog 36 _ _ _ from HR.out _).mono ?_; rintro ex w4 ⟨rfl, rfl⟩)
      | (go_at_call 37; refine (show Calls Tryz.prog 37 _ _ _ from HN1.out _).mono ?_; rintro ex w4 ⟨rfl, rfl⟩)
      | (go_at_call 37; refine (show Calls Tryz.prog 37 _ _ _ from HN2.out _).mono ?_; rintro ex w4 ⟨rfl, rfl⟩))
  all_goals
    go_wp2
    go_ret2
    refine HP.out _ ?_
    repeat (first | exact O0.out | refine Only.drew ?_)
end Go.Proofs.YtioffjdjnlibgaaGreatDoor
namespace Go.Proofs.YtioffjdjnlibgaaGreatDoor
open Go.RowKit Go.Lib
set_option linter.unusedSimpArgs false
set_option linter.unusedVariables false
set_option maxRecDepth 100000 in
set_option maxHeartbeats 4000000 in
theorem md_sub : MdC ⟨#[45]⟩ [1, 1] (fun _ l => nmR (arK 45) (l.getD 0 zT).n (l.getD 1 zT).n) := by
  intro d l G q w S hl hS hlen hsm hsd hf hT
  have hb : ∀ n m, cfit n = true → cfit m = true → -9223372036854775808 ≤ (arK 45 n m).1 ∧ (arK 45 n m).1 ≤ 9223372036854775807 := fun n m _ _ => ar_b 45 n m
  obtain ⟨x, y, rfl, hk, hk2⟩ := fit2 hlen hf
  obtain ⟨g, k, u, ha, hg, hc, ht⟩ := hl 0 x rfl
  cases ha
  obtain ⟨g2, k2, u2, ha2, hg2, hc2, ht2⟩ := hl 1 y rfl
  cases ha2
  have hu := ti_1 ht (fb_1 hk)
  subst hu
  have hu2 := ti_1 ht2 (fb_1 hk2)
  subst hu2
  have hsd' : sdB d x = true ∧ sdB d y = true := by simpa using hsd
  have f1 := sd_fit hsd'.1 (fb_1 hk)
  have f2 := sd_fit hsd'.2 (fb_1 hk2)
  show Calls Tryz.prog 28 #[_, .slice (some ⟨G, q, none⟩) 2 2] w fun e w' => MdP (nmR (arK 45) x.n y.n) (d + 2) w e w'
  obtain ⟨n, hn⟩ : ∃ n, n = x.n := ⟨_, rfl⟩
  obtain ⟨m, hm⟩ : ∃ m, m = y.n := ⟨_, rfl⟩
  have HC : Hid (∀ W, Only (fun _ => False) w W → W.cell? ⟨G, q, none⟩ = some (.iface 27 (.agg #[.int .i64 n])) ∧ W.cell? ⟨G, q + 1, none⟩ = some (.iface 27 (.agg #[.int .i64 m]))) := fun W o => ⟨o.cell (by rw [hn]; exact hc) (fun g => g), o.cell (by rw [hm]; exact hc2) (fun g => g)⟩
  rw [← hn] at f1
  rw [← hm] at f2
  rw [← hn, ← hm]
  have HN1 : Hid (∀ W, Calls Tryz.prog 37 #[.iface 27 (.agg #[.int .i64 n])] W fun e w' => e = .returned (.int .i64 n) ∧ w' = W) := g_number n
  have HN2 : Hid (∀ W, Calls Tryz.prog 37 #[.iface 27 (.agg #[.int .i64 m])] W fun e w' => e = .returned (.int .i64 m) ∧ w' = W) := g_number m
  have HR : Hid (∀ W, Calls Tryz.prog 36 #[.string ⟨#[45]⟩, .int .i64 n, .int .i64 m] W fun e w' => e = .returned (.tuple #[.int .i64 (arK 45 n m).1, .int .i64 (arK 45 n m).2]) ∧ w' = W) := fun W => rk_sub n m W f1 f2
  have hbb := hb n m f1 f2
  obtain ⟨r1, hr1⟩ : ∃ r, r = (arK 45 n m).1 := ⟨_, rfl⟩
  obtain ⟨r2, hr2⟩ : ∃ r, r = (arK 45 n m).2 := ⟨_, rfl⟩
  unfold nmR
  rw [← hr1, ← hr2] at HR ⊢
  rw [← hr1] at hbb
  have HP : Hid (∀ w', Only (fun _ => False) w w' → MdP (if r2 = 0 then .ok (inT r1) else .error r2) (d + 2) w (.returned (.tuple #[.iface 27 (.agg #[.int .i64 r1]), .int .i64 r2])) w') := fun w' o => by
    by_cases h0 : r2 = 0
    · rw [if_pos h0, h0]
      exact ⟨_, rfl, ⟨fun _ => False, in_ti w' _ (d + 1) r1, fun _ g => g.elim⟩, in_sm hbb, o⟩
    · rw [if_neg h0]
      exact ⟨_, rfl, .inr ⟨_, _, rfl⟩, by simpa using h0, o⟩
  have O0 : Hid (Only (fun _ => False) w w) := Only.refl _ _
  obtain ⟨c0, c1⟩ := HC.out w (Only.refl _ _)
  obtain ⟨Y, hY⟩ : ∃ Y : Except Int Vt, Y = if r2 = 0 then .ok (inT r1) else .error r2 := ⟨_, rfl⟩
  rw [← hY] at HP ⊢
  clear hl hS hlen hsm hsd hf hT hk hg hc ht hk2 hg2 hc2 ht2 hsd' f1 f2 hb hbb hr1 hr2 hn hm hY
  have e21 : IntKind.i64.wrap ((2 : Int) - 1) = 1 := by decide
  have e22 : (0 : Int) ≤ 1 := by omega
  have e23 : (1 : Int) < 2 := by omega
  have e26 : IntKind.i64.wrap (1 : Int) = 1 := by decide
  have e27 : IntKind.i64.wrap (-1 + 2 : Int) = 1 := by decide
  have e28 : IntKind.i64.wrap (2 + -1 : Int) = 1 := by decide
  have e29 : IntKind.i64.wrap (0 : Int) = 0 := by decide
  go_enter Tryz.func28, Tryz.ntmps28
  go_wp2
  go_region_held3 (fun W => W.cell? ⟨G, q, none⟩ = some (.iface 27 (.agg #[.int .i64 n])) ∧ W.cell? ⟨G, q + 1, none⟩ = some (.iface 27 (.agg #[.int .i64 m])))
    (first | with_reducible exact HC.out _ O0.out | with_reducible exact HC.out _ O0.out.drew | with_reducible exact HC.out _ O0.out.drew.drew)
    (first
      | (go_at_call 36; refine (show Calls Tryz.prog 36 _ _ _ from HR.out _).mono ?_; rintro ex w4 ⟨rfl, rfl⟩)
      | (go_at_call 37; refine (show Calls Tryz.prog 37 _ _ _ from HN1.out _).mono ?_; rintro ex w4 ⟨rfl, rfl⟩)
      | (go_at_call 37; refine (show Calls Tryz.prog 37 _ _ _ from HN2.out _).mono ?_; rintro ex w4 ⟨rfl, rfl⟩))
  all_goals
    go_wp2
    go_ret2
    refine HP.out _ ?_
    repeat (first | exact O0.out | refine Only.drew ?_)
end Go.Proofs.YtioffjdjnlibgaaGreatDoor
namespace Go.Proofs.YtioffjdjnlibgaaGreatDoor
open Go.RowKit Go.Lib
set_option linter.unusedSimpArgs false
set_option linter.unusedVariables false
set_option maxRecDepth 100000 in
set_option maxHeartbeats 4000000 in
theorem md_mul : MdC ⟨#[42]⟩ [1, 1] (fun _ l => nmR (arK 42) (l.getD 0 zT).n (l.getD 1 zT).n) := by
  intro d l G q w S hl hS hlen hsm hsd hf hT
  have hb : ∀ n m, cfit n = true → cfit m = true → -9223372036854775808 ≤ (arK 42 n m).1 ∧ (arK 42 n m).1 ≤ 9223372036854775807 := fun n m _ _ => ar_b 42 n m
  obtain ⟨x, y, rfl, hk, hk2⟩ := fit2 hlen hf
  obtain ⟨g, k, u, ha, hg, hc, ht⟩ := hl 0 x rfl
  cases ha
  obtain ⟨g2, k2, u2, ha2, hg2, hc2, ht2⟩ := hl 1 y rfl
  cases ha2
  have hu := ti_1 ht (fb_1 hk)
  subst hu
  have hu2 := ti_1 ht2 (fb_1 hk2)
  subst hu2
  have hsd' : sdB d x = true ∧ sdB d y = true := by simpa using hsd
  have f1 := sd_fit hsd'.1 (fb_1 hk)
  have f2 := sd_fit hsd'.2 (fb_1 hk2)
  show Calls Tryz.prog 28 #[_, .slice (some ⟨G, q, none⟩) 2 2] w fun e w' => MdP (nmR (arK 42) x.n y.n) (d + 2) w e w'
  obtain ⟨n, hn⟩ : ∃ n, n = x.n := ⟨_, rfl⟩
  obtain ⟨m, hm⟩ : ∃ m, m = y.n := ⟨_, rfl⟩
  have HC : Hid (∀ W, Only (fun _ => False) w W → W.cell? ⟨G, q, none⟩ = some (.iface 27 (.agg #[.int .i64 n])) ∧ W.cell? ⟨G, q + 1, none⟩ = some (.iface 27 (.agg #[.int .i64 m]))) := fun W o => ⟨o.cell (by rw [hn]; exact hc) (fun g => g), o.cell (by rw [hm]; exact hc2) (fun g => g)⟩
  rw [← hn] at f1
  rw [← hm] at f2
  rw [← hn, ← hm]
  have HN1 : Hid (∀ W, Calls Tryz.prog 37 #[.iface 27 (.agg #[.int .i64 n])] W fun e w' => e = .returned (.int .i64 n) ∧ w' = W) := g_number n
  have HN2 : Hid (∀ W, Calls Tryz.prog 37 #[.iface 27 (.agg #[.int .i64 m])] W fun e w' => e = .returned (.int .i64 m) ∧ w' = W) := g_number m
  have HR : Hid (∀ W, Calls Tryz.prog 36 #[.string ⟨#[42]⟩, .int .i64 n, .int .i64 m] W fun e w' => e = .returned (.tuple #[.int .i64 (arK 42 n m).1, .int .i64 (arK 42 n m).2]) ∧ w' = W) := fun W => rk_mul n m W f1 f2
  have hbb := hb n m f1 f2
  obtain ⟨r1, hr1⟩ : ∃ r, r = (arK 42 n m).1 := ⟨_, rfl⟩
  obtain ⟨r2, hr2⟩ : ∃ r, r = (arK 42 n m).2 := ⟨_, rfl⟩
  unfold nmR
  rw [← hr1, ← hr2] at HR ⊢
  rw [← hr1] at hbb
  have HP : Hid (∀ w', Only (fun _ => False) w w' → MdP (if r2 = 0 then .ok (inT r1) else .error r2) (d + 2) w (.returned (.tuple #[.iface 27 (.agg #[.int .i64 r1]), .int .i64 r2])) w') := fun w' o => by
    by_cases h0 : r2 = 0
    · rw [if_pos h0, h0]
      exact ⟨_, rfl, ⟨fun _ => False, in_ti w' _ (d + 1) r1, fun _ g => g.elim⟩, in_sm hbb, o⟩
    · rw [if_neg h0]
      exact ⟨_, rfl, .inr ⟨_, _, rfl⟩, by simpa using h0, o⟩
  have O0 : Hid (Only (fun _ => False) w w) := Only.refl _ _
  obtain ⟨c0, c1⟩ := HC.out w (Only.refl _ _)
  obtain ⟨Y, hY⟩ : ∃ Y : Except Int Vt, Y = if r2 = 0 then .ok (inT r1) else .error r2 := ⟨_, rfl⟩
  rw [← hY] at HP ⊢
  clear hl hS hlen hsm hsd hf hT hk hg hc ht hk2 hg2 hc2 ht2 hsd' f1 f2 hb hbb hr1 hr2 hn hm hY
  have e21 : IntKind.i64.wrap ((2 : Int) - 1) = 1 := by decide
  have e22 : (0 : Int) ≤ 1 := by omega
  have e23 : (1 : Int) < 2 := by omega
  have e26 : IntKind.i64.wrap (1 : Int) = 1 := by decide
  have e27 : IntKind.i64.wrap (-1 + 2 : Int) = 1 := by decide
  have e28 : IntKind.i64.wrap (2 + -1 : Int) = 1 := by decide
  have e29 : IntKind.i64.wrap (0 : Int) = 0 := by decide
  go_enter Tryz.func28, Tryz.ntmps28
  go_wp2
  go_region_held3 (fun W => W.cell? ⟨G, q, none⟩ = some (.iface 27 (.agg #[.int .i64 n])) ∧ W.cell? ⟨G, q + 1, none⟩ = some (.iface 27 (.agg #[.int .i64 m])))
    (first | with_reducible exact HC.out _ O0.out | with_reducible exact HC.out _ O0.out.drew | with_reducible exact HC.out _ O0.out.drew.drew)
    (first
      | (go_at_call 36; refine (show Calls Tryz.prog 36 _ _ _ from HR.out _).mono ?_; rintro ex w4 ⟨rfl, rfl⟩)
      | (go_at_call 37; refine (show Calls Tryz.prog 37 _ _ _ from HN1.out _).mono ?_; rintro ex w4 ⟨rfl, rfl⟩)
      | (go_at_call 37; refine (show Calls Tryz.prog 37 _ _ _ from HN2.out _).mono ?_; rintro ex w4 ⟨rfl, rfl⟩))
  all_goals
    go_wp2
    go_ret2
    refine HP.out _ ?_
    repeat (first | exact O0.out | refine Only.drew ?_)
end Go.Proofs.YtioffjdjnlibgaaGreatDoor
namespace Go.Proofs.YtioffjdjnlibgaaGreatDoor
open Go.RowKit Go.Lib
set_option linter.unusedSimpArgs false
set_option linter.unusedVariables false
set_option maxRecDepth 100000 in
set_option maxHeartbeats 4000000 in
theorem md_div : MdC ⟨#[47]⟩ [1, 1] (fun _ l => nmR (arK 47) (l.getD 0 zT).n (l.getD 1 zT).n) := by
  intro d l G q w S hl hS hlen hsm hsd hf hT
  have hb : ∀ n m, cfit n = true → cfit m = true → -9223372036854775808 ≤ (arK 47 n m).1 ∧ (arK 47 n m).1 ≤ 9223372036854775807 := fun n m _ _ => ar_b 47 n m
  obtain ⟨x, y, rfl, hk, hk2⟩ := fit2 hlen hf
  obtain ⟨g, k, u, ha, hg, hc, ht⟩ := hl 0 x rfl
  cases ha
  obtain ⟨g2, k2, u2, ha2, hg2, hc2, ht2⟩ := hl 1 y rfl
  cases ha2
  have hu := ti_1 ht (fb_1 hk)
  subst hu
  have hu2 := ti_1 ht2 (fb_1 hk2)
  subst hu2
  have hsd' : sdB d x = true ∧ sdB d y = true := by simpa using hsd
  have f1 := sd_fit hsd'.1 (fb_1 hk)
  have f2 := sd_fit hsd'.2 (fb_1 hk2)
  show Calls Tryz.prog 28 #[_, .slice (some ⟨G, q, none⟩) 2 2] w fun e w' => MdP (nmR (arK 47) x.n y.n) (d + 2) w e w'
  obtain ⟨n, hn⟩ : ∃ n, n = x.n := ⟨_, rfl⟩
  obtain ⟨m, hm⟩ : ∃ m, m = y.n := ⟨_, rfl⟩
  have HC : Hid (∀ W, Only (fun _ => False) w W → W.cell? ⟨G, q, none⟩ = some (.iface 27 (.agg #[.int .i64 n])) ∧ W.cell? ⟨G, q + 1, none⟩ = some (.iface 27 (.agg #[.int .i64 m]))) := fun W o => ⟨o.cell (by rw [hn]; exact hc) (fun g => g), o.cell (by rw [hm]; exact hc2) (fun g => g)⟩
  rw [← hn] at f1
  rw [← hm] at f2
  rw [← hn, ← hm]
  have HN1 : Hid (∀ W, Calls Tryz.prog 37 #[.iface 27 (.agg #[.int .i64 n])] W fun e w' => e = .returned (.int .i64 n) ∧ w' = W) := g_number n
  have HN2 : Hid (∀ W, Calls Tryz.prog 37 #[.iface 27 (.agg #[.int .i64 m])] W fun e w' => e = .returned (.int .i64 m) ∧ w' = W) := g_number m
  have HR : Hid (∀ W, Calls Tryz.prog 36 #[.string ⟨#[47]⟩, .int .i64 n, .int .i64 m] W fun e w' => e = .returned (.tuple #[.int .i64 (arK 47 n m).1, .int .i64 (arK 47 n m).2]) ∧ w' = W) := fun W => rk_div n m W f1 f2
  have hbb := hb n m f1 f2
  obtain ⟨r1, hr1⟩ : ∃ r, r = (arK 47 n m).1 := ⟨_, rfl⟩
  obtain ⟨r2, hr2⟩ : ∃ r, r = (arK 47 n m).2 := ⟨_, rfl⟩
  unfold nmR
  rw [← hr1, ← hr2] at HR ⊢
  rw [← hr1] at hbb
  have HP : Hid (∀ w', Only (fun _ => False) w w' → MdP (if r2 = 0 then .ok (inT r1) else .error r2) (d + 2) w (.returned (.tuple #[.iface 27 (.agg #[.int .i64 r1]), .int .i64 r2])) w') := fun w' o => by
    by_cases h0 : r2 = 0
    · rw [if_pos h0, h0]
      exact ⟨_, rfl, ⟨fun _ => False, in_ti w' _ (d + 1) r1, fun _ g => g.elim⟩, in_sm hbb, o⟩
    · rw [if_neg h0]
      exact ⟨_, rfl, .inr ⟨_, _, rfl⟩, by simpa using h0, o⟩
  have O0 : Hid (Only (fun _ => False) w w) := Only.refl _ _
  obtain ⟨c0, c1⟩ := HC.out w (Only.refl _ _)
  obtain ⟨Y, hY⟩ : ∃ Y : Except Int Vt, Y = if r2 = 0 then .ok (inT r1) else .error r2 := ⟨_, rfl⟩
  rw [← hY] at HP ⊢
  clear hl hS hlen hsm hsd hf hT hk hg hc ht hk2 hg2 hc2 ht2 hsd' f1 f2 hb hbb hr1 hr2 hn hm hY
  have e21 : IntKind.i64.wrap ((2 : Int) - 1) = 1 := by decide
  have e22 : (0 : Int) ≤ 1 := by omega
  have e23 : (1 : Int) < 2 := by omega
  have e26 : IntKind.i64.wrap (1 : Int) = 1 := by decide
  have e27 : IntKind.i64.wrap (-1 + 2 : Int) = 1 := by decide
  have e28 : IntKind.i64.wrap (2 + -1 : Int) = 1 := by decide
  have e29 : IntKind.i64.wrap (0 : Int) = 0 := by decide
  go_enter Tryz.func28, Tryz.ntmps28
  go_wp2
  go_region_held3 (fun W => W.cell? ⟨G, q, none⟩ = some (.iface 27 (.agg #[.int .i64 n])) ∧ W.cell? ⟨G, q + 1, none⟩ = some (.iface 27 (.agg #[.int .i64 m])))
    (first | with_reducible exact HC.out _ O0.out | with_reducible exact HC.out _ O0.out.drew | with_reducible exact HC.out _ O0.out.drew.drew)
    (first
      | (go_at_call 36; refine (show Calls Tryz.prog 36 _ _ _ from HR.out _).mono ?_; rintro ex w4 ⟨rfl, rfl⟩)
      | (go_at_call 37; refine (show Calls Tryz.prog 37 _ _ _ from HN1.out _).mono ?_; rintro ex w4 ⟨rfl, rfl⟩)
      | (go_at_call 37; refine (show Calls Tryz.prog 37 _ _ _ from HN2.out _).mono ?_; rintro ex w4 ⟨rfl, rfl⟩))
  all_goals
    go_wp2
    go_ret2
    refine HP.out _ ?_
    repeat (first | exact O0.out | refine Only.drew ?_)
end Go.Proofs.YtioffjdjnlibgaaGreatDoor
namespace Go.Proofs.YtioffjdjnlibgaaGreatDoor
open Go.RowKit Go.Lib
set_option linter.unusedSimpArgs false
set_option linter.unusedVariables false
set_option maxRecDepth 100000 in
set_option maxHeartbeats 4000000 in
theorem md_mod : MdC ⟨#[109, 111, 100]⟩ [1, 1] (fun _ l => nmR (arK 37) (l.getD 0 zT).n (l.getD 1 zT).n) := by
  intro d l G q w S hl hS hlen hsm hsd hf hT
  have hb : ∀ n m, cfit n = true → cfit m = true → -9223372036854775808 ≤ (arK 37 n m).1 ∧ (arK 37 n m).1 ≤ 9223372036854775807 := fun n m _ _ => ar_b 37 n m
  obtain ⟨x, y, rfl, hk, hk2⟩ := fit2 hlen hf
  obtain ⟨g, k, u, ha, hg, hc, ht⟩ := hl 0 x rfl
  cases ha
  obtain ⟨g2, k2, u2, ha2, hg2, hc2, ht2⟩ := hl 1 y rfl
  cases ha2
  have hu := ti_1 ht (fb_1 hk)
  subst hu
  have hu2 := ti_1 ht2 (fb_1 hk2)
  subst hu2
  have hsd' : sdB d x = true ∧ sdB d y = true := by simpa using hsd
  have f1 := sd_fit hsd'.1 (fb_1 hk)
  have f2 := sd_fit hsd'.2 (fb_1 hk2)
  show Calls Tryz.prog 28 #[_, .slice (some ⟨G, q, none⟩) 2 2] w fun e w' => MdP (nmR (arK 37) x.n y.n) (d + 2) w e w'
  obtain ⟨n, hn⟩ : ∃ n, n = x.n := ⟨_, rfl⟩
  obtain ⟨m, hm⟩ : ∃ m, m = y.n := ⟨_, rfl⟩
  have HC : Hid (∀ W, Only (fun _ => False) w W → W.cell? ⟨G, q, none⟩ = some (.iface 27 (.agg #[.int .i64 n])) ∧ W.cell? ⟨G, q + 1, none⟩ = some (.iface 27 (.agg #[.int .i64 m]))) := fun W o => ⟨o.cell (by rw [hn]; exact hc) (fun g => g), o.cell (by rw [hm]; exact hc2) (fun g => g)⟩
  rw [← hn] at f1
  rw [← hm] at f2
  rw [← hn, ← hm]
  have HN1 : Hid (∀ W, Calls Tryz.prog 37 #[.iface 27 (.agg #[.int .i64 n])] W fun e w' => e = .returned (.int .i64 n) ∧ w' = W) := g_number n
  have HN2 : Hid (∀ W, Calls Tryz.prog 37 #[.iface 27 (.agg #[.int .i64 m])] W fun e w' => e = .returned (.int .i64 m) ∧ w' = W) := g_number m
  have HR : Hid (∀ W, Calls Tryz.prog 36 #[.string ⟨#[109, 111, 100]⟩, .int .i64 n, .int .i64 m] W fun e w' => e = .returned (.tuple #[.int .i64 (arK 37 n m).1, .int .i64 (arK 37 n m).2]) ∧ w' = W) := fun W => rk_mod n m W f1 f2
  have hbb := hb n m f1 f2
  obtain ⟨r1, hr1⟩ : ∃ r, r = (arK 37 n m).1 := ⟨_, rfl⟩
  obtain ⟨r2, hr2⟩ : ∃ r, r = (arK 37 n m).2 := ⟨_, rfl⟩
  unfold nmR
  rw [← hr1, ← hr2] at HR ⊢
  rw [← hr1] at hbb
  have HP : Hid (∀ w', Only (fun _ => False) w w' → MdP (if r2 = 0 then .ok (inT r1) else .error r2) (d + 2) w (.returned (.tuple #[.iface 27 (.agg #[.int .i64 r1]), .int .i64 r2])) w') := fun w' o => by
    by_cases h0 : r2 = 0
    · rw [if_pos h0, h0]
      exact ⟨_, rfl, ⟨fun _ => False, in_ti w' _ (d + 1) r1, fun _ g => g.elim⟩, in_sm hbb, o⟩
    · rw [if_neg h0]
      exact ⟨_, rfl, .inr ⟨_, _, rfl⟩, by simpa using h0, o⟩
  have O0 : Hid (Only (fun _ => False) w w) := Only.refl _ _
  obtain ⟨c0, c1⟩ := HC.out w (Only.refl _ _)
  obtain ⟨Y, hY⟩ : ∃ Y : Except Int Vt, Y = if r2 = 0 then .ok (inT r1) else .error r2 := ⟨_, rfl⟩
  rw [← hY] at HP ⊢
  clear hl hS hlen hsm hsd hf hT hk hg hc ht hk2 hg2 hc2 ht2 hsd' f1 f2 hb hbb hr1 hr2 hn hm hY
  have e21 : IntKind.i64.wrap ((2 : Int) - 1) = 1 := by decide
  have e22 : (0 : Int) ≤ 1 := by omega
  have e23 : (1 : Int) < 2 := by omega
  have e26 : IntKind.i64.wrap (1 : Int) = 1 := by decide
  have e27 : IntKind.i64.wrap (-1 + 2 : Int) = 1 := by decide
  have e28 : IntKind.i64.wrap (2 + -1 : Int) = 1 := by decide
  have e29 : IntKind.i64.wrap (0 : Int) = 0 := by decide
  go_enter Tryz.func28, Tryz.ntmps28
  go_wp2
  go_region_held3 (fun W => W.cell? ⟨G, q, none⟩ = some (.iface 27 (.agg #[.int .i64 n])) ∧ W.cell? ⟨G, q + 1, none⟩ = some (.iface 27 (.agg #[.int .i64 m])))
    (first | with_reducible exact HC.out _ O0.out | with_reducible exact HC.out _ O0.out.drew | with_reducible exact HC.out _ O0.out.drew.drew)
    (first
      | (go_at_call 36; refine (show Calls Tryz.prog 36 _ _ _ from HR.out _).mono ?_; rintro ex w4 ⟨rfl, rfl⟩)
      | (go_at_call 37; refine (show Calls Tryz.prog 37 _ _ _ from HN1.out _).mono ?_; rintro ex w4 ⟨rfl, rfl⟩)
      | (go_at_call 37; refine (show Calls Tryz.prog 37 _ _ _ from HN2.out _).mono ?_; rintro ex w4 ⟨rfl, rfl⟩))
  all_goals
    go_wp2
    go_ret2
    refine HP.out _ ?_
    repeat (first | exact O0.out | refine Only.drew ?_)
end Go.Proofs.YtioffjdjnlibgaaGreatDoor
namespace Go.Proofs.YtioffjdjnlibgaaGreatDoor
open Go.RowKit Go.Lib
set_option linter.unusedSimpArgs false
set_option linter.unusedVariables false
set_option maxRecDepth 100000 in
set_option maxHeartbeats 4000000 in
theorem md_min : MdC ⟨#[109, 105, 110]⟩ [1, 1] (fun _ l => nmR (miK) (l.getD 0 zT).n (l.getD 1 zT).n) := by
  intro d l G q w S hl hS hlen hsm hsd hf hT
  have hb : ∀ n m, cfit n = true → cfit m = true → -9223372036854775808 ≤ (miK n m).1 ∧ (miK n m).1 ≤ 9223372036854775807 := fun n m h g => mi_b n m h g
  obtain ⟨x, y, rfl, hk, hk2⟩ := fit2 hlen hf
  obtain ⟨g, k, u, ha, hg, hc, ht⟩ := hl 0 x rfl
  cases ha
  obtain ⟨g2, k2, u2, ha2, hg2, hc2, ht2⟩ := hl 1 y rfl
  cases ha2
  have hu := ti_1 ht (fb_1 hk)
  subst hu
  have hu2 := ti_1 ht2 (fb_1 hk2)
  subst hu2
  have hsd' : sdB d x = true ∧ sdB d y = true := by simpa using hsd
  have f1 := sd_fit hsd'.1 (fb_1 hk)
  have f2 := sd_fit hsd'.2 (fb_1 hk2)
  show Calls Tryz.prog 28 #[_, .slice (some ⟨G, q, none⟩) 2 2] w fun e w' => MdP (nmR (miK) x.n y.n) (d + 2) w e w'
  obtain ⟨n, hn⟩ : ∃ n, n = x.n := ⟨_, rfl⟩
  obtain ⟨m, hm⟩ : ∃ m, m = y.n := ⟨_, rfl⟩
  have HC : Hid (∀ W, Only (fun _ => False) w W → W.cell? ⟨G, q, none⟩ = some (.iface 27 (.agg #[.int .i64 n])) ∧ W.cell? ⟨G, q + 1, none⟩ = some (.iface 27 (.agg #[.int .i64 m]))) := fun W o => ⟨o.cell (by rw [hn]; exact hc) (fun g => g), o.cell (by rw [hm]; exact hc2) (fun g => g)⟩
  rw [← hn] at f1
  rw [← hm] at f2
  rw [← hn, ← hm]
  have HN1 : Hid (∀ W, Calls Tryz.prog 37 #[.iface 27 (.agg #[.int .i64 n])] W fun e w' => e = .returned (.int .i64 n) ∧ w' = W) := g_number n
  have HN2 : Hid (∀ W, Calls Tryz.prog 37 #[.iface 27 (.agg #[.int .i64 m])] W fun e w' => e = .returned (.int .i64 m) ∧ w' = W) := g_number m
  have HR : Hid (∀ W, Calls Tryz.prog 36 #[.string ⟨#[109, 105, 110]⟩, .int .i64 n, .int .i64 m] W fun e w' => e = .returned (.tuple #[.int .i64 (miK n m).1, .int .i64 (miK n m).2]) ∧ w' = W) := fun W => rk_min n m W f1 f2
  have hbb := hb n m f1 f2
  obtain ⟨r1, hr1⟩ : ∃ r, r = (miK n m).1 := ⟨_, rfl⟩
  obtain ⟨r2, hr2⟩ : ∃ r, r = (miK n m).2 := ⟨_, rfl⟩
  unfold nmR
  rw [← hr1, ← hr2] at HR ⊢
  rw [← hr1] at hbb
  have HP : Hid (∀ w', Only (fun _ => False) w w' → MdP (if r2 = 0 then .ok (inT r1) else .error r2) (d + 2) w (.returned (.tuple #[.iface 27 (.agg #[.int .i64 r1]), .int .i64 r2])) w') := fun w' o => by
    by_cases h0 : r2 = 0
    · rw [if_pos h0, h0]
      exact ⟨_, rfl, ⟨fun _ => False, in_ti w' _ (d + 1) r1, fun _ g => g.elim⟩, in_sm hbb, o⟩
    · rw [if_neg h0]
      exact ⟨_, rfl, .inr ⟨_, _, rfl⟩, by simpa using h0, o⟩
  have O0 : Hid (Only (fun _ => False) w w) := Only.refl _ _
  obtain ⟨c0, c1⟩ := HC.out w (Only.refl _ _)
  obtain ⟨Y, hY⟩ : ∃ Y : Except Int Vt, Y = if r2 = 0 then .ok (inT r1) else .error r2 := ⟨_, rfl⟩
  rw [← hY] at HP ⊢
  clear hl hS hlen hsm hsd hf hT hk hg hc ht hk2 hg2 hc2 ht2 hsd' f1 f2 hb hbb hr1 hr2 hn hm hY
  have e21 : IntKind.i64.wrap ((2 : Int) - 1) = 1 := by decide
  have e22 : (0 : Int) ≤ 1 := by omega
  have e23 : (1 : Int) < 2 := by omega
  have e26 : IntKind.i64.wrap (1 : Int) = 1 := by decide
  have e27 : IntKind.i64.wrap (-1 + 2 : Int) = 1 := by decide
  have e28 : IntKind.i64.wrap (2 + -1 : Int) = 1 := by decide
  have e29 : IntKind.i64.wrap (0 : Int) = 0 := by decide
  go_enter Tryz.func28, Tryz.ntmps28
  go_wp2
  go_region_held3 (fun W => W.cell? ⟨G, q, none⟩ = some (.iface 27 (.agg #[.int .i64 n])) ∧ W.cell? ⟨G, q + 1, none⟩ = some (.iface 27 (.agg #[.int .i64 m])))
    (first | with_reducible exact HC.out _ O0.out | with_reducible exact HC.out _ O0.out.drew | with_reducible exact HC.out _ O0.out.drew.drew)
    (first
      | (go_at_call 36; refine (show Calls Tryz.prog 36 _ _ _ from HR.out _).mono ?_; rintro ex w4 ⟨rfl, rfl⟩)
      | (go_at_call 37; refine (show Calls Tryz.prog 37 _ _ _ from HN1.out _).mono ?_; rintro ex w4 ⟨rfl, rfl⟩)
      | (go_at_call 37; refine (show Calls Tryz.prog 37 _ _ _ from HN2.out _).mono ?_; rintro ex w4 ⟨rfl, rfl⟩))
  all_goals
    go_wp2
    go_ret2
    refine HP.out _ ?_
    repeat (first | exact O0.out | refine Only.drew ?_)
end Go.Proofs.YtioffjdjnlibgaaGreatDoor
namespace Go.Proofs.YtioffjdjnlibgaaGreatDoor
open Go.RowKit Go.Lib
set_option linter.unusedSimpArgs false
set_option linter.unusedVariables false
set_option maxRecDepth 100000 in
set_option maxHeartbeats 4000000 in
theorem md_max : MdC ⟨#[109, 97, 120]⟩ [1, 1] (fun _ l => nmR (maK) (l.getD 0 zT).n (l.getD 1 zT).n) := by
  intro d l G q w S hl hS hlen hsm hsd hf hT
  have hb : ∀ n m, cfit n = true → cfit m = true → -9223372036854775808 ≤ (maK n m).1 ∧ (maK n m).1 ≤ 9223372036854775807 := fun n m h g => ma_b n m h g
  obtain ⟨x, y, rfl, hk, hk2⟩ := fit2 hlen hf
  obtain ⟨g, k, u, ha, hg, hc, ht⟩ := hl 0 x rfl
  cases ha
  obtain ⟨g2, k2, u2, ha2, hg2, hc2, ht2⟩ := hl 1 y rfl
  cases ha2
  have hu := ti_1 ht (fb_1 hk)
  subst hu
  have hu2 := ti_1 ht2 (fb_1 hk2)
  subst hu2
  have hsd' : sdB d x = true ∧ sdB d y = true := by simpa using hsd
  have f1 := sd_fit hsd'.1 (fb_1 hk)
  have f2 := sd_fit hsd'.2 (fb_1 hk2)
  show Calls Tryz.prog 28 #[_, .slice (some ⟨G, q, none⟩) 2 2] w fun e w' => MdP (nmR (maK) x.n y.n) (d + 2) w e w'
  obtain ⟨n, hn⟩ : ∃ n, n = x.n := ⟨_, rfl⟩
  obtain ⟨m, hm⟩ : ∃ m, m = y.n := ⟨_, rfl⟩
  have HC : Hid (∀ W, Only (fun _ => False) w W → W.cell? ⟨G, q, none⟩ = some (.iface 27 (.agg #[.int .i64 n])) ∧ W.cell? ⟨G, q + 1, none⟩ = some (.iface 27 (.agg #[.int .i64 m]))) := fun W o => ⟨o.cell (by rw [hn]; exact hc) (fun g => g), o.cell (by rw [hm]; exact hc2) (fun g => g)⟩
  rw [← hn] at f1
  rw [← hm] at f2
  rw [← hn, ← hm]
  have HN1 : Hid (∀ W, Calls Tryz.prog 37 #[.iface 27 (.agg #[.int .i64 n])] W fun e w' => e = .returned (.int .i64 n) ∧ w' = W) := g_number n
  have HN2 : Hid (∀ W, Calls Tryz.prog 37 #[.iface 27 (.agg #[.int .i64 m])] W fun e w' => e = .returned (.int .i64 m) ∧ w' = W) := g_number m
  have HR : Hid (∀ W, Calls Tryz.prog 36 #[.string ⟨#[109, 97, 120]⟩, .int .i64 n, .int .i64 m] W fun e w' => e = .returned (.tuple #[.int .i64 (maK n m).1, .int .i64 (maK n m).2]) ∧ w' = W) := fun W => rk_max n m W f1 f2
  have hbb := hb n m f1 f2
  obtain ⟨r1, hr1⟩ : ∃ r, r = (maK n m).1 := ⟨_, rfl⟩
  obtain ⟨r2, hr2⟩ : ∃ r, r = (maK n m).2 := ⟨_, rfl⟩
  unfold nmR
  rw [← hr1, ← hr2] at HR ⊢
  rw [← hr1] at hbb
  have HP : Hid (∀ w', Only (fun _ => False) w w' → MdP (if r2 = 0 then .ok (inT r1) else .error r2) (d + 2) w (.returned (.tuple #[.iface 27 (.agg #[.int .i64 r1]), .int .i64 r2])) w') := fun w' o => by
    by_cases h0 : r2 = 0
    · rw [if_pos h0, h0]
      exact ⟨_, rfl, ⟨fun _ => False, in_ti w' _ (d + 1) r1, fun _ g => g.elim⟩, in_sm hbb, o⟩
    · rw [if_neg h0]
      exact ⟨_, rfl, .inr ⟨_, _, rfl⟩, by simpa using h0, o⟩
  have O0 : Hid (Only (fun _ => False) w w) := Only.refl _ _
  obtain ⟨c0, c1⟩ := HC.out w (Only.refl _ _)
  obtain ⟨Y, hY⟩ : ∃ Y : Except Int Vt, Y = if r2 = 0 then .ok (inT r1) else .error r2 := ⟨_, rfl⟩
  rw [← hY] at HP ⊢
  clear hl hS hlen hsm hsd hf hT hk hg hc ht hk2 hg2 hc2 ht2 hsd' f1 f2 hb hbb hr1 hr2 hn hm hY
  have e21 : IntKind.i64.wrap ((2 : Int) - 1) = 1 := by decide
  have e22 : (0 : Int) ≤ 1 := by omega
  have e23 : (1 : Int) < 2 := by omega
  have e26 : IntKind.i64.wrap (1 : Int) = 1 := by decide
  have e27 : IntKind.i64.wrap (-1 + 2 : Int) = 1 := by decide
  have e28 : IntKind.i64.wrap (2 + -1 : Int) = 1 := by decide
  have e29 : IntKind.i64.wrap (0 : Int) = 0 := by decide
  go_enter Tryz.func28, Tryz.ntmps28
  go_wp2
  go_region_held3 (fun W => W.cell? ⟨G, q, none⟩ = some (.iface 27 (.agg #[.int .i64 n])) ∧ W.cell? ⟨G, q + 1, none⟩ = some (.iface 27 (.agg #[.int .i64 m])))
    (first | with_reducible exact HC.out _ O0.out | with_reducible exact HC.out _ O0.out.drew | with_reducible exact HC.out _ O0.out.drew.drew)
    (first
      | (go_at_call 36; refine (show Calls Tryz.prog 36 _ _ _ from HR.out _).mono ?_; rintro ex w4 ⟨rfl, rfl⟩)
      | (go_at_call 37; refine (show Calls Tryz.prog 37 _ _ _ from HN1.out _).mono ?_; rintro ex w4 ⟨rfl, rfl⟩)
      | (go_at_call 37; refine (show Calls Tryz.prog 37 _ _ _ from HN2.out _).mono ?_; rintro ex w4 ⟨rfl, rfl⟩))
  all_goals
    go_wp2
    go_ret2
    refine HP.out _ ?_
    repeat (first | exact O0.out | refine Only.drew ?_)
end Go.Proofs.YtioffjdjnlibgaaGreatDoor
