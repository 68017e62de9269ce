/- The document on primitives, some of them. Primitives, some of them. The document on primitives, some of them. Primitives, some of them. The document on primitives, some of them. Primitives, some of them. The document on primitives, some of them. Primitives: all. All forty primitives: their contracts, and how many values each leaves. The names of the primitives. What words that move values, pair and unpair make of sound values. law12.awake; rows of trees. Values that are written over: what stays of them, whatever is shared. -/
import Derived.Test.YtioffjdjnlibgaaGreatDoorGat
import Derived.Test.YtioffjdjnlibgaaGreatDoorGam
import Derived.Test.YtioffjdjnlibgaaGreatDoorGan
import Derived.Test.YtioffjdjnlibgaaGreatDoorGao
import Derived.Test.YtioffjdjnlibgaaGreatDoorGap
import Derived.Test.YtioffjdjnlibgaaGreatDoorGaq
import Derived.Test.YtioffjdjnlibgaaGreatDoorGar
import Derived.Test.YtioffjdjnlibgaaGreatDoorGas
import Derived.Test.YtioffjdjnlibgaaGreatDoorGag
namespace Go.Proofs.YtioffjdjnlibgaaGreatDoor
open Go.RowKit
set_option linter.unusedSimpArgs false
set_option linter.unusedVariables false
end Go.Proofs.YtioffjdjnlibgaaGreatDoor
namespace Go.Proofs.YtioffjdjnlibgaaGreatDoor
open Go.RowKit
set_option linter.unusedSimpArgs false
set_option linter.unusedVariables false
end Go.Proofs.YtioffjdjnlibgaaGreatDoor
namespace Go.Proofs.YtioffjdjnlibgaaGreatDoor
open Go.RowKit
set_option linter.unusedSimpArgs false
set_option linter.unusedVariables false
end Go.Proofs.YtioffjdjnlibgaaGreatDoor
namespace Go.Proofs.YtioffjdjnlibgaaGreatDoor
open Go.RowKit
set_option linter.unusedSimpArgs false
set_option linter.unusedVariables false
end Go.Proofs.YtioffjdjnlibgaaGreatDoor
namespace Go.Proofs.YtioffjdjnlibgaaGreatDoor
open Go.RowKit
set_option linter.unusedSimpArgs false
set_option linter.unusedVariables false
end Go.Proofs.YtioffjdjnlibgaaGreatDoor
namespace Go.Proofs.YtioffjdjnlibgaaGreatDoor
open Go.RowKit
set_option linter.unusedSimpArgs false
set_option linter.unusedVariables false
end Go.Proofs.YtioffjdjnlibgaaGreatDoor
namespace Go.Proofs.YtioffjdjnlibgaaGreatDoor
open Go.RowKit
set_option linter.unusedSimpArgs false
set_option linter.unusedVariables false
end Go.Proofs.YtioffjdjnlibgaaGreatDoor
namespace Go.Proofs.YtioffjdjnlibgaaGreatDoor
open Go.RowKit
set_option linter.unusedSimpArgs false
set_option linter.unusedVariables false
theorem pm_cases (s : ByteArray) : (∃ k : Fin 44, s = ⟨(pmL[k.1]'(k.2)).1.toArray⟩) ∨ ∀ (k : Nat) (h : k < 44), s.toList ≠ (pmL[k]'h).1 := by
  by_cases h : ∃ k : Fin 44, s.toList = (pmL[k.1]'(k.2)).1
  · obtain ⟨k, hk⟩ := h
    exact .inl ⟨k, to_lit hk⟩
  · exact .inr fun k hk e => h ⟨⟨k, hk⟩, e⟩
theorem pm_none {s : ByteArray} (hn : ∀ (k : Nat) (h : k < 44), s.toList ≠ (pmL[k]'h).1) : pmR s = (0, 0, false) :=
  pmF_no _ _ fun x hx => by
    obtain ⟨k, hk, rfl⟩ := List.getElem_of_mem hx
    exact hn k hk
end Go.Proofs.YtioffjdjnlibgaaGreatDoor
namespace Go.Proofs.YtioffjdjnlibgaaGreatDoor
open Go.RowKit Go.Lib
set_option linter.unusedSimpArgs false
set_option linter.unusedVariables false
structure PrO (p : Pr) (k : Nat) : Prop where
  c : PrC p
  ok : ∀ d l ls, p.cy d l = .ok ls → ls.length = k
  er : ∀ d l n, p.cy d l = .error n → n ≠ 16
  ef : pmR p.name = ((p.ks.length : Int), (k : Int), true)
  lo : k ≤ 3
theorem one_ok {r : Except Int Vt} {ls : List Vt} (h : oneR r = .ok ls) : ls.length = 1 := by
  cases r with
  | error n => cases h
  | ok t => cases h; rfl
theorem one_er {r : Except Int Vt} {n : Int} (h : oneR r = .error n) : r = .error n := by
  cases r with
  | error n => cases h; rfl
  | ok t => cases h
theorem nm_er {rk : Int → Int → Int × Int} {a b n : Int} (h : nmR rk a b = .error n) (h16 : (rk a b).2 ≠ 16) : n ≠ 16 := by
  unfold nmR at h
  split at h
  · cases h
  · cases h; exact h16
theorem ar16 (op a b : Int) : arE op a b ≠ 16 := by
  unfold arE
  (repeat' split) <;> omega
theorem jn_er {x y : Vt} {n : Int} (h : jnR x y = .error n) : n ≠ 16 := by
  unfold jnR at h
  split at h
  · split at h <;> cases h
  · cases h; decide
theorem pc_er {a b : Int} {x : Vt} {n : Int} (h : pcR a b x = .error n) : n ≠ 16 := by
  unfold pcR at h
  split at h <;> split at h <;> cases h <;> decide
theorem nt_er {a : Int} {x : Vt} {n : Int} (h : ntR a x = .error n) : n ≠ 16 := by
  unfold ntR at h
  split at h
  · rename_i n' e
    cases h
    exact pc_er e
  · split at h <;> cases h
theorem nu_er {d : Nat} {l : List Vt} {n : Int} (h : nuR d l = .error n) : n ≠ 16 := by
  unfold nuR at h
  split at h
  · cases h
  · cases h
    rcases num_cases (l.getD 0 zT).s with e | e | e <;> rw [e] <;> decide
theorem un_ok {l ls : List Vt} (h : unR l = .ok ls) : ls.length = 2 := by
  unfold unR at h
  split at h
  · split at h
    · cases h; assumption
    · cases h
  · cases h
theorem un_er {l : List Vt} {n : Int} (h : unR l = .error n) : n ≠ 16 := by
  unfold unR at h
  split at h
  · split at h
    · cases h
    · cases h; decide
  · cases h; decide
def q0 : Pr := ⟨⟨#[100, 117, 112]⟩, [63], fun _ l => .ok (lsR [0, 0] l)⟩
theorem o0 : PrO q0 2 := ⟨⟨wt_0, cy_mv mv_0 (by decide) (by decide) (by decide), by decide, by decide⟩, fun d l ls h => (by cases h; rfl), fun d l n h => (by cases h), by kernel_rfl, by decide⟩
def q1 : Pr := ⟨⟨#[100, 114, 111, 112]⟩, [63], fun _ l => .ok (lsR [] l)⟩
theorem o1 : PrO q1 0 := ⟨⟨wt_1, cy_mv mv_1 (by decide) (by decide) (by decide), by decide, by decide⟩, fun d l ls h => (by cases h; rfl), fun d l n h => (by cases h), by kernel_rfl, by decide⟩
def q2 : Pr := ⟨⟨#[115, 119, 97, 112]⟩, [63, 63], fun _ l => .ok (lsR [1, 0] l)⟩
theorem o2 : PrO q2 2 := ⟨⟨wt_2, cy_mv mv_2 (by decide) (by decide) (by decide), by decide, by decide⟩, fun d l ls h => (by cases h; rfl), fun d l n h => (by cases h), by kernel_rfl, by decide⟩
def q3 : Pr := ⟨⟨#[111, 118, 101, 114]⟩, [63, 63], fun _ l => .ok (lsR [0, 1, 0] l)⟩
theorem o3 : PrO q3 3 := ⟨⟨wt_3, cy_mv mv_3 (by decide) (by decide) (by decide), by decide, by decide⟩, fun d l ls h => (by cases h; rfl), fun d l n h => (by cases h), by kernel_rfl, by decide⟩
def q4 : Pr := ⟨⟨#[114, 111, 116]⟩, [63, 63, 63], fun _ l => .ok (lsR [1, 2, 0] l)⟩
theorem o4 : PrO q4 3 := ⟨⟨wt_4, cy_mv mv_4 (by decide) (by decide) (by decide), by decide, by decide⟩, fun d l ls h => (by cases h; rfl), fun d l n h => (by cases h), by kernel_rfl, by decide⟩
def q5 : Pr := ⟨⟨#[110, 105, 112]⟩, [63, 63], fun _ l => .ok (lsR [1] l)⟩
theorem o5 : PrO q5 1 := ⟨⟨wt_5, cy_mv mv_5 (by decide) (by decide) (by decide), by decide, by decide⟩, fun d l ls h => (by cases h; rfl), fun d l n h => (by cases h), by kernel_rfl, by decide⟩
def q6 : Pr := ⟨⟨#[116, 117, 99, 107]⟩, [63, 63], fun _ l => .ok (lsR [1, 0, 1] l)⟩
theorem o6 : PrO q6 3 := ⟨⟨wt_6, cy_mv mv_6 (by decide) (by decide) (by decide), by decide, by decide⟩, fun d l ls h => (by cases h; rfl), fun d l n h => (by cases h), by kernel_rfl, by decide⟩
def q7 : Pr := ⟨⟨#[43]⟩, [1, 1], fun _ l => oneR (nmR (arK 43) (l.getD 0 zT).n (l.getD 1 zT).n)⟩
theorem o7 : PrO q7 1 := ⟨⟨wt_7, cy_md mn_7 (by kernel_rfl) md_add, by decide, by decide⟩, fun d l ls h => one_ok (r := (nmR (arK 43) (l.getD 0 zT).n (l.getD 1 zT).n)) h, fun d l n h => nm_er (one_er (r := (nmR (arK 43) (l.getD 0 zT).n (l.getD 1 zT).n)) h) (ar16 _ _ _), by kernel_rfl, by decide⟩
def q8 : Pr := ⟨⟨#[45]⟩, [1, 1], fun _ l => oneR (nmR (arK 45) (l.getD 0 zT).n (l.getD 1 zT).n)⟩
theorem o8 : PrO q8 1 := ⟨⟨wt_8, cy_md mn_8 (by kernel_rfl) md_sub, by decide, by decide⟩, fun d l ls h => one_ok (r := (nmR (arK 45) (l.getD 0 zT).n (l.getD 1 zT).n)) h, fun d l n h => nm_er (one_er (r := (nmR (arK 45) (l.getD 0 zT).n (l.getD 1 zT).n)) h) (ar16 _ _ _), by kernel_rfl, by decide⟩
def q9 : Pr := ⟨⟨#[42]⟩, [1, 1], fun _ l => oneR (nmR (arK 42) (l.getD 0 zT).n (l.getD 1 zT).n)⟩
theorem o9 : PrO q9 1 := ⟨⟨wt_9, cy_md mn_9 (by kernel_rfl) md_mul, by decide, by decide⟩, fun d l ls h => one_ok (r := (nmR (arK 42) (l.getD 0 zT).n (l.getD 1 zT).n)) h, fun d l n h => nm_er (one_er (r := (nmR (arK 42) (l.getD 0 zT).n (l.getD 1 zT).n)) h) (ar16 _ _ _), by kernel_rfl, by decide⟩
def q10 : Pr := ⟨⟨#[47]⟩, [1, 1], fun _ l => oneR (nmR (arK 47) (l.getD 0 zT).n (l.getD 1 zT).n)⟩
theorem o10 : PrO q10 1 := ⟨⟨wt_10, cy_md mn_10 (by kernel_rfl) md_div, by decide, by decide⟩, fun d l ls h => one_ok (r := (nmR (arK 47) (l.getD 0 zT).n (l.getD 1 zT).n)) h, fun d l n h => nm_er (one_er (r := (nmR (arK 47) (l.getD 0 zT).n (l.getD 1 zT).n)) h) (ar16 _ _ _), by kernel_rfl, by decide⟩
def q11 : Pr := ⟨⟨#[109, 111, 100]⟩, [1, 1], fun _ l => oneR (nmR (arK 37) (l.getD 0 zT).n (l.getD 1 zT).n)⟩
theorem o11 : PrO q11 1 := ⟨⟨wt_11, cy_md mn_11 (by kernel_rfl) md_mod, by decide, by decide⟩, fun d l ls h => one_ok (r := (nmR (arK 37) (l.getD 0 zT).n (l.getD 1 zT).n)) h, fun d l n h => nm_er (one_er (r := (nmR (arK 37) (l.getD 0 zT).n (l.getD 1 zT).n)) h) (ar16 _ _ _), by kernel_rfl, by decide⟩
def q12 : Pr := ⟨⟨#[110, 101, 103]⟩, [1], fun _ l => oneR (nmR ngK (l.getD 0 zT).n (l.getD 0 zT).n)⟩
theorem o12 : PrO q12 1 := ⟨⟨wt_12, cy_md mn_12 (by kernel_rfl) md_neg, by decide, by decide⟩, fun d l ls h => one_ok (r := (nmR ngK (l.getD 0 zT).n (l.getD 0 zT).n)) h, fun d l n h => nm_er (one_er (r := (nmR ngK (l.getD 0 zT).n (l.getD 0 zT).n)) h) (ar16 _ _ _), by kernel_rfl, by decide⟩
def q13 : Pr := ⟨⟨#[97, 98, 115]⟩, [1], fun _ l => oneR (nmR abK (l.getD 0 zT).n (l.getD 0 zT).n)⟩
theorem o13 : PrO q13 1 := ⟨⟨wt_13, cy_md mn_13 (by kernel_rfl) md_abs, by decide, by decide⟩, fun d l ls h => one_ok (r := (nmR abK (l.getD 0 zT).n (l.getD 0 zT).n)) h, fun d l n h => nm_er (one_er (r := (nmR abK (l.getD 0 zT).n (l.getD 0 zT).n)) h) (by unfold abK; split; exact ar16 _ _ _; (show (0 : Int) ≠ 16; decide)), by kernel_rfl, by decide⟩
def q14 : Pr := ⟨⟨#[109, 105, 110]⟩, [1, 1], fun _ l => oneR (nmR miK (l.getD 0 zT).n (l.getD 1 zT).n)⟩
theorem o14 : PrO q14 1 := ⟨⟨wt_14, cy_md mn_14 (by kernel_rfl) md_min, by decide, by decide⟩, fun d l ls h => one_ok (r := (nmR miK (l.getD 0 zT).n (l.getD 1 zT).n)) h, fun d l n h => nm_er (one_er (r := (nmR miK (l.getD 0 zT).n (l.getD 1 zT).n)) h) (by show (0 : Int) ≠ 16; decide), by kernel_rfl, by decide⟩
def q15 : Pr := ⟨⟨#[109, 97, 120]⟩, [1, 1], fun _ l => oneR (nmR maK (l.getD 0 zT).n (l.getD 1 zT).n)⟩
theorem o15 : PrO q15 1 := ⟨⟨wt_15, cy_md mn_15 (by kernel_rfl) md_max, by decide, by decide⟩, fun d l ls h => one_ok (r := (nmR maK (l.getD 0 zT).n (l.getD 1 zT).n)) h, fun d l n h => nm_er (one_er (r := (nmR maK (l.getD 0 zT).n (l.getD 1 zT).n)) h) (by show (0 : Int) ≠ 16; decide), by kernel_rfl, by decide⟩
def q16 : Pr := ⟨⟨#[60]⟩, [1, 1], fun _ l => oneR (.ok (boT (decide ((l.getD 0 zT).n < (l.getD 1 zT).n))))⟩
theorem o16 : PrO q16 1 := ⟨⟨wt_16, cy_md mn_16 (by kernel_rfl) (mh_lt ho_lt), by decide, by decide⟩, fun d l ls h => one_ok (r := (.ok (boT (decide ((l.getD 0 zT).n < (l.getD 1 zT).n))))) h, fun d l n h => (by cases (one_er (r := (.ok (boT (decide ((l.getD 0 zT).n < (l.getD 1 zT).n))))) h)), by kernel_rfl, by decide⟩
def q17 : Pr := ⟨⟨#[62]⟩, [1, 1], fun _ l => oneR (.ok (boT (decide ((l.getD 0 zT).n > (l.getD 1 zT).n))))⟩
theorem o17 : PrO q17 1 := ⟨⟨wt_17, cy_md mn_17 (by kernel_rfl) (mh_gt ho_gt), by decide, by decide⟩, fun d l ls h => one_ok (r := (.ok (boT (decide ((l.getD 0 zT).n > (l.getD 1 zT).n))))) h, fun d l n h => (by cases (one_er (r := (.ok (boT (decide ((l.getD 0 zT).n > (l.getD 1 zT).n))))) h)), by kernel_rfl, by decide⟩
def q18 : Pr := ⟨⟨#[61]⟩, [63, 63], fun d l => oneR (eqR d l)⟩
theorem o18 : PrO q18 1 := ⟨⟨wt_18, cy_md mn_18 (by kernel_rfl) md_eq, by decide, by decide⟩, fun d l ls h => one_ok (r := (eqR d l)) h, fun d l n h => (by cases (one_er (r := (eqR d l)) h)), by kernel_rfl, by decide⟩
def q19 : Pr := ⟨⟨#[97, 110, 100]⟩, [4, 4], fun _ l => oneR (.ok (boT (flB (l.getD 0 zT) && flB (l.getD 1 zT))))⟩
theorem o19 : PrO q19 1 := ⟨⟨wt_19, cy_md mn_19 (by kernel_rfl) (mh_and ho_and), by decide, by decide⟩, fun d l ls h => one_ok (r := (.ok (boT (flB (l.getD 0 zT) && flB (l.getD 1 zT))))) h, fun d l n h => (by cases (one_er (r := (.ok (boT (flB (l.getD 0 zT) && flB (l.getD 1 zT))))) h)), by kernel_rfl, by decide⟩
def q20 : Pr := ⟨⟨#[111, 114]⟩, [4, 4], fun _ l => oneR (.ok (boT (flB (l.getD 0 zT) || flB (l.getD 1 zT))))⟩
theorem o20 : PrO q20 1 := ⟨⟨wt_20, cy_md mn_20 (by kernel_rfl) (mh_or ho_or), by decide, by decide⟩, fun d l ls h => one_ok (r := (.ok (boT (flB (l.getD 0 zT) || flB (l.getD 1 zT))))) h, fun d l n h => (by cases (one_er (r := (.ok (boT (flB (l.getD 0 zT) || flB (l.getD 1 zT))))) h)), by kernel_rfl, by decide⟩
def q21 : Pr := ⟨⟨#[110, 111, 116]⟩, [4], fun _ l => oneR (.ok (boT (!flB (l.getD 0 zT))))⟩
theorem o21 : PrO q21 1 := ⟨⟨wt_21, cy_md mn_21 (by kernel_rfl) (mh_not ho_not), by decide, by decide⟩, fun d l ls h => one_ok (r := (.ok (boT (!flB (l.getD 0 zT))))) h, fun d l n h => (by cases (one_er (r := (.ok (boT (!flB (l.getD 0 zT))))) h)), by kernel_rfl, by decide⟩
def q22 : Pr := ⟨⟨#[105, 110, 116, 63]⟩, [63], fun _ l => oneR (.ok (boT (kd (l.getD 0 zT) == 1)))⟩
theorem o22 : PrO q22 1 := ⟨⟨wt_22, cy_md mn_22 (by kernel_rfl) (mh_intQ ho_intQ), by decide, by decide⟩, fun d l ls h => one_ok (r := (.ok (boT (kd (l.getD 0 zT) == 1)))) h, fun d l n h => (by cases (one_er (r := (.ok (boT (kd (l.getD 0 zT) == 1)))) h)), by kernel_rfl, by decide⟩
def q23 : Pr := ⟨⟨#[115, 116, 114, 63]⟩, [63], fun _ l => oneR (.ok (boT (kd (l.getD 0 zT) == 2)))⟩
theorem o23 : PrO q23 1 := ⟨⟨wt_23, cy_md mn_23 (by kernel_rfl) (mh_strQ ho_strQ), by decide, by decide⟩, fun d l ls h => one_ok (r := (.ok (boT (kd (l.getD 0 zT) == 2)))) h, fun d l n h => (by cases (one_er (r := (.ok (boT (kd (l.getD 0 zT) == 2)))) h)), by kernel_rfl, by decide⟩
def q24 : Pr := ⟨⟨#[98, 111, 111, 108, 63]⟩, [63], fun _ l => oneR (.ok (boT (kd (l.getD 0 zT) == 4)))⟩
theorem o24 : PrO q24 1 := ⟨⟨wt_24, cy_md mn_24 (by kernel_rfl) (mh_boolQ ho_boolQ), by decide, by decide⟩, fun d l ls h => one_ok (r := (.ok (boT (kd (l.getD 0 zT) == 4)))) h, fun d l n h => (by cases (one_er (r := (.ok (boT (kd (l.getD 0 zT) == 4)))) h)), by kernel_rfl, by decide⟩
def q25 : Pr := ⟨⟨#[108, 105, 115, 116, 63]⟩, [63], fun _ l => oneR (.ok (boT (kd (l.getD 0 zT) == 8)))⟩
theorem o25 : PrO q25 1 := ⟨⟨wt_25, cy_md mn_25 (by kernel_rfl) (mh_listQ ho_listQ), by decide, by decide⟩, fun d l ls h => one_ok (r := (.ok (boT (kd (l.getD 0 zT) == 8)))) h, fun d l n h => (by cases (one_er (r := (.ok (boT (kd (l.getD 0 zT) == 8)))) h)), by kernel_rfl, by decide⟩
def q26 : Pr := ⟨⟨#[113, 117, 111, 116, 63]⟩, [63], fun _ l => oneR (.ok (boT (kd (l.getD 0 zT) == 16)))⟩
theorem o26 : PrO q26 1 := ⟨⟨wt_26, cy_md mn_26 (by kernel_rfl) (mh_quotQ ho_quotQ), by decide, by decide⟩, fun d l ls h => one_ok (r := (.ok (boT (kd (l.getD 0 zT) == 16)))) h, fun d l n h => (by cases (one_er (r := (.ok (boT (kd (l.getD 0 zT) == 16)))) h)), by kernel_rfl, by decide⟩
def q27 : Pr := ⟨⟨#[98, 111, 120, 63]⟩, [63], fun _ l => oneR (.ok (boT (kd (l.getD 0 zT) == 32)))⟩
theorem o27 : PrO q27 1 := ⟨⟨wt_27, cy_md mn_27 (by kernel_rfl) (mh_boxQ ho_boxQ), by decide, by decide⟩, fun d l ls h => one_ok (r := (.ok (boT (kd (l.getD 0 zT) == 32)))) h, fun d l n h => (by cases (one_er (r := (.ok (boT (kd (l.getD 0 zT) == 32)))) h)), by kernel_rfl, by decide⟩
def q28 : Pr := ⟨⟨#[108, 101, 110, 103, 116, 104]⟩, [26], fun _ l => oneR (.ok (inT (lnT (l.getD 0 zT))))⟩
theorem o28 : PrO q28 1 := ⟨⟨wt_28, cy_md mn_28 (by kernel_rfl) md_length, by decide, by decide⟩, fun d l ls h => one_ok (r := (.ok (inT (lnT (l.getD 0 zT))))) h, fun d l n h => (by cases (one_er (r := (.ok (inT (lnT (l.getD 0 zT))))) h)), by kernel_rfl, by decide⟩
def q29 : Pr := ⟨⟨#[97, 112, 112, 101, 110, 100]⟩, [26, 26], fun _ l => oneR (jnR (l.getD 0 zT) (l.getD 1 zT))⟩
theorem o29 : PrO q29 1 := ⟨⟨wt_29, cy_md mn_29 (by kernel_rfl) md_append, by decide, by decide⟩, fun d l ls h => one_ok (r := (jnR (l.getD 0 zT) (l.getD 1 zT))) h, fun d l n h => jn_er (one_er (r := (jnR (l.getD 0 zT) (l.getD 1 zT))) h), by kernel_rfl, by decide⟩
def q30 : Pr := ⟨⟨#[110, 116, 104]⟩, [1, 10], fun _ l => oneR (ntR (l.getD 0 zT).n (l.getD 1 zT))⟩
theorem o30 : PrO q30 1 := ⟨⟨wt_30, cy_md mn_30 (by kernel_rfl) md_nth, by decide, by decide⟩, fun d l ls h => one_ok (r := (ntR (l.getD 0 zT).n (l.getD 1 zT))) h, fun d l n h => nt_er (one_er (r := (ntR (l.getD 0 zT).n (l.getD 1 zT))) h), by kernel_rfl, by decide⟩
def q31 : Pr := ⟨⟨#[115, 108, 105, 99, 101]⟩, [1, 1, 10], fun _ l => oneR (pcR (l.getD 0 zT).n (l.getD 1 zT).n (l.getD 2 zT))⟩
theorem o31 : PrO q31 1 := ⟨⟨wt_31, cy_md mn_31 (by kernel_rfl) md_slice, by decide, by decide⟩, fun d l ls h => one_ok (r := (pcR (l.getD 0 zT).n (l.getD 1 zT).n (l.getD 2 zT))) h, fun d l n h => pc_er (one_er (r := (pcR (l.getD 0 zT).n (l.getD 1 zT).n (l.getD 2 zT))) h), by kernel_rfl, by decide⟩
def q32 : Pr := ⟨⟨#[119, 114, 97, 112]⟩, [63], fun _ l => oneR (.ok (lisT l))⟩
theorem o32 : PrO q32 1 := ⟨⟨wt_32, cy_md mn_32 (by kernel_rfl) md_wrap, by decide, by decide⟩, fun d l ls h => one_ok (r := (.ok (lisT l))) h, fun d l n h => (by cases (one_er (r := (.ok (lisT l))) h)), by kernel_rfl, by decide⟩
def q33 : Pr := ⟨⟨#[112, 97, 105, 114]⟩, [63, 63], fun _ l => oneR (.ok (lisT l))⟩
theorem o33 : PrO q33 1 := ⟨⟨wt_33, cy_md mn_33 (by kernel_rfl) md_pair, by decide, by decide⟩, fun d l ls h => one_ok (r := (.ok (lisT l))) h, fun d l n h => (by cases (one_er (r := (.ok (lisT l))) h)), by kernel_rfl, by decide⟩
def q34 : Pr := ⟨⟨#[117, 110, 112, 97, 105, 114]⟩, [8], fun _ => unR⟩
theorem o34 : PrO q34 2 := ⟨⟨wt_34, cy_unpair mn_34, by decide, by decide⟩, fun d l ls h => un_ok h, fun d l n h => un_er h, by kernel_rfl, by decide⟩
def q35 : Pr := ⟨⟨#[114, 101, 118, 101, 114, 115, 101]⟩, [10], fun _ l => oneR (.ok (rvT (l.getD 0 zT)))⟩
theorem o35 : PrO q35 1 := ⟨⟨wt_35, cy_md mn_35 (by kernel_rfl) md_reverse, by decide, by decide⟩, fun d l ls h => one_ok (r := (.ok (rvT (l.getD 0 zT)))) h, fun d l n h => (by cases (one_er (r := (.ok (rvT (l.getD 0 zT)))) h)), by kernel_rfl, by decide⟩
def q36 : Pr := ⟨⟨#[99, 117, 114, 114, 121]⟩, [63, 16], fun _ l => oneR (jnR (quoT [l.getD 0 zT]) (l.getD 1 zT))⟩
theorem o36 : PrO q36 1 := ⟨⟨wt_36, cy_md mn_36 (by kernel_rfl) md_curry, by decide, by decide⟩, fun d l ls h => one_ok (r := (jnR (quoT [l.getD 0 zT]) (l.getD 1 zT))) h, fun d l n h => jn_er (one_er (r := (jnR (quoT [l.getD 0 zT]) (l.getD 1 zT))) h), by kernel_rfl, by decide⟩
def q37 : Pr := ⟨⟨#[99, 111, 109, 112, 111, 115, 101]⟩, [16, 16], fun _ l => oneR (jnR (l.getD 0 zT) (l.getD 1 zT))⟩
theorem o37 : PrO q37 1 := ⟨⟨wt_37, cy_md mn_37 (by kernel_rfl) md_compose, by decide, by decide⟩, fun d l ls h => one_ok (r := (jnR (l.getD 0 zT) (l.getD 1 zT))) h, fun d l n h => jn_er (one_er (r := (jnR (l.getD 0 zT) (l.getD 1 zT))) h), by kernel_rfl, by decide⟩
def q38 : Pr := ⟨⟨#[62, 115, 116, 114]⟩, [63], fun d l => oneR (txR d l)⟩
theorem o38 : PrO q38 1 := ⟨⟨wt_38, cy_md mn_38 (by kernel_rfl) md_str, by decide, by decide⟩, fun d l ls h => one_ok (r := (txR d l)) h, fun d l n h => (by cases (one_er (r := (txR d l)) h)), by kernel_rfl, by decide⟩
def q39 : Pr := ⟨⟨#[62, 105, 110, 116]⟩, [2], fun d l => oneR (nuR d l)⟩
theorem o39 : PrO q39 1 := ⟨⟨wt_39, cy_md mn_39 (by kernel_rfl) md_int, by decide, by decide⟩, fun d l ls h => one_ok (r := (nuR d l)) h, fun d l n h => nu_er (one_er (r := (nuR d l)) h), by kernel_rfl, by decide⟩
theorem pr_k {p : Pr} {k : Nat} (h : PrO p k) : k ≤ 3 := h.lo
theorem pr_all {s : ByteArray} (h : s.toList ∈ tbL) : ∃ p k, p.name = s ∧ PrO p k := by
  have inj : ∀ {t : ByteArray}, s.toList = t.toList → t = s := fun h => by
    apply ByteArray.ext
    have := congrArg List.toArray h.symm
    simpa [ByteArray.toList_eq] using this
  unfold tbL at h
  simp only [List.mem_cons, List.not_mem_nil, or_false] at h
  rcases h with h | h | h | h | h | h | h | h | h | h | h | h | h | h | h | h | h | h | h | h | h | h | h | h | h | h | h | h | h | h | h | h | h | h | h | h | h | h | h | h
  · exact ⟨q0, _, inj (t := q0.name) (h.trans (by kernel_rfl)), o0⟩
  · exact ⟨q1, _, inj (t := q1.name) (h.trans (by kernel_rfl)), o1⟩
  · exact ⟨q2, _, inj (t := q2.name) (h.trans (by kernel_rfl)), o2⟩
  · exact ⟨q3, _, inj (t := q3.name) (h.trans (by kernel_rfl)), o3⟩
  · exact ⟨q4, _, inj (t := q4.name) (h.trans (by kernel_rfl)), o4⟩
  · exact ⟨q5, _, inj (t := q5.name) (h.trans (by kernel_rfl)), o5⟩
  · exact ⟨q6, _, inj (t := q6.name) (h.trans (by kernel_rfl)), o6⟩
  · exact ⟨q7, _, inj (t := q7.name) (h.trans (by kernel_rfl)), o7⟩
  · exact ⟨q8, _, inj (t := q8.name) (h.trans (by kernel_rfl)), o8⟩
  · exact ⟨q9, _, inj (t := q9.name) (h.trans (by kernel_rfl)), o9⟩
  · exact ⟨q10, _, inj (t := q10.name) (h.trans (by kernel_rfl)), o10⟩
  · exact ⟨q11, _, inj (t := q11.name) (h.trans (by kernel_rfl)), o11⟩
  · exact ⟨q12, _, inj (t := q12.name) (h.trans (by kernel_rfl)), o12⟩
  · exact ⟨q13, _, inj (t := q13.name) (h.trans (by kernel_rfl)), o13⟩
  · exact ⟨q14, _, inj (t := q14.name) (h.trans (by kernel_rfl)), o14⟩
  · exact ⟨q15, _, inj (t := q15.name) (h.trans (by kernel_rfl)), o15⟩
  · exact ⟨q16, _, inj (t := q16.name) (h.trans (by kernel_rfl)), o16⟩
  · exact ⟨q17, _, inj (t := q17.name) (h.trans (by kernel_rfl)), o17⟩
  · exact ⟨q18, _, inj (t := q18.name) (h.trans (by kernel_rfl)), o18⟩
  · exact ⟨q19, _, inj (t := q19.name) (h.trans (by kernel_rfl)), o19⟩
  · exact ⟨q20, _, inj (t := q20.name) (h.trans (by kernel_rfl)), o20⟩
  · exact ⟨q21, _, inj (t := q21.name) (h.trans (by kernel_rfl)), o21⟩
  · exact ⟨q22, _, inj (t := q22.name) (h.trans (by kernel_rfl)), o22⟩
  · exact ⟨q23, _, inj (t := q23.name) (h.trans (by kernel_rfl)), o23⟩
  · exact ⟨q24, _, inj (t := q24.name) (h.trans (by kernel_rfl)), o24⟩
  · exact ⟨q25, _, inj (t := q25.name) (h.trans (by kernel_rfl)), o25⟩
  · exact ⟨q26, _, inj (t := q26.name) (h.trans (by kernel_rfl)), o26⟩
  · exact ⟨q27, _, inj (t := q27.name) (h.trans (by kernel_rfl)), o27⟩
  · exact ⟨q28, _, inj (t := q28.name) (h.trans (by kernel_rfl)), o28⟩
  · exact ⟨q29, _, inj (t := q29.name) (h.trans (by kernel_rfl)), o29⟩
  · exact ⟨q30, _, inj (t := q30.name) (h.trans (by kernel_rfl)), o30⟩
  · exact ⟨q31, _, inj (t := q31.name) (h.trans (by kernel_rfl)), o31⟩
  · exact ⟨q32, _, inj (t := q32.name) (h.trans (by kernel_rfl)), o32⟩
  · exact ⟨q33, _, inj (t := q33.name) (h.trans (by kernel_rfl)), o33⟩
  · exact ⟨q34, _, inj (t := q34.name) (h.trans (by kernel_rfl)), o34⟩
  · exact ⟨q35, _, inj (t := q35.name) (h.trans (by kernel_rfl)), o35⟩
  · exact ⟨q36, _, inj (t := q36.name) (h.trans (by kernel_rfl)), o36⟩
  · exact ⟨q37, _, inj (t := q37.name) (h.trans (by kernel_rfl)), o37⟩
  · exact ⟨q38, _, inj (t := q38.name) (h.trans (by kernel_rfl)), o38⟩
  · exact ⟨q39, _, inj (t := q39.name) (h.trans (by kernel_rfl)), o39⟩
end Go.Proofs.YtioffjdjnlibgaaGreatDoor
namespace Go.Proofs.YtioffjdjnlibgaaGreatDoor
open Go.RowKit Go.Lib
set_option linter.unusedSimpArgs false
set_option linter.unusedVariables false
/-- the table of white space, as it begins -/
def As (w : World) : Prop := Lib.TabIs Tryz.prog w "strings.asciiSpace" .u8 Lib.asciiSpaceTab
theorem As.frame {w w' : World} (h : As w) (o : Only (fun _ => False) w w') : As w' := by
  unfold As Lib.TabIs at *
  unfold World.var? at *
  cases hg : Tryz.prog.globalNamed "strings.asciiSpace" with
  | none => rw [hg] at h; simp at h
  | some g =>
    rw [hg] at h
    simp only [Option.bind_some] at h ⊢
    cases hb : w.heap[g]? with
    | none => rw [hb] at h; simp at h
    | some ob =>
      rw [hb] at h
      rw [o.block g (Array.getElem?_eq_some_iff.1 hb).1 (fun g => g), hb]
      exact h
/-- the tables of a run -/
def Ty (w : World) : Prop := Tx w ∧ As w
theorem Ty.frame {w w' : World} (h : Ty w) (o : Only (fun _ => False) w w') : Ty w' := ⟨h.1.frame o, h.2.frame o⟩
/-- the names, one behind the other -/
def pmText : ByteArray := ⟨#[100, 117, 112, 32, 100, 114, 111, 112, 32, 115, 119, 97, 112, 32, 111, 118, 101, 114, 32, 114, 111, 116, 32, 110, 105, 112, 32, 116, 117, 99, 107, 32, 43, 32, 45, 32, 42, 32, 47, 32, 109, 111, 100, 32, 110, 101, 103, 32, 97, 98, 115, 32, 109, 105, 110, 32, 109, 97, 120, 32, 60, 32, 62, 32, 61, 32, 97, 110, 100, 32, 111, 114, 32, 110, 111, 116, 32, 105, 110, 116, 63, 32, 115, 116, 114, 63, 32, 98, 111, 111, 108, 63, 32, 108, 105, 115, 116, 63, 32, 113, 117, 111, 116, 63, 32, 98, 111, 120, 63, 32, 108, 101, 110, 103, 116, 104, 32, 97, 112, 112, 101, 110, 100, 32, 110, 116, 104, 32, 115, 108, 105, 99, 101, 32, 119, 114, 97, 112, 32, 112, 97, 105, 114, 32, 117, 110, 112, 97, 105, 114, 32, 114, 101, 118, 101, 114, 115, 101, 32, 99, 117, 114, 114, 121, 32, 99, 111, 109, 112, 111, 115, 101, 32, 62, 115, 116, 114, 32, 62, 105, 110, 116, 32, 99, 97, 108, 108, 32, 100, 105, 112, 32, 107, 101, 101, 112, 32, 105, 102, 32, 119, 104, 101, 110, 32, 116, 105, 109, 101, 115, 32, 101, 97, 99, 104, 32, 108, 111, 111, 112, 32, 98, 111, 120, 32, 103, 101, 116, 32, 112, 117, 116, 32, 46]⟩
def pmNames : List ByteArray := [⟨#[100, 117, 112]⟩, ⟨#[100, 114, 111, 112]⟩, ⟨#[115, 119, 97, 112]⟩, ⟨#[111, 118, 101, 114]⟩, ⟨#[114, 111, 116]⟩, ⟨#[110, 105, 112]⟩, ⟨#[116, 117, 99, 107]⟩, ⟨#[43]⟩, ⟨#[45]⟩, ⟨#[42]⟩, ⟨#[47]⟩, ⟨#[109, 111, 100]⟩, ⟨#[110, 101, 103]⟩, ⟨#[97, 98, 115]⟩, ⟨#[109, 105, 110]⟩, ⟨#[109, 97, 120]⟩, ⟨#[60]⟩, ⟨#[62]⟩, ⟨#[61]⟩, ⟨#[97, 110, 100]⟩, ⟨#[111, 114]⟩, ⟨#[110, 111, 116]⟩, ⟨#[105, 110, 116, 63]⟩, ⟨#[115, 116, 114, 63]⟩, ⟨#[98, 111, 111, 108, 63]⟩, ⟨#[108, 105, 115, 116, 63]⟩, ⟨#[113, 117, 111, 116, 63]⟩, ⟨#[98, 111, 120, 63]⟩, ⟨#[108, 101, 110, 103, 116, 104]⟩, ⟨#[97, 112, 112, 101, 110, 100]⟩, ⟨#[110, 116, 104]⟩, ⟨#[115, 108, 105, 99, 101]⟩, ⟨#[119, 114, 97, 112]⟩, ⟨#[112, 97, 105, 114]⟩, ⟨#[117, 110, 112, 97, 105, 114]⟩, ⟨#[114, 101, 118, 101, 114, 115, 101]⟩, ⟨#[99, 117, 114, 114, 121]⟩, ⟨#[99, 111, 109, 112, 111, 115, 101]⟩, ⟨#[62, 115, 116, 114]⟩, ⟨#[62, 105, 110, 116]⟩, ⟨#[99, 97, 108, 108]⟩, ⟨#[100, 105, 112]⟩, ⟨#[107, 101, 101, 112]⟩, ⟨#[105, 102]⟩, ⟨#[119, 104, 101, 110]⟩, ⟨#[116, 105, 109, 101, 115]⟩, ⟨#[101, 97, 99, 104]⟩, ⟨#[108, 111, 111, 112]⟩, ⟨#[98, 111, 120]⟩, ⟨#[103, 101, 116]⟩, ⟨#[112, 117, 116]⟩, ⟨#[46]⟩]
theorem nm_fields : (Lib.fields pmText.data.toList).map (fun l => Value.string ⟨l.toArray⟩) = pmNames.map Value.string := by kernel_rfl
theorem nm_len : (Lib.fields pmText.data.toList).length = 52 := by kernel_rfl
theorem nm_ascii : ∀ (j : Nat) b, pmText.data.toList[j]? = some b → b.toNat < 128 := by
  have h : pmText.data.toList.all (fun b => decide (b.toNat < 128)) = true := by kernel_rfl
  intro j b hb
  have := List.all_eq_true.1 h b (List.mem_of_getElem? hb)
  simpa using this
theorem fields_names (w : World) (h : As w) : Calls Tryz.prog 31 #[.string pmText] w fun e w' => e = .returned (.slice (some ⟨w.heap.size, 0, none⟩) 52 52) ∧ w' = w.alloc (.cells (pmNames.map Value.string).toArray 9) := by
  have := Any.strings_Fields Tryz.laysFields (by kernel_rfl) (by kernel_rfl) pmText w (of_decide_eq_true (by kernel_rfl)) nm_ascii h
  rw [nm_len, nm_fields] at this
  exact this
set_option maxRecDepth 100000 in
theorem names_any (w : World) (h : As w) : Calls Tryz.prog 19 #[] w fun e w' => e = .returned (.slice (some ⟨w.heap.size, 0, none⟩) 52 52) ∧ w' = w.alloc (.cells (pmNames.map Value.string).toArray 9) := by
  have HF : Hid _ := fields_names w h
  clear h
  go_enter Tryz.func19, Tryz.ntmps19
  go_wp2_with fail
  refine (show Calls Tryz.prog 31 _ _ _ from HF.out).mono ?_
  rintro e w1 ⟨rfl, hw⟩
  subst hw
  go_wp2
  go_ret
  exact ⟨rfl, rfl⟩
/-- is it a primitive's name? -/
def isB (s : ByteArray) : Bool := Lib.containsS pmNames s
set_option maxRecDepth 100000 in
theorem is_any (s : ByteArray) (w : World) (h : As w) : Calls Tryz.prog 9 #[.string s] w fun e w' => e = .returned (.bool (isB s)) ∧ Only (fun _ => False) w w' := by
  have HN : Hid _ := names_any w h
  obtain ⟨W, hW⟩ : ∃ W, W = w.alloc (.cells (pmNames.map Value.string).toArray 9) := ⟨_, rfl⟩
  have o1 : Only (fun _ => False) w W := by rw [hW]; exact (Only.refl _ w).alloc _
  have HC : Hid _ := Any.slices_Contains_string Tryz.laysContains w.heap.size 0 52 52 pmNames s W (by decide) (by omega) (fun j hj => by
    rw [hW, vblk_cells (valloc_at w _ _ rfl), Nat.zero_add, List.getElem?_toArray, List.getElem?_map, List.getD_eq_getElem?_getD, List.getElem?_eq_getElem hj]
    rfl)
  rw [← hW] at HN
  have HO : Hid (Only (fun _ => False) w W) := o1
  obtain ⟨Z, hZ⟩ : ∃ Z, Z = isB s := ⟨_, rfl⟩
  have HZ : Hid (Lib.containsS (pmNames.take 52) s = Z) := by rw [hZ]; exact rfl
  rw [← hZ]
  clear h hW o1 hZ
  go_enter Tryz.func9, Tryz.ntmps9
  go_wp2_with fail
  refine (show Calls Tryz.prog 19 _ _ _ from HN.out).mono ?_
  rintro e w1 ⟨rfl, hw⟩
  obtain rfl := hw.symm
  go_wp2_with fail
  refine (show Calls Tryz.prog 18 _ _ _ from HC.out).mono ?_
  rintro e w1 ⟨rfl, hw⟩
  obtain rfl := hw.symm
  rw [HZ.out]
  go_wp2
  go_ret
  exact ⟨rfl, HO.out⟩
end Go.Proofs.YtioffjdjnlibgaaGreatDoor
namespace Go.Proofs.YtioffjdjnlibgaaGreatDoor
open Go.RowKit Go.Lib
set_option linter.unusedSimpArgs false
set_option linter.unusedVariables false
def pDup : Pr := ⟨⟨#[100, 117, 112]⟩, [63], fun _ l => .ok (lsR [0, 0] l)⟩
theorem cDup : PrC pDup := ⟨wt_0, cy_mv mv_0 (by decide) (by decide) (by decide), by decide, by decide⟩
def pDrop : Pr := ⟨⟨#[100, 114, 111, 112]⟩, [63], fun _ l => .ok (lsR [] l)⟩
theorem cDrop : PrC pDrop := ⟨wt_1, cy_mv mv_1 (by decide) (by decide) (by decide), by decide, by decide⟩
def pSwap : Pr := ⟨⟨#[115, 119, 97, 112]⟩, [63, 63], fun _ l => .ok (lsR [1, 0] l)⟩
theorem cSwap : PrC pSwap := ⟨wt_2, cy_mv mv_2 (by decide) (by decide) (by decide), by decide, by decide⟩
def pOver : Pr := ⟨⟨#[111, 118, 101, 114]⟩, [63, 63], fun _ l => .ok (lsR [0, 1, 0] l)⟩
theorem cOver : PrC pOver := ⟨wt_3, cy_mv mv_3 (by decide) (by decide) (by decide), by decide, by decide⟩
def pRot : Pr := ⟨⟨#[114, 111, 116]⟩, [63, 63, 63], fun _ l => .ok (lsR [1, 2, 0] l)⟩
theorem cRot : PrC pRot := ⟨wt_4, cy_mv mv_4 (by decide) (by decide) (by decide), by decide, by decide⟩
def pNip : Pr := ⟨⟨#[110, 105, 112]⟩, [63, 63], fun _ l => .ok (lsR [1] l)⟩
theorem cNip : PrC pNip := ⟨wt_5, cy_mv mv_5 (by decide) (by decide) (by decide), by decide, by decide⟩
def pTuck : Pr := ⟨⟨#[116, 117, 99, 107]⟩, [63, 63], fun _ l => .ok (lsR [1, 0, 1] l)⟩
theorem cTuck : PrC pTuck := ⟨wt_6, cy_mv mv_6 (by decide) (by decide) (by decide), by decide, by decide⟩
def pPair : Pr := ⟨⟨#[112, 97, 105, 114]⟩, [63, 63], fun _ l => oneR (.ok (lisT l))⟩
theorem cPair : PrC pPair := ⟨wt_33, cy_md mn_33 (by kernel_rfl) md_pair, by decide, by decide⟩
def pUnpair : Pr := ⟨⟨#[117, 110, 112, 97, 105, 114]⟩, [8], fun _ => unR⟩
theorem cUnpair : PrC pUnpair := ⟨wt_34, cy_unpair mn_34, by decide, by decide⟩
/-- a sound value, of depth e -/
def Gs (e : Nat) (t : Vt) : Prop := LfT e t ∧ dsB e t = true
theorem Gs.sd {e D : Nat} {t : Vt} (h : Gs e t) (hD : 2 * e + 1 ≤ D) : sdB D t = true := (ds_sd h.1 hD).trans h.2
theorem Gs.fb {e : Nat} {t : Vt} (h : Gs e t) : fb t 63 = true := by
  have h1 := h.sd (Nat.le_refl _)
  unfold sdB msB at h1
  simp only [Bool.and_eq_true] at h1
  have h2 := ok_kind h1.1.1
  rw [fb_63]
  simpa using h2
theorem doR_ok {d : Nat} {ks : List Int} {cy : Nat → List Vt → Except Int (List Vt)} {l ls l' : List Vt} (h1 : l.all (sdB d) = true) (h2 : ks.length ≤ l.length) (h3 : fitB (l.drop (l.length - ks.length)) ks = true) (h4 : cy d (l.drop (l.length - ks.length)) = .ok ls) (h5 : ls.all (sdB (d + 2)) = true) (h6 : l.take (l.length - ks.length) ++ ls = l') : doR d ks cy l = .ok l' := by
  unfold doR
  rw [if_neg (by rw [h1]; simp), if_neg (by omega), if_neg (by rw [h3]; simp), h4]
  simp only [fnR]
  rw [if_pos h5, h6]
theorem doR_form {d : Nat} {ks : List Int} {cy : Nat → List Vt → Except Int (List Vt)} {l : List Vt} (h1 : l.all (sdB d) = false) : doR d ks cy l = .error 1 := by
  unfold doR
  rw [if_pos h1]
theorem gs_all {e D : Nat} {l : List Vt} (h : ∀ x ∈ l, Gs e x) (hD : 2 * e + 1 ≤ D) : l.all (sdB D) = true := List.all_eq_true.2 fun x hx => (h x hx).sd hD
theorem fit_63 {e : Nat} : ∀ (l : List Vt) (ks : List Int), (∀ x ∈ l, Gs e x) → (∀ k ∈ ks, k = 63) → fitB l ks = true
  | [], _, _, _ => rfl
  | _ :: _, [], _, _ => rfl
  | t :: l, k :: ks, h, hk => by
    obtain rfl := hk k (List.mem_cons_self ..)
    simp only [fitB, (h t (List.mem_cons_self ..)).fb, Bool.true_and]
    exact fit_63 l ks (fun x hx => h x (List.mem_cons_of_mem _ hx)) (fun x hx => hk x (List.mem_cons_of_mem _ hx))
/-- a word that moves values -/
theorem mv_do {e D : Nat} {l l' : List Vt} {ks ps : List Int} (hl : ∀ x ∈ l, Gs e x) (hD : 2 * e + 1 ≤ D) (hk : ∀ k ∈ ks, k = 63) (h2 : ks.length ≤ l.length) (h6 : l.take (l.length - ks.length) ++ lsR ps (l.drop (l.length - ks.length)) = l') (hl' : ∀ x ∈ l', Gs e x) : doR D ks (fun _ l => .ok (lsR ps l)) l = .ok l' :=
  doR_ok (gs_all hl hD) h2 (fit_63 _ _ (fun x hx => hl x (List.mem_of_mem_drop hx)) hk) rfl (gs_all (fun x hx => hl' x (by rw [← h6]; exact List.mem_append_right _ hx)) (by omega)) h6
section
variable {e D : Nat} {x y z : Vt} (hx : Gs e x) (hy : Gs e y) (hz : Gs e z) (hD : 2 * e + 1 ≤ D)
theorem gs3 : ∀ t ∈ [x, y, z], Gs e x → Gs e y → Gs e z → Gs e t := by
  intro t ht hx hy hz
  simp only [List.mem_cons, List.not_mem_nil, or_false] at ht
  rcases ht with rfl | rfl | rfl <;> assumption
theorem gs2 : ∀ t ∈ [x, y], Gs e x → Gs e y → Gs e t := by
  intro t ht hx hy
  simp only [List.mem_cons, List.not_mem_nil, or_false] at ht
  rcases ht with rfl | rfl <;> assumption
theorem gs4 {u : Vt} : ∀ t ∈ [x, y, z, u], Gs e x → Gs e y → Gs e z → Gs e u → Gs e t := by
  intro t ht hx hy hz hu
  simp only [List.mem_cons, List.not_mem_nil, or_false] at ht
  rcases ht with rfl | rfl | rfl | rfl <;> assumption
theorem k63 {ks : List Int} (h : ks.all (fun k => decide (k = 63)) = true) : ∀ k ∈ ks, k = 63 := fun k hk => by simpa using List.all_eq_true.1 h k hk
theorem do_swaps (hx : Gs e x) (hy : Gs e y) (hz : Gs e z) (hD : 2 * e + 1 ≤ D) : doL D [pSwap, pSwap] [x, y, z] = .ok [x, y, z] := by
  rw [doL_ok (l' := [x, z, y]) (mv_do (e := e) (l := [x, y, z]) (l' := [x, z, y]) (ks := pSwap.ks) (ps := [1, 0]) (fun t ht => gs3 t ht hx hy hz) (by omega) (k63 (by decide)) (by show 2 ≤ 3; omega) rfl (fun t ht => gs3 t ht hx hz hy))]
  rw [doL_ok (l' := [x, y, z]) (mv_do (e := e) (l := [x, z, y]) (l' := [x, y, z]) (ks := pSwap.ks) (ps := [1, 0]) (fun t ht => gs3 t ht hx hz hy) (by omega) (k63 (by decide)) (by show 2 ≤ 3; omega) rfl (fun t ht => gs3 t ht hx hy hz))]
  rfl
theorem do_rots (hx : Gs e x) (hy : Gs e y) (hz : Gs e z) (hD : 2 * e + 1 ≤ D) : doL D [pRot, pRot, pRot] [x, y, z] = .ok [x, y, z] := by
  rw [doL_ok (l' := [y, z, x]) (mv_do (e := e) (l := [x, y, z]) (l' := [y, z, x]) (ks := pRot.ks) (ps := [1, 2, 0]) (fun t ht => gs3 t ht hx hy hz) (by omega) (k63 (by decide)) (by show 3 ≤ 3; omega) rfl (fun t ht => gs3 t ht hy hz hx))]
  rw [doL_ok (l' := [z, x, y]) (mv_do (e := e) (l := [y, z, x]) (l' := [z, x, y]) (ks := pRot.ks) (ps := [1, 2, 0]) (fun t ht => gs3 t ht hy hz hx) (by omega) (k63 (by decide)) (by show 3 ≤ 3; omega) rfl (fun t ht => gs3 t ht hz hx hy))]
  rw [doL_ok (l' := [x, y, z]) (mv_do (e := e) (l := [z, x, y]) (l' := [x, y, z]) (ks := pRot.ks) (ps := [1, 2, 0]) (fun t ht => gs3 t ht hz hx hy) (by omega) (k63 (by decide)) (by show 3 ≤ 3; omega) rfl (fun t ht => gs3 t ht hx hy hz))]
  rfl
theorem do_dups (hx : Gs e x) (hy : Gs e y) (hz : Gs e z) (hD : 2 * e + 1 ≤ D) : doL D [pDup, pDrop] [x, y, z] = .ok [x, y, z] := by
  rw [doL_ok (l' := [x, y, z, z]) (mv_do (e := e) (l := [x, y, z]) (l' := [x, y, z, z]) (ks := pDup.ks) (ps := [0, 0]) (fun t ht => gs3 t ht hx hy hz) (by omega) (k63 (by decide)) (by show 1 ≤ 3; omega) rfl (fun t ht => gs4 t ht hx hy hz hz))]
  rw [doL_ok (l' := [x, y, z]) (mv_do (e := e) (l := [x, y, z, z]) (l' := [x, y, z]) (ks := pDrop.ks) (ps := []) (fun t ht => gs4 t ht hx hy hz hz) (by omega) (k63 (by decide)) (by show 1 ≤ 4; omega) rfl (fun t ht => gs3 t ht hx hy hz))]
  rfl
theorem do_overs (hx : Gs e x) (hy : Gs e y) (hz : Gs e z) (hD : 2 * e + 1 ≤ D) : doL D [pOver, pNip, pSwap, pDrop, pOver] [x, y, z] = .ok [x, y, x] := by
  rw [doL_ok (l' := [x, y, z, y]) (mv_do (e := e) (l := [x, y, z]) (l' := [x, y, z, y]) (ks := pOver.ks) (ps := [0, 1, 0]) (fun t ht => gs3 t ht hx hy hz) (by omega) (k63 (by decide)) (by show 2 ≤ 3; omega) rfl (fun t ht => gs4 t ht hx hy hz hy))]
  rw [doL_ok (l' := [x, y, y]) (mv_do (e := e) (l := [x, y, z, y]) (l' := [x, y, y]) (ks := pNip.ks) (ps := [1]) (fun t ht => gs4 t ht hx hy hz hy) (by omega) (k63 (by decide)) (by show 2 ≤ 4; omega) rfl (fun t ht => gs3 t ht hx hy hy))]
  rw [doL_ok (l' := [x, y, y]) (mv_do (e := e) (l := [x, y, y]) (l' := [x, y, y]) (ks := pSwap.ks) (ps := [1, 0]) (fun t ht => gs3 t ht hx hy hy) (by omega) (k63 (by decide)) (by show 2 ≤ 3; omega) rfl (fun t ht => gs3 t ht hx hy hy))]
  rw [doL_ok (l' := [x, y]) (mv_do (e := e) (l := [x, y, y]) (l' := [x, y]) (ks := pDrop.ks) (ps := []) (fun t ht => gs3 t ht hx hy hy) (by omega) (k63 (by decide)) (by show 1 ≤ 3; omega) rfl (fun t ht => gs2 t ht hx hy))]
  rw [doL_ok (l' := [x, y, x]) (mv_do (e := e) (l := [x, y]) (l' := [x, y, x]) (ks := pOver.ks) (ps := [0, 1, 0]) (fun t ht => gs2 t ht hx hy) (by omega) (k63 (by decide)) (by show 2 ≤ 2; omega) rfl (fun t ht => gs3 t ht hx hy hx))]
  rfl
theorem fb_lis (l : List Vt) : fb (lisT l) 8 = true := by
  show (!(bits BinOp.and IntKind.i64 8 8 == 0)) = true
  decide
theorem do_pairs (hx : Gs e x) (hy : Gs e y) (hz : Gs e z) (hD : 2 * e + 1 ≤ D) : doL D [pPair, pUnpair] [x, y, z] = .ok [x, y, z] ∨ doL D [pPair, pUnpair] [x, y, z] = .error 11 := by
  have hl := gs_all (fun t ht => gs3 t ht hx hy hz) hD
  have hf := fit_63 (e := e) [y, z] [63, 63] (fun t ht => gs2 t ht hy hz) (k63 (by decide))
  cases hp : sdB (D + 2) (lisT [y, z]) with
  | false =>
    right
    refine doL_error ?_
    unfold doR
    rw [if_neg (by rw [hl]; simp), if_neg (by show ¬ (3 < 2); omega), if_neg (by rw [show fitB ([x, y, z].drop ([x, y, z].length - pPair.ks.length)) pPair.ks = true from hf]; simp)]
    show fnR D _ (.ok [lisT [y, z]]) = _
    simp only [fnR, List.all_cons, hp]
    rfl
  | true =>
    left
    rw [doL_ok (p := pPair) (l' := [x, lisT [y, z]]) (doR_ok (ls := [lisT [y, z]]) hl (by show 2 ≤ 3; omega) hf rfl (by simp [hp]) rfl)]
    rw [doL_ok (p := pUnpair) (l' := [x, y, z]) (doR_ok (ls := [y, z]) (by simp [hp, hx.sd (show 2 * e + 1 ≤ D + 2 by omega)]) (by show 1 ≤ 2; omega) (by show (fb (lisT [y, z]) 8 && true) = true; rw [fb_lis]; rfl) rfl (gs_all (fun t ht => gs2 t ht hy hz) (by omega)) rfl)]
    rfl
end
end Go.Proofs.YtioffjdjnlibgaaGreatDoor
namespace Go.Proofs.YtioffjdjnlibgaaGreatDoor
open Go.RowKit Go.Lib
set_option linter.unusedSimpArgs false
set_option linter.unusedVariables false
def t7 : Vt := ⟨1, 7, ⟨#[]⟩, []⟩
theorem do7 : doR 1 [63] (fun _ l => .ok (lsR [0, 0] l)) [t7] = .ok [t7, t7] := by kernel_rfl
theorem sm7 : ∀ x ∈ [t7], ∃ e, SmT e x := fun x hx => by
  simp only [List.mem_cons, List.not_mem_nil, or_false] at hx
  subst hx
  exact ⟨1, Nat.zero_le _, Nat.zero_le _, ⟨(by decide : (-9223372036854775808 : Int) ≤ 1), (by decide : (1 : Int) ≤ 9223372036854775807)⟩, ⟨(by decide : (-9223372036854775808 : Int) ≤ 7), (by decide : (7 : Int) ≤ 9223372036854775807)⟩, fun x hx => by cases hx⟩
set_option maxRecDepth 100000 in
theorem awake12 (w : World) (hT : Ty w) : Calls Tryz.prog 4 #[] w fun e w' => e = .returned (.bool true) ∧ Only (fun _ => False) w w' := by
  have HD : Hid (∀ (W : World) (Q : Nat), Only (fun _ => False) w W → W.cell? ⟨Q, 0, none⟩ = some (.iface 27 (.agg #[.int .i64 7])) → Calls Tryz.prog 7 #[.string ⟨#[100, 117, 112]⟩, .slice (some ⟨Q, 0, none⟩) 1 1] W fun e w' => ∃ a c, e = .returned (.tuple #[.slice a 2 c, .int .i64 0]) ∧ Hid (Only (fun _ => False) w w')) := fun W Q o hc => by
    have hl : PsAt W (fun b => b = Q) 1 false [t7] (some ⟨Q, 0, none⟩) := fun j x hx => by
      have hj : j = 0 := by have := (List.getElem?_eq_some_iff.1 hx).1; simp at this; exact this
      subst hj
      simp at hx
      subst hx
      exact ⟨Q, 0, _, rfl, rfl, hc, .inl ⟨rfl, rfl, rfl⟩⟩
    have := do_any (cap := 1) cDup.wt cDup.cy cDup.one cDup.few hl (fun b hb => by subst hb; exact World.block_lt_of_cell? W _ hc) sm7 (by simp) (hT.1.frame o)
    refine this.mono fun e w' g => ?_
    rw [show doR 1 pDup.ks pDup.cy [t7] = .ok [t7, t7] from do7] at g
    obtain ⟨a, c, he, g⟩ := g
    exact ⟨a, c, he, o.trans g.out.2.1 (fun _ _ g => g)⟩
  have HIs : Hid (∀ W, Only (fun _ => False) w W → Calls Tryz.prog 9 #[.string ⟨#[100, 117, 112]⟩] W fun e w' => e = .returned (.bool true) ∧ Only (fun _ => False) W w') := fun W o => by
    have := is_any ⟨#[100, 117, 112]⟩ W (hT.2.frame o)
    rw [show isB ⟨#[100, 117, 112]⟩ = true by kernel_rfl] at this
    exact this
  have O0 : Hid (Only (fun _ => False) w w) := Only.refl _ _
  clear hT
  go_enter Tryz.func4, Tryz.ntmps4
  go_wp2_with fail
  refine (show Calls Tryz.prog 7 _ _ _ from HD.out _ _ (O0.out.alloc _) (by simp [go_sem])).mono ?_
  rintro e w1 ⟨a, c, rfl, o1⟩
  clear HD O0
  go_wp2_with fail
  refine (show Calls Tryz.prog 9 _ _ _ from HIs.out _ o1.out).mono ?_
  rintro e w2 ⟨rfl, o2⟩
  have O2 : Hid (Only (fun _ => False) w w2) := o1.out.trans o2 (fun _ _ g => g)
  clear o1 o2 HIs
  go_wp2
  go_ret
  exact ⟨rfl, O2.out⟩
/-- three trees in a row: their cells -/
def C3 (w : World) (g : Nat) (x y z : Vt) (lx ly lz : Value) : Prop := (w.cell? ⟨g, 0, none⟩ = some (.int .i64 x.k) ∧ w.cell? ⟨g, 1, none⟩ = some (.int .i64 x.n) ∧ w.cell? ⟨g, 2, none⟩ = some (.string x.s) ∧ w.cell? ⟨g, 3, none⟩ = some lx) ∧ (w.cell? ⟨g, 4, none⟩ = some (.int .i64 y.k) ∧ w.cell? ⟨g, 5, none⟩ = some (.int .i64 y.n) ∧ w.cell? ⟨g, 6, none⟩ = some (.string y.s) ∧ w.cell? ⟨g, 7, none⟩ = some ly) ∧ (w.cell? ⟨g, 8, none⟩ = some (.int .i64 z.k) ∧ w.cell? ⟨g, 9, none⟩ = some (.int .i64 z.n) ∧ w.cell? ⟨g, 10, none⟩ = some (.string z.s) ∧ w.cell? ⟨g, 11, none⟩ = some lz)
theorem C3.only {w w' : World} {g : Nat} {x y z : Vt} {lx ly lz : Value} (h : C3 w g x y z lx ly lz) (o : Only (fun _ => False) w w') : C3 w' g x y z lx ly lz :=
  ⟨⟨o.cell h.1.1 (fun g => g), o.cell h.1.2.1 (fun g => g), o.cell h.1.2.2.1 (fun g => g), o.cell h.1.2.2.2 (fun g => g)⟩, ⟨o.cell h.2.1.1 (fun g => g), o.cell h.2.1.2.1 (fun g => g), o.cell h.2.1.2.2.1 (fun g => g), o.cell h.2.1.2.2.2 (fun g => g)⟩, o.cell h.2.2.1 (fun g => g), o.cell h.2.2.2.1 (fun g => g), o.cell h.2.2.2.2.1 (fun g => g), o.cell h.2.2.2.2.2 (fun g => g)⟩
theorem ur3 {w : World} {B d : Nat} {v : Value} {x y z : Vt} (h : UrAt w B d v [x, y, z]) : ∃ g cap lx ly lz S, v = .slice (some ⟨g, 0, none⟩) 3 cap ∧ C3 w g x y z lx ly lz ∧ VsAt w S d x.l lx ∧ VsAt w S d y.l ly ∧ VsAt w S d z.l lz ∧ B ≤ g := by
  obtain ⟨us, S, ho, ht, hS⟩ := h
  obtain ⟨lx, ⟨x0, x1, x2, x3⟩, tx⟩ := ht 0 x rfl
  obtain ⟨ly, ⟨y0, y1, y2, y3⟩, ty⟩ := ht 1 y rfl
  obtain ⟨lz, ⟨z0, z1, z2, z3⟩, tz⟩ := ht 2 z rfl
  rcases ho.2 with ⟨h3, h4⟩ | ⟨g, cp, cur, hv, hB, hg, hn, hcm, hcs, htk⟩
  · simp at h4
  · subst hv
    have hc := fun j u hu => ho.cells (g := g) rfl j u hu
    simp only [addr_ad] at hc
    exact ⟨g, cp, lx, ly, lz, S, rfl, ⟨⟨hc _ _ x0, hc _ _ x1, hc _ _ x2, hc _ _ x3⟩, ⟨hc _ _ y0, hc _ _ y1, hc _ _ y2, hc _ _ y3⟩, hc _ _ z0, hc _ _ z1, hc _ _ z2, hc _ _ z3⟩, tx, ty, tz, hB⟩
theorem vs3 {w : World} {S : Nat → Prop} {d g : Nat} {x y z : Vt} {lx ly lz : Value} (h : C3 w g x y z lx ly lz) (hx : VsAt w S d x.l lx) (hy : VsAt w S d y.l ly) (hz : VsAt w S d z.l lz) (c : Nat) (hc : 3 ≤ c) : VsAt w (fun b => S b ∨ b = g) (d + 1) [x, y, z] (.slice (some ⟨g, 0, none⟩) 3 c) := by
  have up : ∀ {l v}, VsAt w S d l v → VsAt w (fun b => S b ∨ b = g) d l v := fun h => h.step (fun _ g => .inl g) (fun _ _ _ g => g) (Nat.le_refl _)
  refine ⟨_, _, rfl, hc, fun i t ht => ?_⟩
  have hi := (List.getElem?_eq_some_iff.1 ht).1
  match i, hi with
  | 0, _ => simp at ht; subst ht; exact ⟨g, 0, lx, rfl, .inr rfl, h.1, up hx⟩
  | 1, _ => simp at ht; subst ht; exact ⟨g, 0, ly, rfl, .inr rfl, h.2.1, up hy⟩
  | 2, _ => simp at ht; subst ht; exact ⟨g, 0, lz, rfl, .inr rfl, h.2.2, up hz⟩
theorem names_new (ps : List Pr) (t : TypeId) (w : World) : ∀ (j : Nat) (p : Pr), ps[j]? = some p → (w.alloc (.cells (ps.map fun p => Value.string p.name).toArray t)).cell? ⟨w.heap.size, j, none⟩ = some (.string p.name) := fun j p hp => by
  rw [vblk_cells (valloc_at w _ _ rfl)]
  simp [hp]
end Go.Proofs.YtioffjdjnlibgaaGreatDoor
namespace Go.Proofs.YtioffjdjnlibgaaGreatDoor
open Go.RowKit Go.Lib
set_option linter.unusedSimpArgs false
set_option linter.unusedVariables false
/-- what is written over a value, over an item -/
def Lint : Value := .iface 27 (.agg #[.int .i64 99])
def Lcall : Value := .iface 104 (.agg #[.string ⟨#[103, 111, 110, 101]⟩])
/-- v may be gone through, d deep: its lists lie in blocks of S -/
def SpAt (w : World) (S : Nat → Prop) : Nat → Value → Prop
  | 0, _ => False
  | d + 1, v => v = .nilIface ∨ ∃ T y, v = .iface T y ∧ ((T = 34 ∨ T = 62) → ∃ ao n cap, y = .agg #[.slice ao n cap] ∧ n ≤ cap ∧ n ≤ 2513169434900 ∧ ∀ j, j < n → ∃ g k u, ao = some ⟨g, k, none⟩ ∧ S g ∧ w.cell? ⟨g, k + j, none⟩ = some u ∧ SpAt w S d u) ∧ (T = 95 → ∃ u, y = .agg #[u] ∧ SpAt w S d u)
/-- a value or an item that holds no others -/
def Lfv (u : Value) : Prop := ∃ T y, u = .iface T y ∧ T ≠ 34 ∧ T ≠ 62 ∧ T ≠ 95
theorem lfv_int (n : Int) : Lfv (.iface 27 (.agg #[.int .i64 n])) := ⟨_, _, rfl, by decide, by decide, by decide⟩
theorem lfv_lint : Lfv Lint := lfv_int 99
theorem lfv_call : Lfv Lcall := ⟨_, _, rfl, by decide, by decide, by decide⟩
theorem sp_leaf {u : Value} (h : Lfv u) (w : World) (S : Nat → Prop) (d : Nat) : SpAt w S (d + 1) u := by
  obtain ⟨T, y, rfl, h1, h2, h3⟩ := h
  exact .inr ⟨T, y, rfl, fun g => by rcases g with g | g; exact absurd g h1; exact absurd g h2, fun g => absurd g h3⟩
theorem SpAt.deep {w : World} {S : Nat → Prop} : ∀ {d d' : Nat} {v : Value}, d ≤ d' → SpAt w S d v → SpAt w S d' v
  | 0, _, _, _, h => h.elim
  | d + 1, 0, _, hd, _ => by omega
  | d + 1, e + 1, v, hd, h => by
    rcases h with h | ⟨T, y, hv, h1, h2⟩
    · exact .inl h
    · refine .inr ⟨T, y, hv, fun hT => ?_, fun hT => ?_⟩
      · obtain ⟨ao, n, cap, p1, p2, p3, p4⟩ := h1 hT
        refine ⟨ao, n, cap, p1, p2, p3, fun j hj => ?_⟩
        obtain ⟨g, k, u, q1, q2, q3, q4⟩ := p4 j hj
        exact ⟨g, k, u, q1, q2, q3, q4.deep (by omega)⟩
      · obtain ⟨u, p1, p2⟩ := h2 hT
        exact ⟨u, p1, p2.deep (by omega)⟩
/-- what may have been done to the blocks S -/
def Spl (S : Nat → Prop) (w w' : World) : Prop := Only S w w' ∧ (∀ b, S b → Liv w b → Liv w' b) ∧ ∀ (a : Addr) u, S a.block → w.cell? a = some u → ∃ u', w'.cell? a = some u' ∧ (u' = u ∨ Lfv u')
theorem Spl.of {S : Nat → Prop} {w w' : World} (o : Only (fun _ => False) w w') : Spl S w w' := ⟨o.mono (fun _ _ h => h.elim), fun b _ h => h.only o (fun g => g), fun a u _ hc => ⟨u, o.cell hc (fun g => g), .inl rfl⟩⟩
theorem Spl.trans {S : Nat → Prop} {a b c : World} (h : Spl S a b) (k : Spl S b c) : Spl S a c := by
  refine ⟨h.1.trans k.1 (fun _ _ g => g), fun x hx hl => k.2.1 x hx (h.2.1 x hx hl), fun p u hp hu => ?_⟩
  obtain ⟨u1, h1, h2⟩ := h.2.2 p u hp hu
  obtain ⟨u2, k1, k2⟩ := k.2.2 p u1 hp h1
  refine ⟨u2, k1, ?_⟩
  rcases k2 with rfl | k2
  · exact h2
  · exact .inr k2
theorem Spl.set {S : Nat → Prop} {w : World} {g k : Nat} {u x : Value} (hS : S g) (hl : Liv w g) (hc : w.cell? ⟨g, k, none⟩ = some u) (hx : Lfv x) : Spl S w (w.setCell ⟨g, k, none⟩ x) := by
  obtain ⟨h1, c, t, hb⟩ := hl
  have o : Only S w (w.setCell ⟨g, k, none⟩ x) := (Only.refl _ _).setCell _ _ (fun _ => hS)
  have og : Only (fun b => b = g) w (w.setCell ⟨g, k, none⟩ x) := (Only.refl _ _).setCell _ _ (fun _ => rfl)
  have hs := heap_setCell_same w g k c t x hb
  refine ⟨o, fun b hb' hl' => ?_, fun a y ha hy => ?_⟩
  · by_cases e : b = g
    · subst e
      exact Liv.of hs
    · exact hl'.only og e
  · by_cases e : a.block = g
    · obtain ⟨ab, ao, asp⟩ := a
      simp only at e
      subst e
      have hsp : asp = none := World.cell?_spot hy
      subst hsp
      rw [vblk_cells hb] at hy hc
      rw [vblk_cells hs]
      by_cases e2 : ao = k
      · subst e2
        have := (Array.getElem?_eq_some_iff.1 hc).1
        exact ⟨x, by simp [this], .inr hx⟩
      · exact ⟨y, by rw [← hy]; simp [Array.setIfInBounds, Array.getElem?_set]; split <;> simp [Array.getElem?_set, Ne.symm e2], .inl rfl⟩
    · exact ⟨y, og.cell hy e, .inl rfl⟩
theorem SpAt.keep {S : Nat → Prop} {w w' : World} (h : Spl S w w') : ∀ {d : Nat} {v : Value}, SpAt w S d v → SpAt w' S d v
  | 0, _, g => g.elim
  | d + 1, v, g => by
    rcases g with g | ⟨T, y, hv, h1, h2⟩
    · exact .inl g
    · refine .inr ⟨T, y, hv, fun hT => ?_, fun hT => ?_⟩
      · obtain ⟨ao, n, cap, p1, p2, p3, p4⟩ := h1 hT
        refine ⟨ao, n, cap, p1, p2, p3, fun j hj => ?_⟩
        obtain ⟨q, k, u, q1, q2, q3, q4⟩ := p4 j hj
        obtain ⟨u', c1, c2⟩ := h.2.2 ⟨q, k + j, none⟩ u q2 q3
        refine ⟨q, k, u', q1, q2, c1, ?_⟩
        cases d with
        | zero => exact q4.elim
        | succ d =>
          rcases c2 with rfl | c2
          · exact SpAt.keep h q4
          · exact sp_leaf c2 _ _ _
      · obtain ⟨u, p1, p2⟩ := h2 hT
        exact ⟨u, p1, SpAt.keep h p2⟩
theorem SmT.parts' {d : Nat} {t : Vt} (h : SmT d t) : t.l.length ≤ 2513169434900 ∧ ∀ x ∈ t.l, ∃ e, SmT e x := by
  cases d with
  | zero => exact h.elim
  | succ d => exact ⟨h.2.1, fun x hx => ⟨d, h.2.2.2.2 x hx⟩⟩
theorem TiAt.sp {w : World} {S : Nat → Prop} : ∀ {d : Nat} {i : Bool} {t : Vt} {v : Value}, (∃ e, SmT e t) → TiAt w S d i t v → SpAt w S d v
  | 0, _, _, _, _, h => h.elim
  | d + 1, true, t, v, hs, h => by
    rcases h with ⟨_, _, rfl⟩ | ⟨_, _, rfl⟩ | ⟨_, _, u, rfl, hu⟩
    · exact .inr ⟨_, _, rfl, fun h => by rcases h with h | h <;> exact absurd h (by decide), fun h => absurd h (by decide)⟩
    · exact .inl rfl
    · exact .inr ⟨_, _, rfl, fun h => by rcases h with h | h <;> exact absurd h (by decide), fun _ => ⟨u, rfl, TiAt.sp hs hu⟩⟩
  | d + 1, false, t, v, hs, h => by
    rcases h with ⟨_, _, rfl⟩ | ⟨_, _, rfl⟩ | ⟨_, _, rfl⟩ | ⟨_, _, rfl⟩ | ⟨_, _, rfl⟩ | ⟨hk, ao, cap, rfl, hc, hl⟩
    · exact .inr ⟨_, _, rfl, fun h => by rcases h with h | h <;> exact absurd h (by decide), fun h => absurd h (by decide)⟩
    · exact .inr ⟨_, _, rfl, fun h => by rcases h with h | h <;> exact absurd h (by decide), fun h => absurd h (by decide)⟩
    · exact .inr ⟨_, _, rfl, fun h => by rcases h with h | h <;> exact absurd h (by decide), fun h => absurd h (by decide)⟩
    · exact .inr ⟨_, _, rfl, fun h => by rcases h with h | h <;> exact absurd h (by decide), fun h => absurd h (by decide)⟩
    · exact .inl rfl
    · obtain ⟨e, hs⟩ := hs
      obtain ⟨s1, s2⟩ := hs.parts'
      refine .inr ⟨_, _, rfl, fun _ => ⟨ao, t.l.length, cap, rfl, hc, s1, fun j hj => ?_⟩, fun h => by split at h <;> exact absurd h (by decide)⟩
      obtain ⟨g, k, u, q1, q2, q3, q4⟩ := hl j (t.l[j]'hj) (List.getElem?_eq_getElem hj)
      exact ⟨g, k, u, q1, q2, q3, TiAt.sp (s2 _ (List.getElem_mem hj)) q4⟩
end Go.Proofs.YtioffjdjnlibgaaGreatDoor
