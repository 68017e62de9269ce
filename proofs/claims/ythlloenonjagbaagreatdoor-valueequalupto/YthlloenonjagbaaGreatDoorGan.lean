/- The document's Same and SameAll of any two trees, in both verdicts. A call of a function within a region that draws. -/
import Derived.Test.YthlloenonjagbaaGreatDoorGam
import Derived.Test.YthlloenonjagbaaGreatDoorGaa
import Derived.Deep.RegionHeld3
import Derived.BigQuiet
namespace Go.Proofs.YthlloenonjagbaaGreatDoor
open Go.RowKit Go.Lib
set_option linter.unusedSimpArgs false
set_option linter.unusedVariables false
/-- do two nodes of one kind hold the same? -/
def saL (k na nb : Int) (sa sb : ByteArray) : Bool := if k = 1 ∨ k = 6 then na == nb else if k = 3 then (na != 0) == (nb != 0) else if k = 2 ∨ k = 7 then sa.toList == sb.toList else true
/-- are two trees the same, as the document has it? -/
def saV : Nat → Vt → Vt → Bool
  | 0, _, _ => false
  | d + 1, a, b => decide (a.k = b.k) && decide (a.l.length = b.l.length) && saL a.k a.n b.n a.s b.s && smL (saV d) a.l b.l
/-- what SameAll answers of trees of depth d -/
def DaC (d : Nat) : Prop := ∀ (la lb : List Vt) (va vb : Value) (w : World) (S S' : Nat → Prop), VsAt w S d la va → VsAt w S' d lb vb → la.length ≤ 1048576 → lb.length ≤ 1048576 → (∀ x ∈ la, ∃ e, SmT e x) → (∀ x ∈ lb, ∃ e, SmT e x) → Calls Tryz.prog 30 #[va, vb] w fun e w' => e = .returned (.bool (smL (saV (d - 1)) la lb)) ∧ Only (fun _ => False) w w'
/-- what Same answers -/
def DmC (d : Nat) : Prop := ∀ (a b : Vt) (va vb : Value) (w : World) (S S' : Nat → Prop), VsAt w S d a.l va → VsAt w S' d b.l vb → (∃ e, SmT e a) → (∃ e, SmT e b) → Calls Tryz.prog 24 #[.agg #[.int .i64 a.k, .int .i64 a.n, .string a.s, va], .agg #[.int .i64 b.k, .int .i64 b.n, .string b.s, vb]] w fun e w' => e = .returned (.bool (saV d a b)) ∧ Only (fun _ => False) w w'
set_option maxRecDepth 100000 in
set_option maxHeartbeats 4000000 in
theorem samed_ne (ka na kb nb : Int) (sa sb : ByteArray) (a1 a2 : Option Addr) (La Lb c1 c2 : Nat) (w : World) (h : ¬ ka = kb ∨ ¬ (La : Int) = (Lb : Int)) :
    Calls Tryz.prog 24 #[.agg #[.int .i64 ka, .int .i64 na, .string sa, .slice a1 La c1], .agg #[.int .i64 kb, .int .i64 nb, .string sb, .slice a2 Lb c2]] w fun e w' => e = .returned (.bool false) ∧ Only (fun _ => False) w w' := by
  have O0 : Hid (Only (fun _ => False) w w) := Only.refl _ _
  by_cases hk : ka = kb
  · have h2 : ¬ (La : Int) = (Lb : Int) := by
      rcases h with h | h
      · exact absurd hk h
      · exact h
    subst hk
    clear h
    go_enter Tryz.func24, Tryz.ntmps24
    go_wp2
    go_ret
    exact ⟨rfl, (O0.out.alloc _).alloc _⟩
  · clear h
    go_enter Tryz.func24, Tryz.ntmps24
    go_wp2
    go_ret
    exact ⟨rfl, (O0.out.alloc _).alloc _⟩
set_option maxRecDepth 100000 in
set_option maxHeartbeats 4000000 in
theorem samed_1n (na nb : Int) (sa sb : ByteArray) (a1 a2 : Option Addr) (L c1 c2 : Nat) (R : Bool) (w : World) (HC0 : ∀ w1, Only (fun _ => False) w w1 → Calls Tryz.prog 30 #[.slice a1 L c1, .slice a2 L c2] w1 fun e w' => e = .returned (.bool R) ∧ Only (fun _ => False) w1 w') (h : ¬ na = nb) :
    Calls Tryz.prog 24 #[.agg #[.int .i64 1, .int .i64 na, .string sa, .slice a1 L c1], .agg #[.int .i64 1, .int .i64 nb, .string sb, .slice a2 L c2]] w fun e w' => e = .returned (.bool false) ∧ Only (fun _ => False) w w' := by
  have O0 : Hid (Only (fun _ => False) w w) := Only.refl _ _
  clear HC0
  go_enter Tryz.func24, Tryz.ntmps24
  go_wp2
  go_ret
  exact ⟨rfl, (O0.out.alloc _).alloc _⟩
set_option maxRecDepth 100000 in
set_option maxHeartbeats 4000000 in
theorem samed_1y (na : Int) (sa sb : ByteArray) (a1 a2 : Option Addr) (L c1 c2 : Nat) (R : Bool) (w : World) (HC0 : ∀ w1, Only (fun _ => False) w w1 → Calls Tryz.prog 30 #[.slice a1 L c1, .slice a2 L c2] w1 fun e w' => e = .returned (.bool R) ∧ Only (fun _ => False) w1 w') :
    Calls Tryz.prog 24 #[.agg #[.int .i64 1, .int .i64 na, .string sa, .slice a1 L c1], .agg #[.int .i64 1, .int .i64 na, .string sb, .slice a2 L c2]] w fun e w' => e = .returned (.bool R) ∧ Only (fun _ => False) w w' := by
  have O0 : Hid (Only (fun _ => False) w w) := Only.refl _ _
  have HC : Hid (∀ w1, Only (fun _ => False) w w1 → Calls Tryz.prog 30 #[.slice a1 L c1, .slice a2 L c2] w1 fun e w' => e = .returned (.bool R) ∧ Only (fun _ => False) w1 w') := HC0
  clear HC0
  go_enter Tryz.func24, Tryz.ntmps24
  go_wp2_with fail
  refine (show Calls Tryz.prog 30 _ _ _ from HC.out _ ((O0.out.alloc _).alloc _)).mono ?_
  rintro e w1 ⟨rfl, o1⟩
  have O1 : Hid (Only (fun _ => False) w w1) := ((O0.out.alloc _).alloc _).trans o1 (fun _ _ g => g)
  clear HC o1
  go_wp2
  go_ret
  exact ⟨rfl, O1.out⟩
set_option maxRecDepth 100000 in
set_option maxHeartbeats 4000000 in
theorem samed_6n (na nb : Int) (sa sb : ByteArray) (a1 a2 : Option Addr) (L c1 c2 : Nat) (R : Bool) (w : World) (HC0 : ∀ w1, Only (fun _ => False) w w1 → Calls Tryz.prog 30 #[.slice a1 L c1, .slice a2 L c2] w1 fun e w' => e = .returned (.bool R) ∧ Only (fun _ => False) w1 w') (h : ¬ na = nb) :
    Calls Tryz.prog 24 #[.agg #[.int .i64 6, .int .i64 na, .string sa, .slice a1 L c1], .agg #[.int .i64 6, .int .i64 nb, .string sb, .slice a2 L c2]] w fun e w' => e = .returned (.bool false) ∧ Only (fun _ => False) w w' := by
  have O0 : Hid (Only (fun _ => False) w w) := Only.refl _ _
  clear HC0
  go_enter Tryz.func24, Tryz.ntmps24
  go_wp2
  go_ret
  exact ⟨rfl, (O0.out.alloc _).alloc _⟩
set_option maxRecDepth 100000 in
set_option maxHeartbeats 4000000 in
theorem samed_6y (na : Int) (sa sb : ByteArray) (a1 a2 : Option Addr) (L c1 c2 : Nat) (R : Bool) (w : World) (HC0 : ∀ w1, Only (fun _ => False) w w1 → Calls Tryz.prog 30 #[.slice a1 L c1, .slice a2 L c2] w1 fun e w' => e = .returned (.bool R) ∧ Only (fun _ => False) w1 w') :
    Calls Tryz.prog 24 #[.agg #[.int .i64 6, .int .i64 na, .string sa, .slice a1 L c1], .agg #[.int .i64 6, .int .i64 na, .string sb, .slice a2 L c2]] w fun e w' => e = .returned (.bool R) ∧ Only (fun _ => False) w w' := by
  have O0 : Hid (Only (fun _ => False) w w) := Only.refl _ _
  have HC : Hid (∀ w1, Only (fun _ => False) w w1 → Calls Tryz.prog 30 #[.slice a1 L c1, .slice a2 L c2] w1 fun e w' => e = .returned (.bool R) ∧ Only (fun _ => False) w1 w') := HC0
  clear HC0
  go_enter Tryz.func24, Tryz.ntmps24
  go_wp2_with fail
  refine (show Calls Tryz.prog 30 _ _ _ from HC.out _ ((O0.out.alloc _).alloc _)).mono ?_
  rintro e w1 ⟨rfl, o1⟩
  have O1 : Hid (Only (fun _ => False) w w1) := ((O0.out.alloc _).alloc _).trans o1 (fun _ _ g => g)
  clear HC o1
  go_wp2
  go_ret
  exact ⟨rfl, O1.out⟩
set_option maxRecDepth 100000 in
set_option maxHeartbeats 4000000 in
theorem samed_2n (na nb : Int) (sa sb : ByteArray) (a1 a2 : Option Addr) (L c1 c2 : Nat) (R : Bool) (w : World) (HC0 : ∀ w1, Only (fun _ => False) w w1 → Calls Tryz.prog 30 #[.slice a1 L c1, .slice a2 L c2] w1 fun e w' => e = .returned (.bool R) ∧ Only (fun _ => False) w1 w') (h : (sa.toList == sb.toList) = false) :
    Calls Tryz.prog 24 #[.agg #[.int .i64 2, .int .i64 na, .string sa, .slice a1 L c1], .agg #[.int .i64 2, .int .i64 nb, .string sb, .slice a2 L c2]] w fun e w' => e = .returned (.bool false) ∧ Only (fun _ => False) w w' := by
  have O0 : Hid (Only (fun _ => False) w w) := Only.refl _ _
  clear HC0
  go_enter Tryz.func24, Tryz.ntmps24
  go_wp2
  go_ret
  exact ⟨rfl, (O0.out.alloc _).alloc _⟩
set_option maxRecDepth 100000 in
set_option maxHeartbeats 4000000 in
theorem samed_2y (na nb : Int) (sa sb : ByteArray) (a1 a2 : Option Addr) (L c1 c2 : Nat) (R : Bool) (w : World) (HC0 : ∀ w1, Only (fun _ => False) w w1 → Calls Tryz.prog 30 #[.slice a1 L c1, .slice a2 L c2] w1 fun e w' => e = .returned (.bool R) ∧ Only (fun _ => False) w1 w') (h : (sa.toList == sb.toList) = true) :
    Calls Tryz.prog 24 #[.agg #[.int .i64 2, .int .i64 na, .string sa, .slice a1 L c1], .agg #[.int .i64 2, .int .i64 nb, .string sb, .slice a2 L c2]] w fun e w' => e = .returned (.bool R) ∧ Only (fun _ => False) w w' := by
  have O0 : Hid (Only (fun _ => False) w w) := Only.refl _ _
  have HC : Hid (∀ w1, Only (fun _ => False) w w1 → Calls Tryz.prog 30 #[.slice a1 L c1, .slice a2 L c2] w1 fun e w' => e = .returned (.bool R) ∧ Only (fun _ => False) w1 w') := HC0
  clear HC0
  go_enter Tryz.func24, Tryz.ntmps24
  go_wp2_with fail
  refine (show Calls Tryz.prog 30 _ _ _ from HC.out _ ((O0.out.alloc _).alloc _)).mono ?_
  rintro e w1 ⟨rfl, o1⟩
  have O1 : Hid (Only (fun _ => False) w w1) := ((O0.out.alloc _).alloc _).trans o1 (fun _ _ g => g)
  clear HC o1
  go_wp2
  go_ret
  exact ⟨rfl, O1.out⟩
set_option maxRecDepth 100000 in
set_option maxHeartbeats 4000000 in
theorem samed_7n (na nb : Int) (sa sb : ByteArray) (a1 a2 : Option Addr) (L c1 c2 : Nat) (R : Bool) (w : World) (HC0 : ∀ w1, Only (fun _ => False) w w1 → Calls Tryz.prog 30 #[.slice a1 L c1, .slice a2 L c2] w1 fun e w' => e = .returned (.bool R) ∧ Only (fun _ => False) w1 w') (h : (sa.toList == sb.toList) = false) :
    Calls Tryz.prog 24 #[.agg #[.int .i64 7, .int .i64 na, .string sa, .slice a1 L c1], .agg #[.int .i64 7, .int .i64 nb, .string sb, .slice a2 L c2]] w fun e w' => e = .returned (.bool false) ∧ Only (fun _ => False) w w' := by
  have O0 : Hid (Only (fun _ => False) w w) := Only.refl _ _
  clear HC0
  go_enter Tryz.func24, Tryz.ntmps24
  go_wp2
  go_ret
  exact ⟨rfl, (O0.out.alloc _).alloc _⟩
set_option maxRecDepth 100000 in
set_option maxHeartbeats 4000000 in
theorem samed_7y (na nb : Int) (sa sb : ByteArray) (a1 a2 : Option Addr) (L c1 c2 : Nat) (R : Bool) (w : World) (HC0 : ∀ w1, Only (fun _ => False) w w1 → Calls Tryz.prog 30 #[.slice a1 L c1, .slice a2 L c2] w1 fun e w' => e = .returned (.bool R) ∧ Only (fun _ => False) w1 w') (h : (sa.toList == sb.toList) = true) :
    Calls Tryz.prog 24 #[.agg #[.int .i64 7, .int .i64 na, .string sa, .slice a1 L c1], .agg #[.int .i64 7, .int .i64 nb, .string sb, .slice a2 L c2]] w fun e w' => e = .returned (.bool R) ∧ Only (fun _ => False) w w' := by
  have O0 : Hid (Only (fun _ => False) w w) := Only.refl _ _
  have HC : Hid (∀ w1, Only (fun _ => False) w w1 → Calls Tryz.prog 30 #[.slice a1 L c1, .slice a2 L c2] w1 fun e w' => e = .returned (.bool R) ∧ Only (fun _ => False) w1 w') := HC0
  clear HC0
  go_enter Tryz.func24, Tryz.ntmps24
  go_wp2_with fail
  refine (show Calls Tryz.prog 30 _ _ _ from HC.out _ ((O0.out.alloc _).alloc _)).mono ?_
  rintro e w1 ⟨rfl, o1⟩
  have O1 : Hid (Only (fun _ => False) w w1) := ((O0.out.alloc _).alloc _).trans o1 (fun _ _ g => g)
  clear HC o1
  go_wp2
  go_ret
  exact ⟨rfl, O1.out⟩
set_option maxRecDepth 100000 in
set_option maxHeartbeats 4000000 in
theorem samed_3y (na nb : Int) (sa sb : ByteArray) (a1 a2 : Option Addr) (L c1 c2 : Nat) (R : Bool) (w : World) (HC0 : ∀ w1, Only (fun _ => False) w w1 → Calls Tryz.prog 30 #[.slice a1 L c1, .slice a2 L c2] w1 fun e w' => e = .returned (.bool R) ∧ Only (fun _ => False) w1 w') (h : (!((na != 0) == (nb != 0))) = false) :
    Calls Tryz.prog 24 #[.agg #[.int .i64 3, .int .i64 na, .string sa, .slice a1 L c1], .agg #[.int .i64 3, .int .i64 nb, .string sb, .slice a2 L c2]] w fun e w' => e = .returned (.bool R) ∧ Only (fun _ => False) w w' := by
  have O0 : Hid (Only (fun _ => False) w w) := Only.refl _ _
  have HC : Hid (∀ w1, Only (fun _ => False) w w1 → Calls Tryz.prog 30 #[.slice a1 L c1, .slice a2 L c2] w1 fun e w' => e = .returned (.bool R) ∧ Only (fun _ => False) w1 w') := HC0
  clear HC0
  go_enter Tryz.func24, Tryz.ntmps24
  go_wp2_with fail
  refine (show Calls Tryz.prog 30 _ _ _ from HC.out _ ((O0.out.alloc _).alloc _)).mono ?_
  rintro e w1 ⟨rfl, o1⟩
  have O1 : Hid (Only (fun _ => False) w w1) := ((O0.out.alloc _).alloc _).trans o1 (fun _ _ g => g)
  clear HC o1
  go_wp2
  go_ret
  exact ⟨rfl, O1.out⟩
set_option maxRecDepth 100000 in
set_option maxHeartbeats 4000000 in
theorem samed_3n (na nb : Int) (sa sb : ByteArray) (a1 a2 : Option Addr) (L c1 c2 : Nat) (R : Bool) (w : World) (HC0 : ∀ w1, Only (fun _ => False) w w1 → Calls Tryz.prog 30 #[.slice a1 L c1, .slice a2 L c2] w1 fun e w' => e = .returned (.bool R) ∧ Only (fun _ => False) w1 w') (h : (!((na != 0) == (nb != 0))) = true) :
    Calls Tryz.prog 24 #[.agg #[.int .i64 3, .int .i64 na, .string sa, .slice a1 L c1], .agg #[.int .i64 3, .int .i64 nb, .string sb, .slice a2 L c2]] w fun e w' => e = .returned (.bool false) ∧ Only (fun _ => False) w w' := by
  have O0 : Hid (Only (fun _ => False) w w) := Only.refl _ _
  clear HC0
  go_enter Tryz.func24, Tryz.ntmps24
  go_wp2
  go_ret
  exact ⟨rfl, (O0.out.alloc _).alloc _⟩
set_option maxRecDepth 100000 in
set_option maxHeartbeats 4000000 in
theorem samed_o (k na nb : Int) (sa sb : ByteArray) (a1 a2 : Option Addr) (L c1 c2 : Nat) (R : Bool) (w : World) (HC0 : ∀ w1, Only (fun _ => False) w w1 → Calls Tryz.prog 30 #[.slice a1 L c1, .slice a2 L c2] w1 fun e w' => e = .returned (.bool R) ∧ Only (fun _ => False) w1 w') (h1 : ¬ k = 1) (h2 : ¬ k = 2) (h3 : ¬ k = 3) (h6 : ¬ k = 6) (h7 : ¬ k = 7) :
    Calls Tryz.prog 24 #[.agg #[.int .i64 k, .int .i64 na, .string sa, .slice a1 L c1], .agg #[.int .i64 k, .int .i64 nb, .string sb, .slice a2 L c2]] w fun e w' => e = .returned (.bool R) ∧ Only (fun _ => False) w w' := by
  have O0 : Hid (Only (fun _ => False) w w) := Only.refl _ _
  have HC : Hid (∀ w1, Only (fun _ => False) w w1 → Calls Tryz.prog 30 #[.slice a1 L c1, .slice a2 L c2] w1 fun e w' => e = .returned (.bool R) ∧ Only (fun _ => False) w1 w') := HC0
  clear HC0
  go_enter Tryz.func24, Tryz.ntmps24
  go_wp2_with fail
  refine (show Calls Tryz.prog 30 _ _ _ from HC.out _ ((O0.out.alloc _).alloc _)).mono ?_
  rintro e w1 ⟨rfl, o1⟩
  have O1 : Hid (Only (fun _ => False) w w1) := ((O0.out.alloc _).alloc _).trans o1 (fun _ _ g => g)
  clear HC o1
  go_wp2
  go_ret
  exact ⟨rfl, O1.out⟩
theorem SmT.subs {e : Nat} {t : Vt} (h : SmT e t) : t.l.length ≤ 1048576 ∧ ∀ x ∈ t.l, ∃ e, SmT e x := by
  cases e with
  | zero => exact h.elim
  | succ e => exact ⟨h.2.1, fun x hx => ⟨e, h.2.2.2.2 x hx⟩⟩
theorem dsame_of (d : Nat) (H : DaC (d + 1)) : DmC (d + 1) := by
  intro a b va vb w S S' h1 h2 ⟨e1, g1⟩ ⟨e2, g2⟩
  obtain ⟨a1, c1, rfl⟩ := h1.form
  obtain ⟨a2, c2, rfl⟩ := h2.form
  unfold saV
  by_cases hk : a.k = b.k
  · by_cases hl : a.l.length = b.l.length
    · have hc : ∀ w1, Only (fun _ => False) w w1 → Calls Tryz.prog 30 #[.slice a1 a.l.length c1, .slice a2 a.l.length c2] w1 fun e w' => e = .returned (.bool (smL (saV d) a.l b.l)) ∧ Only (fun _ => False) w1 w' := fun w1 o1 => by
        have := H a.l b.l _ _ w1 S S' (h1.only o1) (h2.only o1) g1.subs.1 g2.subs.1 g1.subs.2 g2.subs.2
        rw [← hl] at this
        exact this
      rw [← hk, ← hl, decide_eq_true rfl, decide_eq_true rfl, Bool.true_and, Bool.true_and]
      generalize smL (saV d) a.l b.l = R at hc ⊢
      generalize a.l.length = L at hc ⊢
      generalize a.k = k at *
      unfold saL
      by_cases k1 : k = 1
      · subst k1
        rw [if_pos (.inl rfl)]
        by_cases hn : a.n = b.n
        · rw [← hn, beq_self_eq_true, Bool.true_and]; exact samed_1y _ _ _ _ _ _ _ _ R w hc
        · rw [beq_false_of_ne hn, Bool.false_and]; exact samed_1n _ _ _ _ _ _ _ _ _ R w hc hn
      by_cases k6 : k = 6
      · subst k6
        rw [if_pos (.inr rfl)]
        by_cases hn : a.n = b.n
        · rw [← hn, beq_self_eq_true, Bool.true_and]; exact samed_6y _ _ _ _ _ _ _ _ R w hc
        · rw [beq_false_of_ne hn, Bool.false_and]; exact samed_6n _ _ _ _ _ _ _ _ _ R w hc hn
      rw [if_neg (fun g => g.elim k1 k6)]
      by_cases k3 : k = 3
      · subst k3
        rw [if_pos rfl]
        cases hn : ((a.n != 0) == (b.n != 0)) with
        | true => rw [Bool.true_and]; exact samed_3y _ _ _ _ _ _ _ _ _ R w hc (by rw [hn]; rfl)
        | false => rw [Bool.false_and]; exact samed_3n _ _ _ _ _ _ _ _ _ R w hc (by rw [hn]; rfl)
      rw [if_neg k3]
      by_cases k2 : k = 2
      · subst k2
        rw [if_pos (.inl rfl)]
        cases hn : (a.s.toList == b.s.toList) with
        | true => rw [Bool.true_and]; exact samed_2y _ _ _ _ _ _ _ _ _ R w hc hn
        | false => rw [Bool.false_and]; exact samed_2n _ _ _ _ _ _ _ _ _ R w hc hn
      by_cases k7 : k = 7
      · subst k7
        rw [if_pos (.inr rfl)]
        cases hn : (a.s.toList == b.s.toList) with
        | true => rw [Bool.true_and]; exact samed_7y _ _ _ _ _ _ _ _ _ R w hc hn
        | false => rw [Bool.false_and]; exact samed_7n _ _ _ _ _ _ _ _ _ R w hc hn
      rw [if_neg (fun g => g.elim k2 k7), Bool.true_and]
      exact samed_o k _ _ _ _ _ _ _ _ _ R w hc k1 k2 k3 k6 k7
    · rw [decide_eq_false hl, Bool.and_false, Bool.false_and, Bool.false_and]
      exact samed_ne _ _ _ _ _ _ _ _ _ _ _ _ w (.inr (by omega))
  · rw [decide_eq_false hk, Bool.false_and, Bool.false_and, Bool.false_and]
    exact samed_ne _ _ _ _ _ _ _ _ _ _ _ _ w (.inl hk)
end Go.Proofs.YthlloenonjagbaaGreatDoor
namespace Go.Proofs.YthlloenonjagbaaGreatDoor
open Go.RowKit
set_option linter.unusedSimpArgs false
set_option linter.unusedVariables false
theorem Only.drewN {bs : Nat → Prop} {a w : World} (h : Only bs a w) (n : Nat) : Only bs a (w.drewN n) := ⟨h.os, h.tape, h.output, h.size, h.block⟩
section
variable {P : Program} {n l : Nat} {ops : Array Oper} {op : Oper} {a : Act} {w w' : World} {K : Act → World → Prop} {Q : Exit → Act → World → Prop}
theorem wp_call_func {f : Nat} (args : Array Operand) (tys : Array TypeId) (ho : op.op = .call { callee := .value (.func f), args := args, argTypes := tys }) (vs : Array Value) (hvs : args.map a.eval = vs) (he : ∀ args w, (callFunc f args).run P w = .ok (.enter f args) w)
    {R : Ending → World → Prop} (hc : Calls P f vs w R) (hR : ∀ e w', R e w' → ∃ v, e = .returned v ∧ K (a.put op.dst v) w') : op.wp P a w K Q := by
  have hr : (execOp a.eval op).run P w = .ok (.enter f vs) w := by
    simp [execOp, ho, resolve, invoke, go_sem, he, hvs, Result.andThen]
  unfold Oper.wp
  rw [hr, Oper.upon_enter]
  refine hc.mono fun e w' h => ?_
  obtain ⟨v, rfl, hk⟩ := hR e w' h
  exact hk
end
end Go.Proofs.YthlloenonjagbaaGreatDoor
