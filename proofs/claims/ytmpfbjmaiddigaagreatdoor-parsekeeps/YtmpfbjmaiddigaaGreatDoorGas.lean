/- The document's Same and SameAll of any two trees, in both verdicts. Texts of characters by the document: Chars, Bad, Name, and what they are. -/
import Derived.Test.YtmpfbjmaiddigaaGreatDoorGar
import Derived.Test.YtmpfbjmaiddigaaGreatDoorGal
import Derived.Test.YtmpfbjmaiddigaaGreatDoorGac
import Derived.Test.YtmpfbjmaiddigaaGreatDoorGak
import Derived.Lib.MapLaws
import Derived.Lib.RuneCountTail
import Derived.Deep.QuietTactic
namespace Go.Proofs.YtmpfbjmaiddigaaGreatDoor
open Go.RowKit Go.Lib
set_option linter.unusedSimpArgs false
set_option linter.unusedVariables false
/-- do two nodes of one kind hold the same? -/
def saL (k na nb : Int) (sa sb : ByteArray) : Bool := if k = 1 ∨ k = 6 then na == nb else if k = 3 then (na != 0) == (nb != 0) else if k = 2 ∨ k = 7 then sa.toList == sb.toList else true
/-- are two trees the same, as the document has it? -/
def saV : Nat → Vt → Vt → Bool
  | 0, _, _ => false
  | d + 1, a, b => decide (a.k = b.k) && decide (a.l.length = b.l.length) && saL a.k a.n b.n a.s b.s && smL (saV d) a.l b.l
/-- what SameAll answers of trees of depth d -/
def DaC (d : Nat) : Prop := ∀ (la lb : List Vt) (va vb : Value) (w : World) (S S' : Nat → Prop), VsAt w S d la va → VsAt w S' d lb vb → la.length ≤ 2513169434900 → lb.length ≤ 2513169434900 → (∀ x ∈ la, ∃ e, SmT e x) → (∀ x ∈ lb, ∃ e, SmT e x) → Calls Tryz.prog 9 #[va, vb] w fun e w' => e = .returned (.bool (smL (saV (d - 1)) la lb)) ∧ Only (fun _ => False) w w'
/-- what Same answers -/
def DmC (d : Nat) : Prop := ∀ (a b : Vt) (va vb : Value) (w : World) (S S' : Nat → Prop), VsAt w S d a.l va → VsAt w S' d b.l vb → (∃ e, SmT e a) → (∃ e, SmT e b) → Calls Tryz.prog 23 #[.agg #[.int .i64 a.k, .int .i64 a.n, .string a.s, va], .agg #[.int .i64 b.k, .int .i64 b.n, .string b.s, vb]] w fun e w' => e = .returned (.bool (saV d a b)) ∧ Only (fun _ => False) w w'
set_option maxRecDepth 100000 in
set_option maxHeartbeats 4000000 in
theorem samed_ne (ka na kb nb : Int) (sa sb : ByteArray) (a1 a2 : Option Addr) (La Lb c1 c2 : Nat) (w : World) (h : ¬ ka = kb ∨ ¬ (La : Int) = (Lb : Int)) :
    Calls Tryz.prog 23 #[.agg #[.int .i64 ka, .int .i64 na, .string sa, .slice a1 La c1], .agg #[.int .i64 kb, .int .i64 nb, .string sb, .slice a2 Lb c2]] w fun e w' => e = .returned (.bool false) ∧ Only (fun _ => False) w w' := by
  have O0 : Hid (Only (fun _ => False) w w) := Only.refl _ _
  by_cases hk : ka = kb
  · have h2 : ¬ (La : Int) = (Lb : Int) := by
      rcases h with h | h
      · exact absurd hk h
      · exact h
    subst hk
    clear h
    go_enter Tryz.func23, Tryz.ntmps23
    go_wp2
    go_ret
    exact ⟨rfl, (O0.out.alloc _).alloc _⟩
  · clear h
    go_enter Tryz.func23, Tryz.ntmps23
    go_wp2
    go_ret
    exact ⟨rfl, (O0.out.alloc _).alloc _⟩
set_option maxRecDepth 100000 in
set_option maxHeartbeats 4000000 in
theorem samed_1n (na nb : Int) (sa sb : ByteArray) (a1 a2 : Option Addr) (L c1 c2 : Nat) (R : Bool) (w : World) (HC0 : ∀ w1, Only (fun _ => False) w w1 → Calls Tryz.prog 9 #[.slice a1 L c1, .slice a2 L c2] w1 fun e w' => e = .returned (.bool R) ∧ Only (fun _ => False) w1 w') (h : ¬ na = nb) :
    Calls Tryz.prog 23 #[.agg #[.int .i64 1, .int .i64 na, .string sa, .slice a1 L c1], .agg #[.int .i64 1, .int .i64 nb, .string sb, .slice a2 L c2]] w fun e w' => e = .returned (.bool false) ∧ Only (fun _ => False) w w' := by
  have O0 : Hid (Only (fun _ => False) w w) := Only.refl _ _
  clear HC0
  go_enter Tryz.func23, Tryz.ntmps23
  go_wp2
  go_ret
  exact ⟨rfl, (O0.out.alloc _).alloc _⟩
set_option maxRecDepth 100000 in
set_option maxHeartbeats 4000000 in
theorem samed_1y (na : Int) (sa sb : ByteArray) (a1 a2 : Option Addr) (L c1 c2 : Nat) (R : Bool) (w : World) (HC0 : ∀ w1, Only (fun _ => False) w w1 → Calls Tryz.prog 9 #[.slice a1 L c1, .slice a2 L c2] w1 fun e w' => e = .returned (.bool R) ∧ Only (fun _ => False) w1 w') :
    Calls Tryz.prog 23 #[.agg #[.int .i64 1, .int .i64 na, .string sa, .slice a1 L c1], .agg #[.int .i64 1, .int .i64 na, .string sb, .slice a2 L c2]] w fun e w' => e = .returned (.bool R) ∧ Only (fun _ => False) w w' := by
  have O0 : Hid (Only (fun _ => False) w w) := Only.refl _ _
  have HC : Hid (∀ w1, Only (fun _ => False) w w1 → Calls Tryz.prog 9 #[.slice a1 L c1, .slice a2 L c2] w1 fun e w' => e = .returned (.bool R) ∧ Only (fun _ => False) w1 w') := HC0
  clear HC0
  go_enter Tryz.func23, Tryz.ntmps23
  go_wp2_with fail
  refine (show Calls Tryz.prog 9 _ _ _ from HC.out _ ((O0.out.alloc _).alloc _)).mono ?_
  rintro e w1 ⟨rfl, o1⟩
  have O1 : Hid (Only (fun _ => False) w w1) := ((O0.out.alloc _).alloc _).trans o1 (fun _ _ g => g)
  clear HC o1
  go_wp2
  go_ret
  exact ⟨rfl, O1.out⟩
set_option maxRecDepth 100000 in
set_option maxHeartbeats 4000000 in
theorem samed_6n (na nb : Int) (sa sb : ByteArray) (a1 a2 : Option Addr) (L c1 c2 : Nat) (R : Bool) (w : World) (HC0 : ∀ w1, Only (fun _ => False) w w1 → Calls Tryz.prog 9 #[.slice a1 L c1, .slice a2 L c2] w1 fun e w' => e = .returned (.bool R) ∧ Only (fun _ => False) w1 w') (h : ¬ na = nb) :
    Calls Tryz.prog 23 #[.agg #[.int .i64 6, .int .i64 na, .string sa, .slice a1 L c1], .agg #[.int .i64 6, .int .i64 nb, .string sb, .slice a2 L c2]] w fun e w' => e = .returned (.bool false) ∧ Only (fun _ => False) w w' := by
  have O0 : Hid (Only (fun _ => False) w w) := Only.refl _ _
  clear HC0
  go_enter Tryz.func23, Tryz.ntmps23
  go_wp2
  go_ret
  exact ⟨rfl, (O0.out.alloc _).alloc _⟩
set_option maxRecDepth 100000 in
set_option maxHeartbeats 4000000 in
theorem samed_6y (na : Int) (sa sb : ByteArray) (a1 a2 : Option Addr) (L c1 c2 : Nat) (R : Bool) (w : World) (HC0 : ∀ w1, Only (fun _ => False) w w1 → Calls Tryz.prog 9 #[.slice a1 L c1, .slice a2 L c2] w1 fun e w' => e = .returned (.bool R) ∧ Only (fun _ => False) w1 w') :
    Calls Tryz.prog 23 #[.agg #[.int .i64 6, .int .i64 na, .string sa, .slice a1 L c1], .agg #[.int .i64 6, .int .i64 na, .string sb, .slice a2 L c2]] w fun e w' => e = .returned (.bool R) ∧ Only (fun _ => False) w w' := by
  have O0 : Hid (Only (fun _ => False) w w) := Only.refl _ _
  have HC : Hid (∀ w1, Only (fun _ => False) w w1 → Calls Tryz.prog 9 #[.slice a1 L c1, .slice a2 L c2] w1 fun e w' => e = .returned (.bool R) ∧ Only (fun _ => False) w1 w') := HC0
  clear HC0
  go_enter Tryz.func23, Tryz.ntmps23
  go_wp2_with fail
  refine (show Calls Tryz.prog 9 _ _ _ from HC.out _ ((O0.out.alloc _).alloc _)).mono ?_
  rintro e w1 ⟨rfl, o1⟩
  have O1 : Hid (Only (fun _ => False) w w1) := ((O0.out.alloc _).alloc _).trans o1 (fun _ _ g => g)
  clear HC o1
  go_wp2
  go_ret
  exact ⟨rfl, O1.out⟩
set_option maxRecDepth 100000 in
set_option maxHeartbeats 4000000 in
theorem samed_2n (na nb : Int) (sa sb : ByteArray) (a1 a2 : Option Addr) (L c1 c2 : Nat) (R : Bool) (w : World) (HC0 : ∀ w1, Only (fun _ => False) w w1 → Calls Tryz.prog 9 #[.slice a1 L c1, .slice a2 L c2] w1 fun e w' => e = .returned (.bool R) ∧ Only (fun _ => False) w1 w') (h : (sa.toList == sb.toList) = false) :
    Calls Tryz.prog 23 #[.agg #[.int .i64 2, .int .i64 na, .string sa, .slice a1 L c1], .agg #[.int .i64 2, .int .i64 nb, .string sb, .slice a2 L c2]] w fun e w' => e = .returned (.bool false) ∧ Only (fun _ => False) w w' := by
  have O0 : Hid (Only (fun _ => False) w w) := Only.refl _ _
  clear HC0
  go_enter Tryz.func23, Tryz.ntmps23
  go_wp2
  go_ret
  exact ⟨rfl, (O0.out.alloc _).alloc _⟩
set_option maxRecDepth 100000 in
set_option maxHeartbeats 4000000 in
theorem samed_2y (na nb : Int) (sa sb : ByteArray) (a1 a2 : Option Addr) (L c1 c2 : Nat) (R : Bool) (w : World) (HC0 : ∀ w1, Only (fun _ => False) w w1 → Calls Tryz.prog 9 #[.slice a1 L c1, .slice a2 L c2] w1 fun e w' => e = .returned (.bool R) ∧ Only (fun _ => False) w1 w') (h : (sa.toList == sb.toList) = true) :
    Calls Tryz.prog 23 #[.agg #[.int .i64 2, .int .i64 na, .string sa, .slice a1 L c1], .agg #[.int .i64 2, .int .i64 nb, .string sb, .slice a2 L c2]] w fun e w' => e = .returned (.bool R) ∧ Only (fun _ => False) w w' := by
  have O0 : Hid (Only (fun _ => False) w w) := Only.refl _ _
  have HC : Hid (∀ w1, Only (fun _ => False) w w1 → Calls Tryz.prog 9 #[.slice a1 L c1, .slice a2 L c2] w1 fun e w' => e = .returned (.bool R) ∧ Only (fun _ => False) w1 w') := HC0
  clear HC0
  go_enter Tryz.func23, Tryz.ntmps23
  go_wp2_with fail
  refine (show Calls Tryz.prog 9 _ _ _ from HC.out _ ((O0.out.alloc _).alloc _)).mono ?_
  rintro e w1 ⟨rfl, o1⟩
  have O1 : Hid (Only (fun _ => False) w w1) := ((O0.out.alloc _).alloc _).trans o1 (fun _ _ g => g)
  clear HC o1
  go_wp2
  go_ret
  exact ⟨rfl, O1.out⟩
set_option maxRecDepth 100000 in
set_option maxHeartbeats 4000000 in
theorem samed_7n (na nb : Int) (sa sb : ByteArray) (a1 a2 : Option Addr) (L c1 c2 : Nat) (R : Bool) (w : World) (HC0 : ∀ w1, Only (fun _ => False) w w1 → Calls Tryz.prog 9 #[.slice a1 L c1, .slice a2 L c2] w1 fun e w' => e = .returned (.bool R) ∧ Only (fun _ => False) w1 w') (h : (sa.toList == sb.toList) = false) :
    Calls Tryz.prog 23 #[.agg #[.int .i64 7, .int .i64 na, .string sa, .slice a1 L c1], .agg #[.int .i64 7, .int .i64 nb, .string sb, .slice a2 L c2]] w fun e w' => e = .returned (.bool false) ∧ Only (fun _ => False) w w' := by
  have O0 : Hid (Only (fun _ => False) w w) := Only.refl _ _
  clear HC0
  go_enter Tryz.func23, Tryz.ntmps23
  go_wp2
  go_ret
  exact ⟨rfl, (O0.out.alloc _).alloc _⟩
set_option maxRecDepth 100000 in
set_option maxHeartbeats 4000000 in
theorem samed_7y (na nb : Int) (sa sb : ByteArray) (a1 a2 : Option Addr) (L c1 c2 : Nat) (R : Bool) (w : World) (HC0 : ∀ w1, Only (fun _ => False) w w1 → Calls Tryz.prog 9 #[.slice a1 L c1, .slice a2 L c2] w1 fun e w' => e = .returned (.bool R) ∧ Only (fun _ => False) w1 w') (h : (sa.toList == sb.toList) = true) :
    Calls Tryz.prog 23 #[.agg #[.int .i64 7, .int .i64 na, .string sa, .slice a1 L c1], .agg #[.int .i64 7, .int .i64 nb, .string sb, .slice a2 L c2]] w fun e w' => e = .returned (.bool R) ∧ Only (fun _ => False) w w' := by
  have O0 : Hid (Only (fun _ => False) w w) := Only.refl _ _
  have HC : Hid (∀ w1, Only (fun _ => False) w w1 → Calls Tryz.prog 9 #[.slice a1 L c1, .slice a2 L c2] w1 fun e w' => e = .returned (.bool R) ∧ Only (fun _ => False) w1 w') := HC0
  clear HC0
  go_enter Tryz.func23, Tryz.ntmps23
  go_wp2_with fail
  refine (show Calls Tryz.prog 9 _ _ _ from HC.out _ ((O0.out.alloc _).alloc _)).mono ?_
  rintro e w1 ⟨rfl, o1⟩
  have O1 : Hid (Only (fun _ => False) w w1) := ((O0.out.alloc _).alloc _).trans o1 (fun _ _ g => g)
  clear HC o1
  go_wp2
  go_ret
  exact ⟨rfl, O1.out⟩
set_option maxRecDepth 100000 in
set_option maxHeartbeats 4000000 in
theorem samed_3y (na nb : Int) (sa sb : ByteArray) (a1 a2 : Option Addr) (L c1 c2 : Nat) (R : Bool) (w : World) (HC0 : ∀ w1, Only (fun _ => False) w w1 → Calls Tryz.prog 9 #[.slice a1 L c1, .slice a2 L c2] w1 fun e w' => e = .returned (.bool R) ∧ Only (fun _ => False) w1 w') (h : (!((na != 0) == (nb != 0))) = false) :
    Calls Tryz.prog 23 #[.agg #[.int .i64 3, .int .i64 na, .string sa, .slice a1 L c1], .agg #[.int .i64 3, .int .i64 nb, .string sb, .slice a2 L c2]] w fun e w' => e = .returned (.bool R) ∧ Only (fun _ => False) w w' := by
  have O0 : Hid (Only (fun _ => False) w w) := Only.refl _ _
  have HC : Hid (∀ w1, Only (fun _ => False) w w1 → Calls Tryz.prog 9 #[.slice a1 L c1, .slice a2 L c2] w1 fun e w' => e = .returned (.bool R) ∧ Only (fun _ => False) w1 w') := HC0
  clear HC0
  go_enter Tryz.func23, Tryz.ntmps23
  go_wp2_with fail
  refine (show Calls Tryz.prog 9 _ _ _ from HC.out _ ((O0.out.alloc _).alloc _)).mono ?_
  rintro e w1 ⟨rfl, o1⟩
  have O1 : Hid (Only (fun _ => False) w w1) := ((O0.out.alloc _).alloc _).trans o1 (fun _ _ g => g)
  clear HC o1
  go_wp2
  go_ret
  exact ⟨rfl, O1.out⟩
set_option maxRecDepth 100000 in
set_option maxHeartbeats 4000000 in
theorem samed_3n (na nb : Int) (sa sb : ByteArray) (a1 a2 : Option Addr) (L c1 c2 : Nat) (R : Bool) (w : World) (HC0 : ∀ w1, Only (fun _ => False) w w1 → Calls Tryz.prog 9 #[.slice a1 L c1, .slice a2 L c2] w1 fun e w' => e = .returned (.bool R) ∧ Only (fun _ => False) w1 w') (h : (!((na != 0) == (nb != 0))) = true) :
    Calls Tryz.prog 23 #[.agg #[.int .i64 3, .int .i64 na, .string sa, .slice a1 L c1], .agg #[.int .i64 3, .int .i64 nb, .string sb, .slice a2 L c2]] w fun e w' => e = .returned (.bool false) ∧ Only (fun _ => False) w w' := by
  have O0 : Hid (Only (fun _ => False) w w) := Only.refl _ _
  clear HC0
  go_enter Tryz.func23, Tryz.ntmps23
  go_wp2
  go_ret
  exact ⟨rfl, (O0.out.alloc _).alloc _⟩
set_option maxRecDepth 100000 in
set_option maxHeartbeats 4000000 in
theorem samed_o (k na nb : Int) (sa sb : ByteArray) (a1 a2 : Option Addr) (L c1 c2 : Nat) (R : Bool) (w : World) (HC0 : ∀ w1, Only (fun _ => False) w w1 → Calls Tryz.prog 9 #[.slice a1 L c1, .slice a2 L c2] w1 fun e w' => e = .returned (.bool R) ∧ Only (fun _ => False) w1 w') (h1 : ¬ k = 1) (h2 : ¬ k = 2) (h3 : ¬ k = 3) (h6 : ¬ k = 6) (h7 : ¬ k = 7) :
    Calls Tryz.prog 23 #[.agg #[.int .i64 k, .int .i64 na, .string sa, .slice a1 L c1], .agg #[.int .i64 k, .int .i64 nb, .string sb, .slice a2 L c2]] w fun e w' => e = .returned (.bool R) ∧ Only (fun _ => False) w w' := by
  have O0 : Hid (Only (fun _ => False) w w) := Only.refl _ _
  have HC : Hid (∀ w1, Only (fun _ => False) w w1 → Calls Tryz.prog 9 #[.slice a1 L c1, .slice a2 L c2] w1 fun e w' => e = .returned (.bool R) ∧ Only (fun _ => False) w1 w') := HC0
  clear HC0
  go_enter Tryz.func23, Tryz.ntmps23
  go_wp2_with fail
  refine (show Calls Tryz.prog 9 _ _ _ from HC.out _ ((O0.out.alloc _).alloc _)).mono ?_
  rintro e w1 ⟨rfl, o1⟩
  have O1 : Hid (Only (fun _ => False) w w1) := ((O0.out.alloc _).alloc _).trans o1 (fun _ _ g => g)
  clear HC o1
  go_wp2
  go_ret
  exact ⟨rfl, O1.out⟩
theorem SmT.subs {e : Nat} {t : Vt} (h : SmT e t) : t.l.length ≤ 2513169434900 ∧ ∀ x ∈ t.l, ∃ e, SmT e x := by
  cases e with
  | zero => exact h.elim
  | succ e => exact ⟨h.2.1, fun x hx => ⟨e, h.2.2.2.2 x hx⟩⟩
theorem dsame_of (d : Nat) (H : DaC (d + 1)) : DmC (d + 1) := by
  intro a b va vb w S S' h1 h2 ⟨e1, g1⟩ ⟨e2, g2⟩
  obtain ⟨a1, c1, rfl⟩ := h1.form
  obtain ⟨a2, c2, rfl⟩ := h2.form
  unfold saV
  by_cases hk : a.k = b.k
  · by_cases hl : a.l.length = b.l.length
    · have hc : ∀ w1, Only (fun _ => False) w w1 → Calls Tryz.prog 9 #[.slice a1 a.l.length c1, .slice a2 a.l.length c2] w1 fun e w' => e = .returned (.bool (smL (saV d) a.l b.l)) ∧ Only (fun _ => False) w1 w' := fun w1 o1 => by
        have := H a.l b.l _ _ w1 S S' (h1.only o1) (h2.only o1) g1.subs.1 g2.subs.1 g1.subs.2 g2.subs.2
        rw [← hl] at this
        exact this
      rw [← hk, ← hl, decide_eq_true rfl, decide_eq_true rfl, Bool.true_and, Bool.true_and]
      generalize smL (saV d) a.l b.l = R at hc ⊢
      generalize a.l.length = L at hc ⊢
      generalize a.k = k at *
      unfold saL
      by_cases k1 : k = 1
      · subst k1
        rw [if_pos (.inl rfl)]
        by_cases hn : a.n = b.n
        · rw [← hn, beq_self_eq_true, Bool.true_and]; exact samed_1y _ _ _ _ _ _ _ _ R w hc
        · rw [beq_false_of_ne hn, Bool.false_and]; exact samed_1n _ _ _ _ _ _ _ _ _ R w hc hn
      by_cases k6 : k = 6
      · subst k6
        rw [if_pos (.inr rfl)]
        by_cases hn : a.n = b.n
        · rw [← hn, beq_self_eq_true, Bool.true_and]; exact samed_6y _ _ _ _ _ _ _ _ R w hc
        · rw [beq_false_of_ne hn, Bool.false_and]; exact samed_6n _ _ _ _ _ _ _ _ _ R w hc hn
      rw [if_neg (fun g => g.elim k1 k6)]
      by_cases k3 : k = 3
      · subst k3
        rw [if_pos rfl]
        cases hn : ((a.n != 0) == (b.n != 0)) with
        | true => rw [Bool.true_and]; exact samed_3y _ _ _ _ _ _ _ _ _ R w hc (by rw [hn]; rfl)
        | false => rw [Bool.false_and]; exact samed_3n _ _ _ _ _ _ _ _ _ R w hc (by rw [hn]; rfl)
      rw [if_neg k3]
      by_cases k2 : k = 2
      · subst k2
        rw [if_pos (.inl rfl)]
        cases hn : (a.s.toList == b.s.toList) with
        | true => rw [Bool.true_and]; exact samed_2y _ _ _ _ _ _ _ _ _ R w hc hn
        | false => rw [Bool.false_and]; exact samed_2n _ _ _ _ _ _ _ _ _ R w hc hn
      by_cases k7 : k = 7
      · subst k7
        rw [if_pos (.inr rfl)]
        cases hn : (a.s.toList == b.s.toList) with
        | true => rw [Bool.true_and]; exact samed_7y _ _ _ _ _ _ _ _ _ R w hc hn
        | false => rw [Bool.false_and]; exact samed_7n _ _ _ _ _ _ _ _ _ R w hc hn
      rw [if_neg (fun g => g.elim k2 k7), Bool.true_and]
      exact samed_o k _ _ _ _ _ _ _ _ _ R w hc k1 k2 k3 k6 k7
    · rw [decide_eq_false hl, Bool.and_false, Bool.false_and, Bool.false_and]
      exact samed_ne _ _ _ _ _ _ _ _ _ _ _ _ w (.inr (by omega))
  · rw [decide_eq_false hk, Bool.false_and, Bool.false_and, Bool.false_and]
    exact samed_ne _ _ _ _ _ _ _ _ _ _ _ _ w (.inl hk)
end Go.Proofs.YtmpfbjmaiddigaaGreatDoor
namespace Go.Proofs.YtmpfbjmaiddigaaGreatDoor
open Go.RowKit Go.Lib
set_option linter.unusedSimpArgs false
set_option linter.unusedVariables false
/-- A character of a text: its number, its place, the place behind it, and whether the byte belongs to none. -/
structure Chr where
  r : Nat
  a : Nat
  z : Nat
  b : Bool
def chr1 (s : ByteArray) (x : Nat × Nat) : Chr := if x.2 = 65533 ∧ preB (s.extract x.1 s.size) rpB = false then ⟨x.2, x.1, x.1 + 1, true⟩ else ⟨x.2, x.1, x.1 + wr x.2, false⟩
def chrL (s : ByteArray) : List Chr := (chs s).map (chr1 s)
def chCs (l : List Chr) : List Value := l.flatMap fun c => [.int .i32 (c.r : Int), .int .i64 (c.a : Int), .int .i64 (c.z : Int), .bool c.b]
theorem chCs_snoc (l : List Chr) (c : Chr) : chCs (l ++ [c]) = chCs l ++ [.int .i32 (c.r : Int), .int .i64 (c.a : Int), .int .i64 (c.z : Int), .bool c.b] := by simp [chCs]
theorem chCs_get : ∀ (l : List Chr) (i : Nat) (t : Chr), l[i]? = some t → (chCs l)[i * 4]? = some (.int .i32 (t.r : Int)) ∧ (chCs l)[i * 4 + 1]? = some (.int .i64 (t.a : Int)) ∧ (chCs l)[i * 4 + 2]? = some (.int .i64 (t.z : Int)) ∧ (chCs l)[i * 4 + 3]? = some (.bool t.b)
  | [], i, t, h => by simp at h
  | x :: l, 0, t, h => by
    simp only [List.getElem?_cons_zero, Option.some.injEq] at h
    subst h
    simp [chCs]
  | x :: l, i + 1, t, h => by
    have := chCs_get l i t (by simpa using h)
    have e : ∀ k, (chCs (x :: l))[k + 4]? = (chCs l)[k]? := fun k => by simp [chCs]
    rw [show (i + 1) * 4 = i * 4 + 4 by omega, show i * 4 + 4 + 1 = i * 4 + 1 + 4 by omega, show i * 4 + 4 + 2 = i * 4 + 2 + 4 by omega, show i * 4 + 4 + 3 = i * 4 + 3 + 4 by omega, e, e, e, e]
    exact this
/-- The language's own encoding of a character. -/
theorem encode_tx {c : Nat} (hc : Vr c) : Utf8.encode (c : Int) = tx [c] := by
  apply tx_inj
  rw [show enL [c] = encodeRune (c : Int) by simp [enL]]
  have hv : Utf8.valid (c : Int) = true := by
    unfold Vr at hc
    simp only [Utf8.valid, Bool.and_eq_true, Bool.or_eq_true, decide_eq_true_eq]
    omega
  unfold Utf8.encode
  simp only [hv, if_true, Int.toNat_natCast]
  unfold Vr at hc
  by_cases h1 : c ≤ 127
  · rw [enc1 h1, if_pos (by omega)]
  · by_cases h2 : c ≤ 2047
    · rw [enc2 (by omega) h2, if_neg (by omega), if_pos (by omega)]
    · by_cases h3 : c ≤ 65535
      · rw [enc3 (by omega), if_neg (by omega), if_neg (by omega), if_pos (by omega)]
      · rw [enc4 (by omega) (by omega), if_neg (by omega), if_neg (by omega), if_neg (by omega)]
theorem wr_le (c : Nat) : wr c ≤ 4 := by
  have := (runeCells_le (c : Int)).2
  rw [runeCells_length] at this
  exact this
theorem ext3 (s : ByteArray) (i : Nat) (h : i + 3 ≤ s.size) : (s.extract i s.size).extract 0 3 = s.extract i (i + 3) := by
  apply ByteArray.ext
  simp only [ByteArray.data_extract, Array.extract_extract, Nat.add_zero]
  rw [show min (i + 3) s.size = i + 3 by omega]
theorem list_inj {x y : ByteArray} (h : x.toList = y.toList) : x = y := by
  rw [ByteArray.toList_eq, ByteArray.toList_eq] at h
  exact ByteArray.ext (Array.toList_inj.1 h)
/-- The three bytes of the character FFFD stand at a place, or not. -/
theorem pre_three (s : ByteArray) (i : Nat) (hi : i ≤ s.size) : preB (s.extract i s.size) rpB = decide (i + 3 ≤ s.size ∧ s.extract i (i + 3) = rpB) := by
  have hz : (s.extract i s.size).size = s.size - i := by rw [ByteArray.size_extract]; omega
  unfold preB
  rw [show rpB.size = 3 from rfl, hz]
  by_cases h : i + 3 ≤ s.size
  · rw [ext3 s i h, decide_eq_true (by omega : 3 ≤ s.size - i), Bool.true_and]
    by_cases h2 : s.extract i (i + 3) = rpB
    · rw [decide_eq_true ⟨h, h2⟩, h2]
      simp
    · rw [decide_eq_false (fun g => h2 g.2), Bool.eq_false_iff]
      intro g
      exact h2 (list_inj (by simpa using g))
  · rw [decide_eq_false (by omega : ¬ 3 ≤ s.size - i), decide_eq_false (fun g => h g.1)]
    rfl
theorem new_cells (W : World) (t : TypeId) (a b c d : Value) : ∀ (j : Nat) (u : Value), [a, b, c, d][j]? = some u → (W.alloc (.cells #[a, b, c, d] t)).cell? ((⟨W.heap.size, 0, none⟩ : Addr).add j) = some u := by
  intro j u hj
  rw [addr_add, blk_cells (alloc_at W _ _ rfl)]
  simpa using hj
theorem one4 (x y z : Int) (b : Bool) : ∀ u ∈ [Value.int .i32 x, .int .i64 y, .int .i64 z, .bool b], u.oneCell' = true := by
  intro u hu
  simp only [List.mem_cons, List.not_mem_nil, or_false] at hu
  rcases hu with rfl | rfl | rfl | rfl <;> rfl
def badL : List Chr → Int
  | [] => -1
  | c :: l => if c.b = true then (c.a : Int) else badL l
theorem badL_st (s : ByteArray) : ∀ (l : List (Nat × Nat)), (∀ x ∈ l, x.1 < s.size) → badL (l.map (chr1 s)) = if stL s l < s.size then (stL s l : Int) else -1
  | [], _ => by simp [badL, stL]
  | (i, c) :: l, h => by
    have hi := h (i, c) (List.mem_cons_self ..)
    rw [List.map_cons, badL, stL]
    unfold chr1
    by_cases hb : c = 65533 ∧ preB (s.extract i s.size) rpB = false
    · rw [if_pos hb, if_pos rfl, if_pos hb, if_pos hi]
    · rw [if_neg hb, if_neg (by simp), if_neg hb]
      exact badL_st s l (fun x hx => h x (List.mem_cons_of_mem _ hx))
theorem crs_lt (s : ByteArray) : ∀ (b pos : Nat), ∀ x ∈ crs s b pos, x.1 < s.size
  | 0, pos, x, hx => by simp [crs] at hx
  | b + 1, pos, x, hx => by
    by_cases hp : pos < s.size
    · rw [show crs s (b + 1) pos = (pos, (Utf8.decode s pos).1) :: crs s b (pos + (Utf8.decode s pos).2) by simp [crs, hp]] at hx
      rcases List.mem_cons.1 hx with rfl | hx
      · exact hp
      · exact crs_lt s b _ x hx
    · rw [crs_end hp] at hx
      simp at hx
theorem crs_len (s : ByteArray) : ∀ (b pos : Nat), pos ≤ s.size → (crs s b pos).length ≤ s.size - pos
  | 0, pos, _ => by simp [crs]
  | b + 1, pos, h => by
    by_cases hp : pos < s.size
    · rw [show crs s (b + 1) pos = (pos, (Utf8.decode s pos).1) :: crs s b (pos + (Utf8.decode s pos).2) by simp [crs, hp], List.length_cons]
      have := wid_pos s pos hp
      have := decode_wd s pos hp
      have := crs_len s b (pos + (Utf8.decode s pos).2) (by omega)
      omega
    · rw [crs_end hp]
      simp
theorem chrL_len (s : ByteArray) : (chrL s).length ≤ s.size := by
  have := crs_len s s.size 0 (Nat.zero_le _)
  unfold chrL chs
  rw [List.length_map]
  omega
def badR (s : ByteArray) : Int := if stR s < s.size then (stR s : Int) else -1
theorem badR_eq (s : ByteArray) : badL (chrL s) = badR s := badL_st s _ (crs_lt s _ _)
theorem badL_drop {l : List Chr} {i : Nat} {t : Chr} (h : l[i]? = some t) : badL (l.drop i) = if t.b = true then (t.a : Int) else badL (l.drop (i + 1)) := by
  have hi := (List.getElem?_eq_some_iff.1 h).1
  have : l.drop i = t :: l.drop (i + 1) := by
    rw [← (List.getElem?_eq_some_iff.1 h).2]
    exact List.drop_eq_getElem_cons hi
  rw [this, badL]
/-- The nought of a digit's script, or 0. -/
def rs (c : Nat) : Nat := if 48 ≤ c ∧ c ≤ 57 then 48 else if 1632 ≤ c ∧ c ≤ 1641 then 1632 else if 65296 ≤ c ∧ c ≤ 65305 then 65296 else 0
/-- A row of characters that can be read. -/
def RdC (w : World) (v : Value) (l : List Chr) : Prop := ∃ ao cap, v = .slice ao l.length cap ∧ l.length ≤ cap ∧ ∀ i t, l[i]? = some t → ∃ g o, ao = some ⟨g, o, none⟩ ∧ g < w.heap.size ∧ w.cell? ⟨g, o + i * 4, none⟩ = some (.int .i32 (t.r : Int)) ∧ w.cell? ⟨g, o + i * 4 + 1, none⟩ = some (.int .i64 (t.a : Int)) ∧ w.cell? ⟨g, o + i * 4 + 2, none⟩ = some (.int .i64 (t.z : Int)) ∧ w.cell? ⟨g, o + i * 4 + 3, none⟩ = some (.bool t.b)
theorem RdC.only {w w' : World} {v : Value} {l : List Chr} (h : RdC w v l) (o : Only (fun _ => False) w w') : RdC w' v l := by
  obtain ⟨ao, cap, e, hc, h⟩ := h
  refine ⟨ao, cap, e, hc, fun i t ht => ?_⟩
  obtain ⟨g, oo, e1, hg, c0, c1, c2, c3⟩ := h i t ht
  exact ⟨g, oo, e1, Nat.lt_of_lt_of_le hg o.size, o.cell c0 (fun x => x), o.cell c1 (fun x => x), o.cell c2 (fun x => x), o.cell c3 (fun x => x)⟩
/-- The digits of one script, from the first on. -/
def rnum (nt : Nat) : List Nat → Nat → Nat × Bool
  | [], n => (n, true)
  | c :: l, n => if rs c ≠ nt then (0, false) else rnum nt l (min (10 * n + (c - rs c)) 1152921504606846977)
def rminus (l : List Nat) : Bool := decide (l.head? = some 45 ∨ l.head? = some 8722)
def rrest (l : List Nat) : List Nat := if rminus l then l.tail else l
def rnumM (mn : Bool) : List Nat → Nat × Bool × Bool
  | [] => (0, mn, false)
  | c :: r => if rs c = 0 then (0, mn, false) else ((rnum (rs c) (c :: r) 0).1, mn, (rnum (rs c) (c :: r) 0).2)
def rnumL (l : List Nat) : Nat × Bool × Bool := rnumM (rminus l) (rrest l)
theorem rs_digit {c : Nat} (h : rs c ≠ 0) : rs c ≤ c ∧ c - rs c ≤ 9 := by
  unfold rs at h ⊢
  split
  · omega
  · split
    · omega
    · split
      · omega
      · rename_i h1 h2 h3
        simp [h1, h2, h3] at h
def rnV (x : Nat × Bool × Bool) : Value := .tuple #[.int .u64 (x.1 : Int), .bool x.2.1, .bool x.2.2]
theorem chr_runes (s : ByteArray) : (chrL s).map (·.r) = rns s := by
  unfold chrL rns
  rw [List.map_map]
  apply List.map_congr_left
  intro x _
  simp only [Function.comp, chr1]
  split <;> rfl
/-- The characters behind a place, as a text of its own. -/
theorem crs_tail (s : ByteArray) (n : Nat) (hn : n ≤ s.size) : ∀ (b pos : Nat), (crs (s.extract n s.size) b pos).map (·.2) = (crs s b (n + pos)).map (·.2)
  | 0, pos => rfl
  | b + 1, pos => by
    have hz : (s.extract n s.size).size = s.size - n := by rw [ByteArray.size_extract]; omega
    by_cases hp : n + pos < s.size
    · rw [show crs s (b + 1) (n + pos) = (n + pos, (Utf8.decode s (n + pos)).1) :: crs s b (n + pos + (Utf8.decode s (n + pos)).2) by simp [crs, hp]]
      rw [show crs (s.extract n s.size) (b + 1) pos = (pos, (Utf8.decode (s.extract n s.size) pos).1) :: crs (s.extract n s.size) b (pos + (Utf8.decode (s.extract n s.size) pos).2) by simp [crs, hz]; omega]
      rw [tail_decode, List.map_cons, List.map_cons, crs_tail s n hn b, Nat.add_assoc]
    · rw [crs_end (by omega), crs_end (by omega)]
theorem crs_fuel (s : ByteArray) : ∀ (b b' pos : Nat), s.size ≤ pos + b → s.size ≤ pos + b' → crs s b pos = crs s b' pos
  | b, b', pos, h, h' => by
    induction b generalizing b' pos with
    | zero => rw [crs_end (by omega), crs_end (by omega)]
    | succ b ih =>
      by_cases hp : pos < s.size
      · have := wid_pos s pos hp
        obtain ⟨b2, rfl⟩ : ∃ k, b' = k + 1 := ⟨b' - 1, by omega⟩
        rw [show crs s (b + 1) pos = (pos, (Utf8.decode s pos).1) :: crs s b (pos + (Utf8.decode s pos).2) by simp [crs, hp], show crs s (b2 + 1) pos = (pos, (Utf8.decode s pos).1) :: crs s b2 (pos + (Utf8.decode s pos).2) by simp [crs, hp], ih b2 _ (by omega) (by omega)]
      · rw [crs_end hp, crs_end hp]
theorem rns_nil {s : ByteArray} (h : s.size = 0) : rns s = [] := by
  unfold rns chs
  rw [crs_end (by omega)]
  rfl
theorem rns_cons {s : ByteArray} (h : 0 < s.size) : rns s = (Utf8.decode s 0).1 :: rns (s.extract (Utf8.decode s 0).2 s.size) := by
  have hw := wid_pos s 0 h
  have hwd := decode_wd s 0 h
  have hz : (s.extract (Utf8.decode s 0).2 s.size).size = s.size - (Utf8.decode s 0).2 := by rw [ByteArray.size_extract]; omega
  obtain ⟨b, hb, e⟩ := crs_go (s := s) (b := s.size) (pos := 0) h (by omega)
  unfold rns chs
  rw [e, List.map_cons, crs_tail s _ (by omega), Nat.add_zero, hz, Nat.zero_add]
  congr 2
  exact crs_fuel s _ _ _ (by omega) (by omega)
/-- A text begins with a character. -/
theorem pre_rune (s : ByteArray) {c : Nat} (hc : Vr c) (hb : c ≠ 65533) : preB s (tx [c]) = decide ((rns s).head? = some c) := by
  have hw := wr_pos c
  have hts : (tx [c]).size = wr c := by rw [tx_size, wl_cons, wl_nil, Nat.add_zero]
  have htd : (tx [c]).data.toList = encodeRune (c : Int) := by rw [tx_data]; simp [enL]
  rw [Bool.eq_iff_iff, decide_eq_true_iff]
  constructor
  · intro h
    have ht := pre_take h
    rw [hts, htd] at ht
    have hs : 0 < s.size := by have := preB_le h; omega
    have e3 : s.data.toList = encodeRune (c : Int) ++ s.data.toList.drop (wr c) := by
      rw [← ht]
      exact (List.take_append_drop _ _).symm
    have hd := decodeL_drop s 0
    rw [List.drop_zero, e3, decodeL_enc hc] at hd
    rw [rns_cons hs, ← hd]
    rfl
  · intro h
    by_cases hs : 0 < s.size
    · rw [rns_cons hs] at h
      simp only [List.head?_cons, Option.some.injEq] at h
      have hd := decodeL_drop s 0
      rw [List.drop_zero] at hd
      have hne : s.data.toList ≠ [] := by
        intro g
        have := congrArg List.length g
        rw [Array.length_toList] at this
        have : s.size = 0 := this
        omega
      have he := encode_decode s.data.toList hne (by rw [hd, h]; intro g; exact hb g.1)
      rw [hd, h] at he
      have hle := decodeL_le s.data.toList hne
      rw [hd] at hle
      have hl : wr c = (Utf8.decode s 0).2 := by
        unfold wr
        rw [he, List.length_take]
        omega
      unfold preB
      rw [hts]
      have hsz : s.data.toList.length = s.size := Array.length_toList
      rw [decide_eq_true (by omega : wr c ≤ s.size), Bool.true_and, beq_iff_eq, ByteArray.toList_eq, ByteArray.toList_eq, htd, he, ← hl, ByteArray.data_extract, Array.toList_extract]
      simp
    · rw [rns_nil (by omega)] at h
      simp at h
theorem hy_tx : hyB = tx [45] := rfl
theorem mi_tx : miB = tx [8722] := rfl
theorem sgn_runes (s : ByteArray) : rns (sgn s).1 = rrest (rns s) ∧ (sgn s).2 = rminus (rns s) := by
  unfold sgn rrest
  have h1 := pre_rune s (c := 45) (.inl (by decide)) (by decide)
  have h2 := pre_rune s (c := 8722) (.inl (by decide)) (by decide)
  rw [← hy_tx] at h1
  rw [← mi_tx] at h2
  rw [h1, h2]
  by_cases g1 : (rns s).head? = some 45
  · have hm : rminus (rns s) = true := by unfold rminus; exact decide_eq_true (.inl g1)
    rw [if_pos (by simpa using g1), hm, if_pos rfl]
    refine ⟨?_, rfl⟩
    have hs : 0 < s.size := by
      rcases Nat.eq_zero_or_pos s.size with h | h
      · rw [rns_nil h] at g1; simp at g1
      · exact h
    have e := rns_cons hs
    rw [e] at g1
    simp only [List.head?_cons, Option.some.injEq] at g1
    have hd : (Utf8.decode s 0).2 = 1 := by
      by_cases ha : (s[0]'hs).toNat < 128
      · rw [decode_ascii s 0 hs ha]
      · have := (decode_high s 0 hs (by omega)).1
        omega
    rw [e, hd]
    rfl
  · rw [if_neg (by simpa using g1)]
    by_cases g2 : (rns s).head? = some 8722
    · have hm : rminus (rns s) = true := by unfold rminus; exact decide_eq_true (.inr g2)
      rw [if_pos (by simpa using g2), hm, if_pos rfl]
      refine ⟨?_, rfl⟩
      have hs : 0 < s.size := by
        rcases Nat.eq_zero_or_pos s.size with h | h
        · rw [rns_nil h] at g2; simp at g2
        · exact h
      have e := rns_cons hs
      have hp : preB s (tx [8722]) = true := by rw [← mi_tx, h2]; simpa using g2
      have ht := pre_take hp
      have hd : (Utf8.decode s 0).2 = 3 := by
        have e3 : s.data.toList = encodeRune ((8722 : Nat) : Int) ++ s.data.toList.drop 3 := by
          have : encodeRune ((8722 : Nat) : Int) = (tx [8722]).data.toList := rfl
          rw [this, ← ht]
          exact (List.take_append_drop _ _).symm
        have hd := decodeL_drop s 0
        rw [List.drop_zero, e3, decodeL_enc (.inl (by decide))] at hd
        rw [← hd]
        rfl
      rw [e, hd]
      rfl
    · have hm : rminus (rns s) = false := by unfold rminus; exact decide_eq_false (fun g => g.elim g1 g2)
      rw [if_neg (by simpa using g2), hm, if_neg (by simp)]
      exact ⟨rfl, rfl⟩
theorem scr_rs (c : Nat) : scr (c : Int) = if rs c = 0 then none else some (rs c : Int) := by
  unfold scr rs inS
  simp only [decide_eq_true_eq]
  by_cases h1 : 48 ≤ c ∧ c ≤ 57
  · rw [if_pos (by omega), if_pos h1]; rfl
  · rw [if_neg (by omega), if_neg h1]
    by_cases h2 : 1632 ≤ c ∧ c ≤ 1641
    · rw [if_pos (by omega), if_pos h2]; rfl
    · rw [if_neg (by omega), if_neg h2]
      by_cases h3 : 65296 ≤ c ∧ c ≤ 65305
      · rw [if_pos (by omega), if_pos h3]; rfl
      · rw [if_neg (by omega), if_neg h3]; rfl
theorem ins_rs (c d : Nat) (h : rs d ≠ 0) : inS (c : Int) (rs d : Int) = decide (rs c = rs d) := by
  unfold inS
  rw [Bool.eq_iff_iff, decide_eq_true_iff, decide_eq_true_iff]
  unfold rs at h ⊢
  by_cases h1 : 48 ≤ d ∧ d ≤ 57
  · simp only [if_pos h1] at h ⊢
    constructor
    · intro g; rw [if_pos (by omega)]
    · intro g
      split at g
      · omega
      · split at g
        · omega
        · split at g <;> omega
  · simp only [if_neg h1] at h ⊢
    by_cases h2 : 1632 ≤ d ∧ d ≤ 1641
    · simp only [if_pos h2] at h ⊢
      constructor
      · intro g; rw [if_neg (by omega), if_pos (by omega)]
      · intro g
        split at g
        · omega
        · split at g
          · omega
          · split at g <;> omega
    · simp only [if_neg h2] at h ⊢
      by_cases h3 : 65296 ≤ d ∧ d ≤ 65305
      · simp only [if_pos h3] at h ⊢
        constructor
        · intro g; rw [if_neg (by omega), if_neg (by omega), if_pos (by omega)]
        · intro g
          split at g
          · omega
          · split at g
            · omega
            · split at g <;> omega
      · simp only [if_neg h3] at h
        exact absurd rfl h
theorem nat_rnum (d : Nat) (hd : rs d ≠ 0) : ∀ (l : List Nat) (np nr : Nat), nr = min np 1152921504606846977 → (natL l (rs d : Int) true np).2 = (rnum (rs d) l nr).2 ∧ ((rnum (rs d) l nr).2 = true → (rnum (rs d) l nr).1 = min (natL l (rs d : Int) true np).1 1152921504606846977)
  | [], np, nr, h => ⟨rfl, fun _ => h⟩
  | c :: l, np, nr, h => by
    rw [natL, rnum, ins_rs c d hd]
    by_cases hc : rs c = rs d
    · rw [if_pos (by simpa using hc), if_neg (by simpa using hc)]
      have hdg := rs_digit (c := c) (by rw [hc]; exact hd)
      refine nat_rnum d hd l _ _ ?_
      unfold dig
      rw [hc] at hdg ⊢
      split
      · omega
      · omega
    · rw [if_neg (by simpa using hc), if_pos hc]
      exact ⟨rfl, fun g => by simp at g⟩
/-- What the document's Number answers. -/
def rNumR (s : ByteArray) : Int × Int :=
  if (rnumL (rns s)).2.2 = false then (0, 9)
  else if (rnumL (rns s)).2.1 = true ∧ (rnumL (rns s)).1 ≤ 1152921504606846976 then (-((rnumL (rns s)).1 : Int), 0)
  else if 1152921504606846975 < (rnumL (rns s)).1 then (0, 11)
  else ((rnumL (rns s)).1, 0)
theorem num_same (s : ByteArray) : rNumR s = numR s ∧ ((numR s).2 = 9 ↔ (rnumL (rns s)).2.2 = false) := by
  obtain ⟨h1, h2⟩ := sgn_runes s
  unfold rNumR numR rnumL
  rw [h1, h2]
  have key : ∀ (l : List Nat) (mn : Bool), (rnumM mn l).2.1 = mn ∧ (natL l 0 false 0).2 = (rnumM mn l).2.2 ∧ ((rnumM mn l).2.2 = true → (rnumM mn l).1 = min (natL l 0 false 0).1 1152921504606846977) := by
    intro l mn
    cases l with
    | nil => exact ⟨rfl, rfl, fun g => by simp [rnumM] at g⟩
    | cons c l =>
      rw [rnumM, natL, scr_rs]
      by_cases hc : rs c = 0
      · rw [if_pos hc, if_pos hc]
        exact ⟨rfl, rfl, fun g => by simp at g⟩
      · rw [if_neg hc, if_neg hc]
        have hdg := rs_digit hc
        rw [rnum, if_neg (by simp)]
        have := nat_rnum c hc l (dig 0 c (rs c : Int)) (min (10 * 0 + (c - rs c)) 1152921504606846977) (by unfold dig; rw [if_pos (by omega)]; omega)
        exact ⟨rfl, this.1, this.2⟩
  obtain ⟨k1, k2, k3⟩ := key (rrest (rns s)) (rminus (rns s))
  obtain ⟨p, hp⟩ : ∃ p, p = natL (rrest (rns s)) 0 false 0 := ⟨_, rfl⟩
  obtain ⟨r, hr⟩ : ∃ r, r = rnumM (rminus (rns s)) (rrest (rns s)) := ⟨_, rfl⟩
  rw [← hp, ← hr] at k2 k3
  rw [← hr] at k1
  rw [← hp, ← hr]
  obtain ⟨pn, po⟩ := p
  obtain ⟨rn, rm, ro⟩ := r
  clear hp hr h1 h2 key
  obtain ⟨mn, hmn⟩ : ∃ mn, mn = rminus (rns s) := ⟨_, rfl⟩
  rw [← hmn] at k1 ⊢
  clear hmn
  dsimp only at k1 k2 k3 ⊢
  subst k1
  subst k2
  cases po with
  | false => exact ⟨rfl, by simp⟩
  | true =>
    have k4 := k3 rfl
    clear k3
    have f1 : ¬ (true = false) := by simp
    rw [if_neg f1, if_neg f1]
    cases rm with
    | true =>
      by_cases hle : pn ≤ 1152921504606846976
      · have : rn = pn := by omega
        subst this
        rw [if_pos ⟨rfl, hle⟩, if_pos ⟨rfl, hle⟩]
        simp
      · have h3 : ¬ (true = true ∧ rn ≤ 1152921504606846976) := fun g => by have := g.2; omega
        have h4 : ¬ (true = true ∧ pn ≤ 1152921504606846976) := fun g => hle g.2
        have h5 : 1152921504606846975 < rn := by omega
        have h6 : ¬ (true = false ∧ pn ≤ 1152921504606846975) := fun g => by simp at g
        rw [if_neg h3, if_neg h4, if_pos h5, if_neg h6]
        simp
    | false =>
      have h3 : ∀ x : Nat, ¬ (false = true ∧ x ≤ 1152921504606846976) := fun x g => by simp at g
      rw [if_neg (h3 rn), if_neg (h3 pn)]
      by_cases hle : pn ≤ 1152921504606846975
      · have : rn = pn := by omega
        subst this
        rw [if_neg (by omega), if_pos ⟨rfl, hle⟩]
        simp
      · have h5 : 1152921504606846975 < rn := by omega
        have h6 : ¬ (false = false ∧ pn ≤ 1152921504606846975) := fun g => hle g.2
        rw [if_pos h5, if_neg h6]
        simp
/-- What a name is, by its characters. -/
theorem nmL_all : ∀ (l : List Nat) (k : Nat), k + l.length ≤ 32 → nmL l k = (decide (0 < k + l.length) && l.all ofN)
  | [], k, h => by simp [nmL]
  | c :: l, k, h => by
    rw [List.length_cons] at h
    rw [nmL, List.all_cons, List.length_cons]
    by_cases hc : ofN c = false
    · rw [if_pos (.inr hc), hc]; simp
    · rw [if_neg (fun g => g.elim (by omega) hc), nmL_all l (k + 1) (by omega)]
      simp only [Bool.not_eq_false] at hc
      rw [hc, Bool.true_and, decide_eq_true (by omega), decide_eq_true (by omega)]
theorem nmL_long : ∀ (l : List Nat) (k : Nat), k ≤ 32 → 32 < k + l.length → nmL l k = false
  | [], k, h0, h => by simp at h; omega
  | c :: l, k, h0, h => by
    rw [nmL]
    rw [List.length_cons] at h
    split
    · rfl
    · rename_i g
      exact nmL_long l (k + 1) (by omega) (by omega)
theorem qu_tx : quB = tx [34] := rfl
theorem name_eq (s : ByteArray) : nameB s = (!(s.toList == [33]) && !decide ((rns s).head? = some 34) && decide (0 < (rns s).length) && decide ((rns s).length ≤ 32) && (rns s).all ofN && !(rnumL (rns s)).2.2) := by
  unfold nameB nmdB
  have h1 := (num_same s).2
  have h2 := pre_rune s (c := 34) (.inl (by decide)) (by decide)
  rw [← qu_tx] at h2
  rw [h2]
  have h3 : decide ((numR s).2 = 9) = !(rnumL (rns s)).2.2 := by
    rw [Bool.eq_iff_iff, decide_eq_true_iff, h1]
    simp
  rw [h3]
  cases s.toList == [33] with
  | true => simp
  | false =>
    by_cases h34 : (rns s).head? = some 34
    · simp [h34]
    · simp only [Bool.false_eq_true, if_false, decide_eq_false h34, Bool.not_false, Bool.true_and]
      by_cases hl : (rns s).length ≤ 32
      · rw [nmL_all _ 0 (by omega), decide_eq_true hl, Nat.zero_add, Bool.and_true, Bool.and_comm]
      · rw [nmL_long _ 0 (by omega) (by omega), decide_eq_false hl]
        simp
theorem all_drop {l : List Nat} {k : Nat} (h : k < l.length) (P : Nat → Bool) : (l.drop k).all P = (P (l[k]'h) && (l.drop (k + 1)).all P) := by
  rw [List.drop_eq_getElem_cons h, List.all_cons]
end Go.Proofs.YtmpfbjmaiddigaaGreatDoor
