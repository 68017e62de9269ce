/- Measure of the document, of any tree whose names are small. -/
import Derived.Test.YtodbkihobgdpdaaGreatDoorGaq
import Derived.Test.YtodbkihobgdpdaaGreatDoorGai
import Derived.BigQuiet
import Derived.Deep.QuietTactic
namespace Go.Proofs.YtodbkihobgdpdaaGreatDoor
open Go.RowKit Go.Lib
set_option linter.unusedSimpArgs false
set_option linter.unusedVariables false
set_option maxRecDepth 100000 in
set_option maxHeartbeats 4000000 in
theorem drsv_any (s : ByteArray) (w : World) : Calls Tryz.prog 38 #[.string s] w fun x w' => x = .returned (.bool (resB s)) ∧ w' = w := by
  go_enter Tryz.func38, Tryz.ntmps38
  go_wp2
  all_goals
    go_ret
    refine ⟨?_, rfl⟩
    first
      | (exfalso; simp_all; done)
      | (unfold resB; simp only [*, Bool.or_true, Bool.or_false, Bool.true_or, Bool.false_or]; done)
      | (unfold resB; simp_all; done)
      | (simp only [Ending.returned.injEq, Value.bool.injEq]; unfold resB; ac_rfl)
      | (unfold resB; simp [Bool.or_comm, Bool.or_left_comm, Bool.or_assoc]; done)
set_option maxRecDepth 100000 in
theorem din_any (n : Int) (w : World) : Calls Tryz.prog 26 #[.int .i64 n] w fun x w' => x = .returned (.bool (decide (-1152921504606846976 ≤ n) && decide (n ≤ 1152921504606846975))) ∧ w' = w := by
  by_cases h1 : -1152921504606846976 ≤ n
  · by_cases h2 : n ≤ 1152921504606846975
    · rw [decide_eq_true h1, decide_eq_true h2]
      go_enter Tryz.func26, Tryz.ntmps26
      go_wp2
      all_goals
        go_ret
        exact ⟨by simp [*], rfl⟩
    · rw [decide_eq_true h1, decide_eq_false h2]
      go_enter Tryz.func26, Tryz.ntmps26
      go_wp2
      all_goals
        go_ret
        exact ⟨by simp [*], rfl⟩
  · rw [decide_eq_false h1, Bool.false_and]
    go_enter Tryz.func26, Tryz.ntmps26
    go_wp2
    all_goals
      go_ret
      exact ⟨by simp [*], rfl⟩
set_option maxRecDepth 100000 in
theorem dname_any (s : ByteArray) (hs : s.size ≤ 268435456) (w : World) : Calls Tryz.prog 28 #[.string s] w fun x w' => x = .returned (.bool (clB s)) ∧ Only (fun _ => False) w w' := by
  have HC : Hid (Calls Tryz.prog 37 #[.string s] w fun e w' => e = .returned (.bool (nameB s)) ∧ Only (fun _ => False) w w') := rName_any s hs w
  have HR : Hid (∀ w1, Calls Tryz.prog 38 #[.string s] w1 fun e w' => e = .returned (.bool (resB s)) ∧ w' = w1) := fun w1 => drsv_any s w1
  unfold clB
  obtain ⟨b1, hb1⟩ : ∃ b, b = nameB s := ⟨_, rfl⟩
  obtain ⟨b2, hb2⟩ : ∃ b, b = resB s := ⟨_, rfl⟩
  rw [← hb1] at HC ⊢
  rw [← hb2] at HR ⊢
  clear hb1 hb2 hs
  go_enter Tryz.func28, Tryz.ntmps28
  go_wp2_with fail
  refine (show Calls Tryz.prog 37 _ _ _ from HC.out).mono ?_
  rintro e w1 ⟨rfl, o1⟩
  have O1 : Hid (Only (fun _ => False) w w1) := o1
  clear HC o1
  cases b1 with
  | false =>
    go_wp2
    go_ret
    exact ⟨rfl, O1.out⟩
  | true =>
    go_wp2_with fail
    refine (show Calls Tryz.prog 38 _ _ _ from HR.out _).mono ?_
    rintro e w2 ⟨rfl, rfl⟩
    clear HR
    go_wp2
    go_ret
    exact ⟨rfl, O1.out⟩
/-- what Measure answers, as values -/
def mP (r : Int × Int × Bool) (w : World) (e : Ending) (w' : World) : Prop := e = .returned (.tuple #[.int .i64 r.1, .int .i64 r.2.1, .bool r.2.2]) ∧ Only (fun _ => False) w w'
set_option maxRecDepth 100000 in
set_option maxHeartbeats 2000000 in
theorem dz_left (k n : Int) (s : ByteArray) (ao : Option Addr) (L c : Nat) (left nest : Int) (h : left < 1) (w : World) : Calls Tryz.prog 12 #[vV k n s (.slice ao L c), .int .i64 left, .int .i64 nest] w (mP (0, 0, false) w) := by
  unfold vV mP
  have O0 : Hid (Only (fun _ => False) w w) := Only.refl _ _
  go_enter Tryz.func12, Tryz.ntmps12
  go_wp2
  go_ret3
  exact ⟨rfl, O0.out.alloc _⟩
set_option maxRecDepth 100000 in
set_option maxHeartbeats 2000000 in
theorem dz_nest (k n : Int) (s : ByteArray) (ao : Option Addr) (L c : Nat) (left nest : Int) (h1 : 1 ≤ left) (h : 32 < nest) (w : World) : Calls Tryz.prog 12 #[vV k n s (.slice ao L c), .int .i64 left, .int .i64 nest] w (mP (0, 0, false) w) := by
  unfold vV mP
  have O0 : Hid (Only (fun _ => False) w w) := Only.refl _ _
  go_enter Tryz.func12, Tryz.ntmps12
  go_wp2
  go_ret3
  exact ⟨rfl, O0.out.alloc _⟩
set_option maxRecDepth 100000 in
set_option maxHeartbeats 2000000 in
theorem dz_int (n : Int) (s : ByteArray) (ao : Option Addr) (L c : Nat) (left nest : Int) (h1 : 1 ≤ left) (h4 : nest ≤ 32) (w : World) : Calls Tryz.prog 12 #[vV 1 n s (.slice ao L c), .int .i64 left, .int .i64 nest] w (mP (1, 0, decide (-1152921504606846976 ≤ n) && decide (n ≤ 1152921504606846975)) w) := by
  unfold vV mP
  have O0 : Hid (Only (fun _ => False) w w) := Only.refl _ _
  have HI : Hid (∀ w1, Calls Tryz.prog 26 #[.int .i64 n] w1 fun x w' => x = .returned (.bool (decide (-1152921504606846976 ≤ n) && decide (n ≤ 1152921504606846975))) ∧ w' = w1) := din_any n
  obtain ⟨b, hb⟩ : ∃ b, b = (decide (-1152921504606846976 ≤ n) && decide (n ≤ 1152921504606846975)) := ⟨_, rfl⟩
  rw [← hb] at HI ⊢
  clear hb
  go_enter Tryz.func12, Tryz.ntmps12
  go_wp2_with fail
  refine (show Calls Tryz.prog 26 _ _ _ from HI.out _).mono ?_
  rintro e w1 ⟨rfl, rfl⟩
  clear HI
  go_wp2
  go_ret3
  exact ⟨rfl, O0.out.alloc _⟩
set_option maxRecDepth 100000 in
set_option maxHeartbeats 2000000 in
theorem dz_long (n : Int) (s : ByteArray) (ao : Option Addr) (L c : Nat) (left nest : Int) (h1 : 1 ≤ left) (h4 : nest ≤ 32) (g1 : 4096 < s.size) (w : World) : Calls Tryz.prog 12 #[vV 2 n s (.slice ao L c), .int .i64 left, .int .i64 nest] w (mP (1, 0, false) w) := by
  unfold vV mP
  have O0 : Hid (Only (fun _ => False) w w) := Only.refl _ _
  have g3 : ¬ (s.size : Int) ≤ 4096 := by omega
  clear g1
  go_enter Tryz.func12, Tryz.ntmps12
  go_wp2
  go_ret3
  exact ⟨rfl, O0.out.alloc _⟩
set_option maxRecDepth 100000 in
set_option maxHeartbeats 2000000 in
theorem dz_str (n : Int) (s : ByteArray) (ao : Option Addr) (L c : Nat) (left nest : Int) (h1 : 1 ≤ left) (h4 : nest ≤ 32) (g1 : s.size ≤ 4096) (g2 : ¬ stR s < s.size) (w : World) : Calls Tryz.prog 12 #[vV 2 n s (.slice ao L c), .int .i64 left, .int .i64 nest] w (mP (1, 0, true) w) := by
  unfold vV mP
  have O0 : Hid (Only (fun _ => False) w w) := Only.refl _ _
  obtain ⟨z, hz⟩ : ∃ z : Int, z = badR s := ⟨_, rfl⟩
  have HI : Hid (∀ w1, Calls Tryz.prog 27 #[.string s] w1 fun x w' => x = .returned (.int .i64 z) ∧ Only (fun _ => False) w1 w') := fun w1 => by
    have := bad_any s (by omega) w1
    rwa [← hz] at this
  have g3 : (s.size : Int) ≤ 4096 := by omega
  have g4 : z < 0 := by
    rw [hz]
    unfold badR
    rw [if_neg g2]
    omega
  clear g1 g2 hz
  go_enter Tryz.func12, Tryz.ntmps12
  go_wp2_with fail
  refine (show Calls Tryz.prog 27 _ _ _ from HI.out _).mono ?_
  rintro e w1 ⟨rfl, o1⟩
  have O1 : Hid (Only (fun _ => False) w w1) := (O0.out.alloc _).trans o1 (fun _ _ g => g)
  clear HI o1
  go_wp2
  go_ret3
  refine ⟨?_, O1.out⟩
  rfl
set_option maxRecDepth 100000 in
set_option maxHeartbeats 2000000 in
theorem dz_bad (n : Int) (s : ByteArray) (ao : Option Addr) (L c : Nat) (left nest : Int) (h1 : 1 ≤ left) (h4 : nest ≤ 32) (g1 : s.size ≤ 4096) (g2 : stR s < s.size) (w : World) : Calls Tryz.prog 12 #[vV 2 n s (.slice ao L c), .int .i64 left, .int .i64 nest] w (mP (1, 0, false) w) := by
  unfold vV mP
  have O0 : Hid (Only (fun _ => False) w w) := Only.refl _ _
  obtain ⟨z, hz⟩ : ∃ z : Int, z = badR s := ⟨_, rfl⟩
  have HI : Hid (∀ w1, Calls Tryz.prog 27 #[.string s] w1 fun x w' => x = .returned (.int .i64 z) ∧ Only (fun _ => False) w1 w') := fun w1 => by
    have := bad_any s (by omega) w1
    rwa [← hz] at this
  have g3 : (s.size : Int) ≤ 4096 := by omega
  have g4 : ¬ z < 0 := by
    rw [hz]
    unfold badR
    rw [if_pos g2]
    omega
  clear g1 g2 hz
  go_enter Tryz.func12, Tryz.ntmps12
  go_wp2_with fail
  refine (show Calls Tryz.prog 27 _ _ _ from HI.out _).mono ?_
  rintro e w1 ⟨rfl, o1⟩
  have O1 : Hid (Only (fun _ => False) w w1) := (O0.out.alloc _).trans o1 (fun _ _ g => g)
  clear HI o1
  go_wp2
  go_ret3
  refine ⟨?_, O1.out⟩
  show Ending.returned (.tuple #[.int .i64 1, .int .i64 0, .bool (decide (z < 0))]) = _
  rw [decide_eq_false (p := z < 0) (by omega)]
set_option maxRecDepth 100000 in
set_option maxHeartbeats 2000000 in
theorem dz_bool (n : Int) (s : ByteArray) (ao : Option Addr) (L c : Nat) (left nest : Int) (h1 : 1 ≤ left) (h4 : nest ≤ 32) (w : World) : Calls Tryz.prog 12 #[vV 3 n s (.slice ao L c), .int .i64 left, .int .i64 nest] w (mP (1, 0, true) w) := by
  unfold vV mP
  have O0 : Hid (Only (fun _ => False) w w) := Only.refl _ _
  go_enter Tryz.func12, Tryz.ntmps12
  go_wp2
  go_ret3
  exact ⟨rfl, O0.out.alloc _⟩
set_option maxRecDepth 100000 in
set_option maxHeartbeats 2000000 in
theorem dz_box_lo (n : Int) (s : ByteArray) (ao : Option Addr) (L c : Nat) (left nest : Int) (h1 : 1 ≤ left) (h4 : nest ≤ 32) (g1 : decide (1 ≤ n) = false) (w : World) : Calls Tryz.prog 12 #[vV 6 n s (.slice ao L c), .int .i64 left, .int .i64 nest] w (mP (1, 0, false) w) := by
  unfold vV mP
  have O0 : Hid (Only (fun _ => False) w w) := Only.refl _ _
  go_enter Tryz.func12, Tryz.ntmps12
  go_wp2_with fail
  go_quiet (fail)
  go_wp2
  go_ret3
  exact ⟨rfl, (O0.out.alloc _).drewN _⟩
set_option maxRecDepth 100000 in
set_option maxHeartbeats 2000000 in
theorem dz_box_hi (n : Int) (s : ByteArray) (ao : Option Addr) (L c : Nat) (left nest : Int) (h1 : 1 ≤ left) (h4 : nest ≤ 32) (g1 : decide (1 ≤ n) = true) (g2 : decide (n ≤ 1048576) = false) (w : World) : Calls Tryz.prog 12 #[vV 6 n s (.slice ao L c), .int .i64 left, .int .i64 nest] w (mP (1, 0, false) w) := by
  unfold vV mP
  have O0 : Hid (Only (fun _ => False) w w) := Only.refl _ _
  go_enter Tryz.func12, Tryz.ntmps12
  go_wp2_with fail
  go_quiet (fail)
  go_wp2
  go_ret3
  exact ⟨rfl, (O0.out.alloc _).drewN _⟩
set_option maxRecDepth 100000 in
set_option maxHeartbeats 2000000 in
theorem dz_box (n : Int) (s : ByteArray) (ao : Option Addr) (L c : Nat) (left nest : Int) (h1 : 1 ≤ left) (h4 : nest ≤ 32) (g1 : decide (1 ≤ n) = true) (g2 : decide (n ≤ 1048576) = true) (w : World) : Calls Tryz.prog 12 #[vV 6 n s (.slice ao L c), .int .i64 left, .int .i64 nest] w (mP (1, 0, true) w) := by
  unfold vV mP
  have O0 : Hid (Only (fun _ => False) w w) := Only.refl _ _
  go_enter Tryz.func12, Tryz.ntmps12
  go_wp2_with fail
  go_quiet (fail)
  go_wp2
  go_ret3
  exact ⟨rfl, (O0.out.alloc _).drewN _⟩
set_option maxRecDepth 100000 in
set_option maxHeartbeats 2000000 in
theorem dz_call (n : Int) (s : ByteArray) (ao : Option Addr) (L c : Nat) (left nest : Int) (h1 : 1 ≤ left) (h4 : nest ≤ 32) (g1 : s.size ≤ 268435456) (w : World) : Calls Tryz.prog 12 #[vV 7 n s (.slice ao L c), .int .i64 left, .int .i64 nest] w (mP (1, 0, clB s) w) := by
  unfold vV mP
  have O0 : Hid (Only (fun _ => False) w w) := Only.refl _ _
  have HI : Hid (∀ w1, Calls Tryz.prog 28 #[.string s] w1 fun x w' => x = .returned (.bool (clB s)) ∧ Only (fun _ => False) w1 w') := dname_any s g1
  obtain ⟨b, hb⟩ : ∃ b, b = clB s := ⟨_, rfl⟩
  rw [← hb] at HI ⊢
  clear hb g1
  go_enter Tryz.func12, Tryz.ntmps12
  go_wp2_with fail
  refine (show Calls Tryz.prog 28 _ _ _ from HI.out _).mono ?_
  rintro e w1 ⟨rfl, o1⟩
  have O1 : Hid (Only (fun _ => False) w w1) := (O0.out.alloc _).trans o1 (fun _ _ g => g)
  clear HI o1
  go_wp2
  go_ret3
  exact ⟨rfl, O1.out⟩
set_option maxRecDepth 100000 in
set_option maxHeartbeats 2000000 in
theorem dz_none (k n : Int) (s : ByteArray) (ao : Option Addr) (L c : Nat) (left nest : Int) (h1 : 1 ≤ left) (h4 : nest ≤ 32) (e1 : (k == 1) = false) (e2 : (k == 2) = false) (e3 : (k == 3) = false) (e4 : (k == 4) = false) (e5 : (k == 5) = false) (e6 : (k == 6) = false) (e7 : (k == 7) = false) (w : World) : Calls Tryz.prog 12 #[vV k n s (.slice ao L c), .int .i64 left, .int .i64 nest] w (mP (0, 0, false) w) := by
  unfold vV mP
  have O0 : Hid (Only (fun _ => False) w w) := Only.refl _ _
  go_enter Tryz.func12, Tryz.ntmps12
  go_wp2
  go_ret3
  exact ⟨rfl, O0.out.alloc _⟩
/-- a tree whose names are small -/
def SmN : Nat → Vt → Prop
  | 0, _ => False
  | d + 1, t => t.l.length ≤ 2513169434900 ∧ (t.k = 7 → t.s.size ≤ 268435456) ∧ (t.k = 4 ∨ t.k = 5 → ∀ x ∈ t.l, SmN d x)
/-- Measure, of trees of depth d -/
def MzC (d : Nat) : Prop := ∀ (t : Vt) (lv : Value) (w : World) (S : Nat → Prop) (left nest : Int), VsAt w S d t.l lv → (∃ e, SmN e t) → 0 ≤ left → left ≤ 1024 → 0 ≤ nest → nest ≤ 1000 → Calls Tryz.prog 12 #[vV t.k t.n t.s lv, .int .i64 left, .int .i64 nest] w (mP (mz d t left nest) w)
set_option maxRecDepth 100000 in
set_option maxHeartbeats 8000000 in
theorem dz_list4 (d : Nat) (l : List Vt) (n : Int) (s : ByteArray) (ao : Option Addr) (c : Nat) (left nest : Int) (h1 : 1 ≤ left) (h2 : left ≤ 1024) (h3 : 0 ≤ nest) (h4 : nest ≤ 32) (hL : l.length ≤ 2513169434900) (hsm : ∀ x ∈ l, ∃ e, SmN e x) (w : World) (S : Nat → Prop) (hv : VsAt w S (d + 1) l (.slice ao l.length c)) (H : MzC d) : Calls Tryz.prog 12 #[vV 4 n s (.slice ao l.length c), .int .i64 left, .int .i64 nest] w (mP (mzL (fun x lf => mz d x lf (nest + 1)) true left l 1 0) w) := by
  obtain ⟨ao', cap', hva, hcap, hl⟩ := hv
  obtain ⟨rfl, rfl⟩ : ao = ao' ∧ c = cap' := by
    injection hva with q1 q2 q3
    exact ⟨q1, q3⟩
  obtain ⟨f, hf⟩ : ∃ f : Vt → Int → Int × Int × Bool, f = fun x lf => mz d x lf (nest + 1) := ⟨_, rfl⟩
  have HP : Hid (∀ (i : Nat) (x : Vt), l[i]? = some x → ∃ g k lx, ao = some ⟨g, k, none⟩ ∧ (w.cell? ⟨g, k + i * 4, none⟩ = some (.int .i64 x.k) ∧ w.cell? ⟨g, k + i * 4 + 1, none⟩ = some (.int .i64 x.n) ∧ w.cell? ⟨g, k + i * 4 + 2, none⟩ = some (.string x.s) ∧ w.cell? ⟨g, k + i * 4 + 3, none⟩ = some lx) ∧ ∀ w1 lf, Only (fun _ => False) w w1 → 0 ≤ lf → lf ≤ 1024 → Calls Tryz.prog 12 #[.agg #[.int .i64 x.k, .int .i64 x.n, .string x.s, lx], .int .i64 lf, .int .i64 (nest + 1)] w1 fun e w' => e = .returned (.tuple #[.int .i64 (f x lf).1, .int .i64 (f x lf).2.1, .bool (f x lf).2.2]) ∧ Only (fun _ => False) w1 w') := by
    intro i x hx
    obtain ⟨g, k, lx, p1, p2, p3, p4⟩ := hl i x hx
    refine ⟨g, k, lx, p1, p3, fun w1 lf o1 q1 q2 => ?_⟩
    rw [hf]
    exact H x lx w1 S lf (nest + 1) (p4.only o1) (hsm x (List.mem_of_getElem? hx)) q1 q2 (by omega) (by omega)
  have HF : Hid (∀ x lf, (f x lf).2.2 = true → 1 ≤ (f x lf).1 ∧ (f x lf).1 ≤ lf ∧ 0 ≤ (f x lf).2.1 ∧ (f x lf).2.1 ≤ 32) := by
    intro x lf
    rw [hf]
    exact mz_bd d x lf (nest + 1)
  rw [← hf]
  obtain ⟨R, hR⟩ : ∃ R, R = mzL f true left l 1 0 := ⟨_, rfl⟩
  have HR : Hid (R = mzL f true left l 1 0) := hR
  obtain ⟨N, hN⟩ : ∃ N, N = l.length := ⟨_, rfl⟩
  have HNN : Hid (N = l.length ∧ N ≤ 2513169434900) := ⟨hN, by omega⟩
  rw [← hN, ← hR]
  clear hN hR hL hsm H hl hcap hva hf
  unfold mP vV
  obtain ⟨B, hB⟩ : ∃ B, B = w.heap.size := ⟨_, rfl⟩
  obtain ⟨w0, hw0⟩ : ∃ w0, w0 = w.alloc (.cells #[.int .i64 4, .int .i64 n, .string s, .slice ao N c] 26) := ⟨_, rfl⟩
  have HO : Hid (Only (fun _ => False) w w0) := by rw [hw0]; exact (Only.refl _ w).alloc _
  have HX : Hid (w0.heap[B]? = some (.cells #[.int .i64 4, .int .i64 n, .string s, .slice ao N c] 26)) := by rw [hw0]; exact valloc_at _ _ _ hB
  go_enter Tryz.func12, Tryz.ntmps12
  go_wp2
  rw [← hB, ← hw0]
  clear hB hw0
  go_loopw [6, 7, 9] (fun r6 r7 r9 wr => ∃ (i : Nat) (z p : Int), r6 = .int .i64 z ∧ r7 = .int .i64 p ∧ r9 = .int .i64 (i : Int) ∧ i ≤ N ∧ Hid (R = mzL f true left (l.drop i) z p ∧ (1 ≤ z ∧ z ≤ left ∧ 0 ≤ p ∧ p ≤ 32) ∧ Only (fun _ => False) w0 wr)) (fun _ _ r9 _ => N - vuOf r9)
  case atStart => exact ⟨0, 1, 0, rfl, rfl, rfl, Nat.zero_le _, HR.out, ⟨by decide, h1, by decide, by decide⟩, Only.refl _ _⟩
  case round =>
    obtain ⟨i, z, p, rfl, rfl, rfl, hi, HI⟩ := hrel
    obtain ⟨w1, hw1⟩ : ∃ w1, w1 = wr := ⟨_, rfl⟩
    rw [← hw1] at HI ⊢
    clear hw1
    obtain ⟨hRz, ⟨b1, b2, b3, b4⟩, oI⟩ := HI.out
    have hX := (oI.block B (Array.getElem?_eq_some_iff.1 HX.out).1 (fun g => g)).trans HX.out
    have b0 := vblk_cells hX 0
    have b5 := vblk_cells hX 3
    simp only [List.getElem?_toArray, List.getElem?_cons_zero, List.getElem?_cons_succ] at b0 b5
    clear hX
    have hNl := HNN.out.1
    have hN4 := HNN.out.2
    have OI : Hid (Only (fun _ => False) w0 w1) := oI
    by_cases hiN : i < N
    · obtain ⟨x, hx⟩ : ∃ x, l[i]? = some x := ⟨l[i]'(by omega), List.getElem?_eq_getElem (by omega)⟩
      obtain ⟨g, k, lx, rfl, ⟨c0, c1, c2, c3⟩, hcall⟩ := HP.out i x hx
      have oo := HO.out.trans oI (fun _ _ g => g)
      have c0 := oo.cell c0 (fun g => g)
      have c1 := oo.cell c1 (fun g => g)
      have c2 := oo.cell c2 (fun g => g)
      have c3 := oo.cell c3 (fun g => g)
      have hdr : l.drop i = x :: l.drop (i + 1) := by
        have hlt : i < l.length := by omega
        rw [List.drop_eq_getElem_cons hlt]
        have := List.getElem?_eq_getElem hlt
        rw [hx] at this
        injection this with this
        rw [← this]
      rw [hdr] at hRz
      unfold mzL at hRz
      have HFx := HF.out x (left - z)
      have HC0 := hcall w1 (left - z) oo (by omega) (by omega)
      obtain ⟨q, hq⟩ : ∃ q, q = f x (left - z) := ⟨_, rfl⟩
      rw [← hq] at hRz HFx HC0
      obtain ⟨n1, d1, ok⟩ := q
      dsimp only at hRz HFx HC0
      have HC : Hid _ := HC0
      have i1 : (i : Int) < (N : Int) := by omega
      have i0 : (0 : Int) ≤ (i : Int) := by omega
      have hi4 : i ≤ 2513169434900 := by omega
      have HBd : Hid (i < N) := hiN
      obtain ⟨x0, hx0⟩ : ∃ x0, x0 = x.k := ⟨_, rfl⟩
      obtain ⟨x1, hx1⟩ : ∃ x1, x1 = x.n := ⟨_, rfl⟩
      obtain ⟨x2, hx2⟩ : ∃ x2, x2 = x.s := ⟨_, rfl⟩
      rw [← hx0, ← hx1, ← hx2] at HC
      rw [← hx0] at c0 hRz
      rw [← hx1] at c1
      rw [← hx2] at c2
      clear hx0 hx1 hx2 hcall oo hx hdr hq HC0 HI oI hNl hN4 hiN hi HP
      by_cases h7 : x0 = 7
      · rw [if_pos ⟨rfl, h7⟩] at hRz
        have HE : Hid (R = (0, 0, false)) := hRz
        subst h7
        clear hRz HFx HC b1 b2 b3 b4
        go_wp2
        go_ret3
        refine ⟨by rw [HE.out]; rfl, HO.out.trans OI.out (fun _ _ g => g)⟩
      rw [if_neg (fun g => h7 g.2)] at hRz
      have f1 : left - z ≤ 1024 := by omega
      have f2 : 0 ≤ left - z := by omega
      go_wp2_with fail
      refine (show Calls Tryz.prog 12 _ _ _ from HC.out).mono ?_
      rintro e w2 ⟨rfl, o2⟩
      have HK : Hid (Only (fun _ => False) w0 w2) := OI.out.trans o2 (fun _ _ g => g)
      clear HC OI o2 c0 c1 c2 c3 b0 b5
      cases ok with
      | false =>
        rw [if_neg (by decide)] at hRz
        have HE : Hid (R = (0, 0, false)) := hRz
        clear hRz HFx b1 b2 b3 b4 f1 f2
        go_wp2
        go_ret3
        refine ⟨by rw [HE.out]; rfl, HO.out.trans HK.out (fun _ _ g => g)⟩
      | true =>
        rw [if_pos rfl] at hRz
        obtain ⟨a1, a2, a3, a4⟩ := HFx rfl
        have HE : Hid (R = mzL f true left (l.drop (i + 1)) (z + n1) (max p d1) ∧ (1 ≤ z + n1 ∧ z + n1 ≤ left ∧ 0 ≤ max p d1 ∧ max p d1 ≤ 32)) := ⟨hRz, by omega, by omega, by omega, by omega⟩
        have f3 : z + n1 ≤ 1024 := by omega
        clear hRz HFx
        go_wp2
        all_goals
          go_roundw
          case rel => exact ⟨i + 1, z + n1, max p d1, rfl, rfl, by go_num, by have := HBd.out; omega, HE.out.1, HE.out.2, HK.out⟩
          case measure => simp only [vuOf]; have := HBd.out; omega
    · obtain rfl : i = N := by omega
      have i1 : ¬ (i : Int) < (i : Int) := by omega
      rw [List.drop_eq_nil_of_le (show l.length ≤ i by omega)] at hRz
      have HE : Hid (R = (z, p + 1, decide (p < 32))) := hRz
      clear hRz HI oI hNl hN4 hiN hi
      go_wp2
      go_ret3
      exact ⟨by rw [HE.out]; rfl, HO.out.trans OI.out (fun _ _ g => g)⟩
set_option maxRecDepth 100000 in
set_option maxHeartbeats 8000000 in
theorem dz_list5 (d : Nat) (l : List Vt) (n : Int) (s : ByteArray) (ao : Option Addr) (c : Nat) (left nest : Int) (h1 : 1 ≤ left) (h2 : left ≤ 1024) (h3 : 0 ≤ nest) (h4 : nest ≤ 32) (hL : l.length ≤ 2513169434900) (hsm : ∀ x ∈ l, ∃ e, SmN e x) (w : World) (S : Nat → Prop) (hv : VsAt w S (d + 1) l (.slice ao l.length c)) (H : MzC d) : Calls Tryz.prog 12 #[vV 5 n s (.slice ao l.length c), .int .i64 left, .int .i64 nest] w (mP (mzL (fun x lf => mz d x lf (nest + 1)) false left l 1 0) w) := by
  obtain ⟨ao', cap', hva, hcap, hl⟩ := hv
  obtain ⟨rfl, rfl⟩ : ao = ao' ∧ c = cap' := by
    injection hva with q1 q2 q3
    exact ⟨q1, q3⟩
  obtain ⟨f, hf⟩ : ∃ f : Vt → Int → Int × Int × Bool, f = fun x lf => mz d x lf (nest + 1) := ⟨_, rfl⟩
  have HP : Hid (∀ (i : Nat) (x : Vt), l[i]? = some x → ∃ g k lx, ao = some ⟨g, k, none⟩ ∧ (w.cell? ⟨g, k + i * 4, none⟩ = some (.int .i64 x.k) ∧ w.cell? ⟨g, k + i * 4 + 1, none⟩ = some (.int .i64 x.n) ∧ w.cell? ⟨g, k + i * 4 + 2, none⟩ = some (.string x.s) ∧ w.cell? ⟨g, k + i * 4 + 3, none⟩ = some lx) ∧ ∀ w1 lf, Only (fun _ => False) w w1 → 0 ≤ lf → lf ≤ 1024 → Calls Tryz.prog 12 #[.agg #[.int .i64 x.k, .int .i64 x.n, .string x.s, lx], .int .i64 lf, .int .i64 (nest + 1)] w1 fun e w' => e = .returned (.tuple #[.int .i64 (f x lf).1, .int .i64 (f x lf).2.1, .bool (f x lf).2.2]) ∧ Only (fun _ => False) w1 w') := by
    intro i x hx
    obtain ⟨g, k, lx, p1, p2, p3, p4⟩ := hl i x hx
    refine ⟨g, k, lx, p1, p3, fun w1 lf o1 q1 q2 => ?_⟩
    rw [hf]
    exact H x lx w1 S lf (nest + 1) (p4.only o1) (hsm x (List.mem_of_getElem? hx)) q1 q2 (by omega) (by omega)
  have HF : Hid (∀ x lf, (f x lf).2.2 = true → 1 ≤ (f x lf).1 ∧ (f x lf).1 ≤ lf ∧ 0 ≤ (f x lf).2.1 ∧ (f x lf).2.1 ≤ 32) := by
    intro x lf
    rw [hf]
    exact mz_bd d x lf (nest + 1)
  rw [← hf]
  obtain ⟨R, hR⟩ : ∃ R, R = mzL f false left l 1 0 := ⟨_, rfl⟩
  have HR : Hid (R = mzL f false left l 1 0) := hR
  obtain ⟨N, hN⟩ : ∃ N, N = l.length := ⟨_, rfl⟩
  have HNN : Hid (N = l.length ∧ N ≤ 2513169434900) := ⟨hN, by omega⟩
  rw [← hN, ← hR]
  clear hN hR hL hsm H hl hcap hva hf
  unfold mP vV
  obtain ⟨B, hB⟩ : ∃ B, B = w.heap.size := ⟨_, rfl⟩
  obtain ⟨w0, hw0⟩ : ∃ w0, w0 = w.alloc (.cells #[.int .i64 5, .int .i64 n, .string s, .slice ao N c] 26) := ⟨_, rfl⟩
  have HO : Hid (Only (fun _ => False) w w0) := by rw [hw0]; exact (Only.refl _ w).alloc _
  have HX : Hid (w0.heap[B]? = some (.cells #[.int .i64 5, .int .i64 n, .string s, .slice ao N c] 26)) := by rw [hw0]; exact valloc_at _ _ _ hB
  go_enter Tryz.func12, Tryz.ntmps12
  go_wp2
  rw [← hB, ← hw0]
  clear hB hw0
  go_loopw [6, 7, 9] (fun r6 r7 r9 wr => ∃ (i : Nat) (z p : Int), r6 = .int .i64 z ∧ r7 = .int .i64 p ∧ r9 = .int .i64 (i : Int) ∧ i ≤ N ∧ Hid (R = mzL f false left (l.drop i) z p ∧ (1 ≤ z ∧ z ≤ left ∧ 0 ≤ p ∧ p ≤ 32) ∧ Only (fun _ => False) w0 wr)) (fun _ _ r9 _ => N - vuOf r9)
  case atStart => exact ⟨0, 1, 0, rfl, rfl, rfl, Nat.zero_le _, HR.out, ⟨by decide, h1, by decide, by decide⟩, Only.refl _ _⟩
  case round =>
    obtain ⟨i, z, p, rfl, rfl, rfl, hi, HI⟩ := hrel
    obtain ⟨w1, hw1⟩ : ∃ w1, w1 = wr := ⟨_, rfl⟩
    rw [← hw1] at HI ⊢
    clear hw1
    obtain ⟨hRz, ⟨b1, b2, b3, b4⟩, oI⟩ := HI.out
    have hX := (oI.block B (Array.getElem?_eq_some_iff.1 HX.out).1 (fun g => g)).trans HX.out
    have b0 := vblk_cells hX 0
    have b5 := vblk_cells hX 3
    simp only [List.getElem?_toArray, List.getElem?_cons_zero, List.getElem?_cons_succ] at b0 b5
    clear hX
    have hNl := HNN.out.1
    have hN4 := HNN.out.2
    have OI : Hid (Only (fun _ => False) w0 w1) := oI
    by_cases hiN : i < N
    · obtain ⟨x, hx⟩ : ∃ x, l[i]? = some x := ⟨l[i]'(by omega), List.getElem?_eq_getElem (by omega)⟩
      obtain ⟨g, k, lx, rfl, ⟨c0, c1, c2, c3⟩, hcall⟩ := HP.out i x hx
      have oo := HO.out.trans oI (fun _ _ g => g)
      have c0 := oo.cell c0 (fun g => g)
      have c1 := oo.cell c1 (fun g => g)
      have c2 := oo.cell c2 (fun g => g)
      have c3 := oo.cell c3 (fun g => g)
      have hdr : l.drop i = x :: l.drop (i + 1) := by
        have hlt : i < l.length := by omega
        rw [List.drop_eq_getElem_cons hlt]
        have := List.getElem?_eq_getElem hlt
        rw [hx] at this
        injection this with this
        rw [← this]
      rw [hdr] at hRz
      unfold mzL at hRz
      have HFx := HF.out x (left - z)
      have HC0 := hcall w1 (left - z) oo (by omega) (by omega)
      obtain ⟨q, hq⟩ : ∃ q, q = f x (left - z) := ⟨_, rfl⟩
      rw [← hq] at hRz HFx HC0
      obtain ⟨n1, d1, ok⟩ := q
      dsimp only at hRz HFx HC0
      have HC : Hid _ := HC0
      have i1 : (i : Int) < (N : Int) := by omega
      have i0 : (0 : Int) ≤ (i : Int) := by omega
      have hi4 : i ≤ 2513169434900 := by omega
      have HBd : Hid (i < N) := hiN
      obtain ⟨x0, hx0⟩ : ∃ x0, x0 = x.k := ⟨_, rfl⟩
      obtain ⟨x1, hx1⟩ : ∃ x1, x1 = x.n := ⟨_, rfl⟩
      obtain ⟨x2, hx2⟩ : ∃ x2, x2 = x.s := ⟨_, rfl⟩
      rw [← hx0, ← hx1, ← hx2] at HC
      rw [← hx0] at c0 hRz
      rw [← hx1] at c1
      rw [← hx2] at c2
      clear hx0 hx1 hx2 hcall oo hx hdr hq HC0 HI oI hNl hN4 hiN hi HP
      rw [if_neg (fun g => by cases g.1)] at hRz
      have f1 : left - z ≤ 1024 := by omega
      have f2 : 0 ≤ left - z := by omega
      go_wp2_with fail
      refine (show Calls Tryz.prog 12 _ _ _ from HC.out).mono ?_
      rintro e w2 ⟨rfl, o2⟩
      have HK : Hid (Only (fun _ => False) w0 w2) := OI.out.trans o2 (fun _ _ g => g)
      clear HC OI o2 c0 c1 c2 c3 b0 b5
      cases ok with
      | false =>
        rw [if_neg (by decide)] at hRz
        have HE : Hid (R = (0, 0, false)) := hRz
        clear hRz HFx b1 b2 b3 b4 f1 f2
        go_wp2
        go_ret3
        refine ⟨by rw [HE.out]; rfl, HO.out.trans HK.out (fun _ _ g => g)⟩
      | true =>
        rw [if_pos rfl] at hRz
        obtain ⟨a1, a2, a3, a4⟩ := HFx rfl
        have HE : Hid (R = mzL f false left (l.drop (i + 1)) (z + n1) (max p d1) ∧ (1 ≤ z + n1 ∧ z + n1 ≤ left ∧ 0 ≤ max p d1 ∧ max p d1 ≤ 32)) := ⟨hRz, by omega, by omega, by omega, by omega⟩
        have f3 : z + n1 ≤ 1024 := by omega
        clear hRz HFx
        go_wp2
        all_goals
          go_roundw
          case rel => exact ⟨i + 1, z + n1, max p d1, rfl, rfl, by go_num, by have := HBd.out; omega, HE.out.1, HE.out.2, HK.out⟩
          case measure => simp only [vuOf]; have := HBd.out; omega
    · obtain rfl : i = N := by omega
      have i1 : ¬ (i : Int) < (i : Int) := by omega
      rw [List.drop_eq_nil_of_le (show l.length ≤ i by omega)] at hRz
      have HE : Hid (R = (z, p + 1, decide (p < 32))) := hRz
      clear hRz HI oI hNl hN4 hiN hi
      go_wp2
      go_ret3
      exact ⟨by rw [HE.out]; rfl, HO.out.trans OI.out (fun _ _ g => g)⟩
theorem dz_any : ∀ d : Nat, MzC d
  | 0 => fun t lv w S left nest h => h.elim
  | d + 1 => by
    intro t lv w S left nest hv hs h1 h2 h3 h4
    have ih := dz_any d
    obtain ⟨e, hs⟩ := hs
    cases e with
    | zero => exact hs.elim
    | succ e =>
    obtain ⟨s2, s7, s5⟩ := hs
    obtain ⟨ao, cap, rfl⟩ := hv.form
    unfold mz
    by_cases c1 : left < 1 ∨ 32 < nest
    · rw [if_pos c1]
      by_cases c : left < 1
      · exact dz_left _ _ _ ao _ cap left nest c w
      · exact dz_nest _ _ _ ao _ cap left nest (by omega) (by omega) w
    rw [if_neg c1]
    have l1 : 1 ≤ left := by omega
    have n1 : nest ≤ 32 := by omega
    by_cases c2 : t.k = 4 ∨ t.k = 5
    · rw [if_pos c2]
      have s6 := s5 c2
      rcases c2 with c | c
      · rw [c]
        exact dz_list4 d t.l _ _ ao cap left nest l1 h2 h3 n1 s2 (fun x hx => ⟨e, s6 x hx⟩) w S hv ih
      · rw [c]
        exact dz_list5 d t.l _ _ ao cap left nest l1 h2 h3 n1 s2 (fun x hx => ⟨e, s6 x hx⟩) w S hv ih
    rw [if_neg c2]
    by_cases k1 : t.k = 1
    · rw [if_pos (by omega), if_neg (by omega), show alB t = (decide (-1152921504606846976 ≤ t.n) && decide (t.n ≤ 1152921504606846975)) from if_pos k1, k1]
      exact dz_int _ _ ao _ cap left nest l1 n1 w
    by_cases k2 : t.k = 2
    · rw [if_pos (by omega), if_neg (by omega), show alB t = (decide (t.s.size ≤ 4096) && vlB t.s) from (if_neg k1).trans (if_pos k2), k2]
      by_cases g : t.s.size ≤ 4096
      · rw [decide_eq_true g, Bool.true_and]
        by_cases b : stR t.s < t.s.size
        · rw [show vlB t.s = false from by cases hb : vlB t.s with | false => rfl | true => exact absurd b ((vl_st _).1 hb)]
          exact dz_bad _ _ ao _ cap left nest l1 n1 g b w
        · rw [(vl_st _).2 b]
          exact dz_str _ _ ao _ cap left nest l1 n1 g b w
      · rw [decide_eq_false g, Bool.false_and]
        exact dz_long _ _ ao _ cap left nest l1 n1 (by omega) w
    by_cases k3 : t.k = 3
    · rw [if_pos (by omega), if_neg (by omega), show alB t = true from (if_neg k1).trans ((if_neg k2).trans ((if_neg (by omega)).trans (decide_eq_true k3))), k3]
      exact dz_bool _ _ ao _ cap left nest l1 n1 w
    by_cases k6 : t.k = 6
    · rw [if_pos (by omega), if_neg (by omega), show alB t = (decide (1 ≤ t.n) && decide (t.n ≤ 1048576)) from (if_neg k1).trans ((if_neg k2).trans (if_pos k6)), k6]
      cases g1 : decide (1 ≤ t.n) with
      | false => rw [Bool.false_and]; exact dz_box_lo _ _ ao _ cap left nest l1 n1 g1 w
      | true =>
        cases g2 : decide (t.n ≤ 1048576) with
        | false => rw [Bool.and_false]; exact dz_box_hi _ _ ao _ cap left nest l1 n1 g1 g2 w
        | true => exact dz_box _ _ ao _ cap left nest l1 n1 g1 g2 w
    by_cases k7 : t.k = 7
    · have s7 := s7
      rw [if_pos (by omega), if_pos k7, k7]
      exact dz_call _ _ ao _ cap left nest l1 n1 (s7 k7) w
    rw [if_neg (by omega)]
    have b : ∀ j : Int, t.k ≠ j → (t.k == j) = false := fun j h => beq_false_of_ne h
    exact dz_none _ _ _ ao _ cap left nest l1 n1 (b 1 k1) (b 2 k2) (b 3 k3) (b 4 (fun g => c2 (.inl g))) (b 5 (fun g => c2 (.inr g))) (b 6 k6) (b 7 k7) w
end Go.Proofs.YtodbkihobgdpdaaGreatDoor
