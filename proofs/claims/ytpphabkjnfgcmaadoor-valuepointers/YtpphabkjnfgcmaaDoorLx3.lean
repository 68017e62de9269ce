/- A sign cut off; the number of a word. -/
import Derived.Test.YtpphabkjnfgcmaaDoorLx2
namespace Go.Proofs.YtpphabkjnfgcmaaDoor
open Go.RowKit
set_option linter.unusedSimpArgs false
set_option linter.unusedVariables false

/-- Does s begin with p? -/
def preB (s p : ByteArray) : Bool := decide (p.size ≤ s.size) && ((s.extract 0 p.size).toList == p.toList)
theorem preB_le {s p : ByteArray} (h : preB s p = true) : p.size ≤ s.size := by
  simp only [preB, Bool.and_eq_true, decide_eq_true_eq] at h
  exact h.1
set_option maxRecDepth 100000 in
set_option maxHeartbeats 1000000 in
theorem hasprefix_lite (s p : ByteArray) (w : World) : Calls Tryd.prog 71 #[.string s, .string p] w fun e w' => e = .returned (.bool (preB s p)) ∧ w' = w := by
  by_cases h : p.size ≤ s.size
  · have h' : (p.size : Int) ≤ (s.size : Int) := by omega
    have hv : preB s p = ((s.extract 0 p.size).toList == p.toList) := by simp [preB, h]
    rw [hv]
    clear hv
    go_enter Tryd.func71, Tryd.ntmps71
    go_wp2
    go_ret
    exact ⟨rfl, rfl⟩
  · have h' : ¬ (p.size : Int) ≤ (s.size : Int) := by omega
    have hv : preB s p = false := by simp [preB, h]
    rw [hv]
    clear hv
    go_enter Tryd.func71, Tryd.ntmps71
    go_wp2
    go_ret
    exact ⟨rfl, rfl⟩
set_option maxRecDepth 100000 in
theorem hasprefix_any (s p : ByteArray) (w : World) : Calls Tryd.prog 61 #[.string s, .string p] w fun e w' => e = .returned (.bool (preB s p)) ∧ w' = w := by
  have H := hasprefix_lite s p w
  go_enter Tryd.func61, Tryd.ntmps61
  go_wp2_with (go_at_call 71; refine H.mono ?_; rintro e wz ⟨rfl, rfl⟩)
  go_ret
  exact ⟨rfl, rfl⟩
def cutV (s p : ByteArray) : Value := if preB s p then .tuple #[.string (s.extract p.size s.size), .bool true] else .tuple #[.string s, .bool false]
set_option maxRecDepth 100000 in
set_option maxHeartbeats 1000000 in
theorem cutprefix_lite (s p : ByteArray) (w : World) : Calls Tryd.prog 79 #[.string s, .string p] w fun e w' => e = .returned (cutV s p) ∧ w' = w := by
  have H : Hid (Calls Tryd.prog 71 #[.string s, .string p] w fun e w' => e = .returned (.bool (preB s p)) ∧ w' = w) := hasprefix_lite s p w
  unfold cutV
  cases hb : preB s p with
  | true =>
    rw [hb] at H
    have hle := preB_le hb
    have h' : (p.size : Int) ≤ (s.size : Int) := by omega
    clear hb
    go_enter Tryd.func79, Tryd.ntmps79
    go_wp2_with (go_at_call 71; refine (show Calls Tryd.prog 71 _ _ _ from H.out).mono ?_; rintro e wz ⟨rfl, rfl⟩)
    go_ret2
    exact ⟨rfl, rfl⟩
  | false =>
    rw [hb] at H
    clear hb
    go_enter Tryd.func79, Tryd.ntmps79
    go_wp2_with (go_at_call 71; refine (show Calls Tryd.prog 71 _ _ _ from H.out).mono ?_; rintro e wz ⟨rfl, rfl⟩)
    go_ret2
    exact ⟨rfl, rfl⟩
set_option maxRecDepth 100000 in
theorem cutprefix_any (s p : ByteArray) (w : World) : Calls Tryd.prog 73 #[.string s, .string p] w fun e w' => e = .returned (cutV s p) ∧ w' = w := by
  have H : Hid (Calls Tryd.prog 79 #[.string s, .string p] w fun e w' => e = .returned (cutV s p) ∧ w' = w) := cutprefix_lite s p w
  unfold cutV at H ⊢
  cases hb : preB s p with
  | true =>
    rw [hb, if_pos rfl] at H
    clear hb
    go_enter Tryd.func73, Tryd.ntmps73
    go_wp2_with (go_at_call 79; refine (show Calls Tryd.prog 79 _ _ _ from H.out).mono ?_; rintro e wz ⟨rfl, rfl⟩)
    go_ret2
    exact ⟨rfl, rfl⟩
  | false =>
    rw [hb, if_neg (by simp)] at H
    clear hb
    go_enter Tryd.func73, Tryd.ntmps73
    go_wp2_with (go_at_call 79; refine (show Calls Tryd.prog 79 _ _ _ from H.out).mono ?_; rintro e wz ⟨rfl, rfl⟩)
    go_ret2
    exact ⟨rfl, rfl⟩
def hyB : ByteArray := ⟨#[45]⟩
def miB : ByteArray := ⟨#[226, 136, 146]⟩
/-- A word without its sign. -/
def sgn (s : ByteArray) : ByteArray × Bool := if preB s hyB then (s.extract 1 s.size, true) else if preB s miB then (s.extract 3 s.size, true) else (s, false)
set_option maxRecDepth 100000 in
set_option maxHeartbeats 1000000 in
theorem unsigned_any (s : ByteArray) (w : World) : Calls Tryd.prog 63 #[.string s] w fun e w' => e = .returned (.tuple #[.string (sgn s).1, .bool (sgn s).2]) ∧ w' = w := by
  have H1 : Hid (Calls Tryd.prog 73 #[.string s, .string ⟨#[45]⟩] w fun e w' => e = .returned (cutV s hyB) ∧ w' = w) := cutprefix_any s hyB w
  have H2 : Hid (Calls Tryd.prog 73 #[.string s, .string ⟨#[226, 136, 146]⟩] w fun e w' => e = .returned (cutV s miB) ∧ w' = w) := cutprefix_any s miB w
  unfold cutV at H1 H2
  cases hb : preB s hyB with
  | true =>
    rw [hb, if_pos rfl] at H1
    have hs : sgn s = (s.extract 1 s.size, true) := by unfold sgn; rw [hb]; rfl
    have h1 : hyB.size = 1 := rfl
    rw [h1] at H1
    rw [hs]
    clear hs hb H2 h1
    go_enter Tryd.func63, Tryd.ntmps63
    go_wp2_with (go_at_call 73; refine (show Calls Tryd.prog 73 _ _ _ from H1.out).mono ?_; rintro e wz ⟨rfl, rfl⟩)
    go_ret2
    exact ⟨rfl, rfl⟩
  | false =>
    rw [hb, if_neg (by simp)] at H1
    cases hb2 : preB s miB with
    | true =>
      rw [hb2, if_pos rfl] at H2
      have hs : sgn s = (s.extract 3 s.size, true) := by unfold sgn; rw [hb, hb2]; rfl
      have h1 : miB.size = 3 := rfl
      rw [h1] at H2
      rw [hs]
      clear hs hb hb2 h1
      go_enter Tryd.func63, Tryd.ntmps63
      go_wp2_with fail
      refine (show Calls Tryd.prog 73 _ _ _ from H1.out).mono ?_
      rintro e wz ⟨rfl, rfl⟩
      clear H1
      go_wp2_with fail
      refine (show Calls Tryd.prog 73 _ _ _ from H2.out).mono ?_
      rintro e wz ⟨rfl, rfl⟩
      clear H2
      go_wp2
      go_ret2
      exact ⟨rfl, rfl⟩
    | false =>
      rw [hb2, if_neg (by simp)] at H2
      have hs : sgn s = (s, false) := by unfold sgn; rw [hb, hb2]; rfl
      rw [hs]
      clear hs hb hb2
      go_enter Tryd.func63, Tryd.ntmps63
      go_wp2_with fail
      refine (show Calls Tryd.prog 73 _ _ _ from H1.out).mono ?_
      rintro e wz ⟨rfl, rfl⟩
      clear H1
      go_wp2_with fail
      refine (show Calls Tryd.prog 73 _ _ _ from H2.out).mono ?_
      rintro e wz ⟨rfl, rfl⟩
      clear H2
      go_wp2
      go_ret2
      exact ⟨rfl, rfl⟩
/-- What a word is as a number: it, or an error. -/
def numR (s : ByteArray) : Int × Int :=
  if (natL (rns (sgn s).1) 0 false 0).2 = false then (0, 9)
  else if (sgn s).2 = true ∧ (natL (rns (sgn s).1) 0 false 0).1 ≤ 1152921504606846976 then (-((natL (rns (sgn s).1) 0 false 0).1 : Int), 0)
  else if (sgn s).2 = false ∧ (natL (rns (sgn s).1) 0 false 0).1 ≤ 1152921504606846975 then ((natL (rns (sgn s).1) 0 false 0).1, 0)
  else (0, 11)
set_option maxRecDepth 100000 in
set_option maxHeartbeats 1000000 in
theorem number_any (s : ByteArray) (w : World) (h : Nog w) : Calls Tryd.prog 55 #[.string s] w fun e w' => e = .returned (.tuple #[.int .i64 (numR s).1, .int .i64 (numR s).2]) ∧ Only (fun _ => False) w w' := by
  have H1 : Hid (Calls Tryd.prog 63 #[.string s] w fun e w' => e = .returned (.tuple #[.string (sgn s).1, .bool (sgn s).2]) ∧ w' = w) := unsigned_any s w
  have H2 : Hid (Calls Tryd.prog 64 #[.string (sgn s).1] w fun e w' => e = .returned (.tuple #[.int .u64 ((natL (rns (sgn s).1) 0 false 0).1 : Nat), .bool (natL (rns (sgn s).1) 0 false 0).2]) ∧ Only (fun _ => False) w w') := natural_any _ w h
  unfold numR
  obtain ⟨d, hd⟩ : ∃ d, d = (sgn s).1 := ⟨_, rfl⟩
  obtain ⟨b, hb⟩ : ∃ d, d = (sgn s).2 := ⟨_, rfl⟩
  rw [← hd] at H1 H2 ⊢
  rw [← hb] at H1 ⊢
  obtain ⟨n, hn⟩ : ∃ x, x = (natL (rns d) 0 false 0).1 := ⟨_, rfl⟩
  obtain ⟨k, hk⟩ : ∃ x, x = (natL (rns d) 0 false 0).2 := ⟨_, rfl⟩
  rw [← hn, ← hk] at H2 ⊢
  clear hd hb hn hk h
  cases k with
  | false =>
    simp only [if_true]
    go_enter Tryd.func55, Tryd.ntmps55
    go_wp2_with fail
    refine (show Calls Tryd.prog 63 _ _ _ from H1.out).mono ?_
    rintro e w1 ⟨rfl, rfl⟩
    clear H1
    go_wp2_with fail
    refine (show Calls Tryd.prog 64 _ _ _ from H2.out).mono ?_
    rintro e w2 ⟨rfl, ho⟩
    have HO : Hid (Only (fun _ => False) w1 w2) := ho
    clear H2 ho
    go_wp2
    go_ret2
    exact ⟨rfl, HO.out⟩
  | true =>
    cases b with
    | true =>
      by_cases hl : n ≤ 1152921504606846976
      · have i1 : (n : Int) ≤ 1152921504606846976 := by omega
        have e1 : IntKind.i64.wrap (n : Int) = (n : Int) := by rw [IntKind.wrap_i64]; omega
        have e2 : IntKind.i64.wrap (-(n : Int)) = -(n : Int) := by rw [IntKind.wrap_i64]; omega
        simp only [hl, and_self, if_true, Bool.true_eq_false, if_false]
        go_enter Tryd.func55, Tryd.ntmps55
        go_wp2_with fail
        refine (show Calls Tryd.prog 63 _ _ _ from H1.out).mono ?_
        rintro e w1 ⟨rfl, rfl⟩
        clear H1
        go_wp2_with fail
        refine (show Calls Tryd.prog 64 _ _ _ from H2.out).mono ?_
        rintro e w2 ⟨rfl, ho⟩
        have HO : Hid (Only (fun _ => False) w1 w2) := ho
        clear H2 ho
        go_wp2
        go_ret2
        exact ⟨rfl, HO.out⟩
      · have i1 : ¬ (n : Int) ≤ 1152921504606846976 := by omega
        simp only [hl, and_false, Bool.true_eq_false, if_false, false_and]
        go_enter Tryd.func55, Tryd.ntmps55
        go_wp2_with fail
        refine (show Calls Tryd.prog 63 _ _ _ from H1.out).mono ?_
        rintro e w1 ⟨rfl, rfl⟩
        clear H1
        go_wp2_with fail
        refine (show Calls Tryd.prog 64 _ _ _ from H2.out).mono ?_
        rintro e w2 ⟨rfl, ho⟩
        have HO : Hid (Only (fun _ => False) w1 w2) := ho
        clear H2 ho
        go_wp2
        go_ret2
        exact ⟨rfl, HO.out⟩
    | false =>
      by_cases hl : n ≤ 1152921504606846975
      · have i1 : (n : Int) ≤ 1152921504606846975 := by omega
        have e1 : IntKind.i64.wrap (n : Int) = (n : Int) := by rw [IntKind.wrap_i64]; omega
        simp only [hl, and_self, if_true, Bool.false_eq_true, Bool.true_eq_false, false_and, if_false]
        go_enter Tryd.func55, Tryd.ntmps55
        go_wp2_with fail
        refine (show Calls Tryd.prog 63 _ _ _ from H1.out).mono ?_
        rintro e w1 ⟨rfl, rfl⟩
        clear H1
        go_wp2_with fail
        refine (show Calls Tryd.prog 64 _ _ _ from H2.out).mono ?_
        rintro e w2 ⟨rfl, ho⟩
        have HO : Hid (Only (fun _ => False) w1 w2) := ho
        clear H2 ho
        go_wp2
        go_ret2
        exact ⟨rfl, HO.out⟩
      · have i1 : ¬ (n : Int) ≤ 1152921504606846975 := by omega
        simp only [hl, and_false, Bool.true_eq_false, Bool.false_eq_true, if_false, false_and]
        go_enter Tryd.func55, Tryd.ntmps55
        go_wp2_with fail
        refine (show Calls Tryd.prog 63 _ _ _ from H1.out).mono ?_
        rintro e w1 ⟨rfl, rfl⟩
        clear H1
        go_wp2_with fail
        refine (show Calls Tryd.prog 64 _ _ _ from H2.out).mono ?_
        rintro e w2 ⟨rfl, ho⟩
        have HO : Hid (Only (fun _ => False) w1 w2) := ho
        clear H2 ho
        go_wp2
        go_ret2
        exact ⟨rfl, HO.out⟩
end Go.Proofs.YtpphabkjnfgcmaaDoor
