/- value.Text of the number 7. -/
import Derived.Test.YtpphabkjnfgcmaaDoorWr10
namespace Go.Proofs.YtpphabkjnfgcmaaDoor
open Go.RowKit Go.Lib
set_option linter.unusedSimpArgs false
set_option linter.unusedVariables false
set_option maxRecDepth 100000 in
theorem add7 (w : World) : Calls Tryd.prog 11 #[.slice none 0 0, i7] w fun e w' => ∃ g c : Nat, e = .returned (.slice (some ⟨g, 0, none⟩) 1 c) ∧ w'.cell? ⟨g, 0, none⟩ = some (.string ⟨#[55]⟩) ∧ Only (fun _ => False) w w' := by
  have HV : Hid (∀ w1, Calls Tryd.prog 22 #[p7] w1 fun e w' => e = .returned (.string ⟨#[55]⟩) ∧ Only (fun _ => False) w1 w') := word7
  have hl := va_miss 24 34 43 _ Tryd.underlying34 (by intro m h; cases h) (by decide) (.agg #[.slice none 0 0]) (fun _ => rfl)
  have hq := va_miss 24 38 43 _ Tryd.underlying38 (by intro m h; cases h) (by decide) (.agg #[.slice none 0 0]) (fun _ => rfl)
  have hx := va_miss 24 41 43 _ Tryd.underlying41 (by intro m h; cases h) (by decide) (.agg #[.int .i64 0]) (fun _ => rfl)
  go_enter Tryd.func11, Tryd.ntmps11
  go_wp2_with fail
  refine (show Calls Tryd.prog 22 _ _ _ from HV.out _).mono ?_
  rintro e w1 ⟨rfl, o1⟩
  have O1 : Hid (Only (fun _ => False) w w1) := ((((Only.refl (fun _ => False) w).alloc _).alloc _).alloc _).trans o1 (fun _ _ g => g)
  clear HV o1 hl hq hx
  go_wp2
  go_ret
  refine ⟨_, _, rfl, ?_, ?_⟩
  · refine (wr_cell (va_at (w1.alloc (.cells #[.string ⟨#[55]⟩] 9)) _ _ (Array.size_push ..).symm) 0).trans ?_
    rw [Array.getElem?_append_left (by simp)]
    rfl
  · have o := (O1.out.alloc (.cells #[.string ⟨#[55]⟩] 9)).alloc (.cells (#[.string ⟨#[55]⟩] ++ Builtin.zeroCells #[.string ⟨#[]⟩] ((Question.appendCap 1 0 9).cut (w1.tape w1.drawn (Question.appendCap 1 0 9)) - 1)) 9)
    exact ⟨o.os, o.tape, o.output, o.size, o.block⟩
set_option maxRecDepth 100000 in
theorem joined1 (w : World) (g c : Nat) (s : ByteArray) (hg : w.cell? ⟨g, 0, none⟩ = some (.string s)) : Calls Tryd.prog 10 #[.slice (some ⟨g, 0, none⟩) 1 c, .string ⟨#[32]⟩] w fun e w' => e = .returned (.string s) ∧ w' = w := by
  go_enter Tryd.func10, Tryd.ntmps10
  go_wp2
  go_ret
  exact ⟨rfl, rfl⟩
set_option maxRecDepth 100000 in
theorem vtext7 (w : World) : Calls Tryd.prog 8 #[i7] w fun e w' => e = .returned (.tuple #[.string ⟨#[55]⟩, .int .i64 0]) ∧ Only (fun _ => False) w w' := by
  have HC : Hid (∀ w1, Calls Tryd.prog 4 #[i7] w1 fun e w' => e = .returned (.int .i64 0) ∧ Only (fun _ => False) w1 w') := check7
  have HA : Hid (∀ w1, Calls Tryd.prog 11 #[.slice none 0 0, i7] w1 fun e w' => ∃ g c : Nat, e = .returned (.slice (some ⟨g, 0, none⟩) 1 c) ∧ w'.cell? ⟨g, 0, none⟩ = some (.string ⟨#[55]⟩) ∧ Only (fun _ => False) w1 w') := add7
  have HJ : Hid (∀ w1 g c s, w1.cell? ⟨g, 0, none⟩ = some (.string s) → Calls Tryd.prog 10 #[.slice (some ⟨g, 0, none⟩) 1 c, .string ⟨#[32]⟩] w1 fun e w' => e = .returned (.string s) ∧ w' = w1) := joined1
  go_enter Tryd.func8, Tryd.ntmps8
  go_wp2_with fail
  refine (show Calls Tryd.prog 4 _ _ _ from HC.out _).mono ?_
  rintro e w1 ⟨rfl, o1⟩
  have O1 : Hid (Only (fun _ => False) w w1) := o1
  clear HC o1
  go_wp2_with fail
  refine (show Calls Tryd.prog 11 _ _ _ from HA.out _).mono ?_
  rintro e w2 ⟨g, c, rfl, hg, o2⟩
  have O2 : Hid (Only (fun _ => False) w w2) := O1.out.trans o2 (fun _ _ g => g)
  have HG : Hid (w2.cell? ⟨g, 0, none⟩ = some (.string ⟨#[55]⟩)) := hg
  clear HA o2 hg O1
  go_wp2_with fail
  refine (show Calls Tryd.prog 10 _ _ _ from HJ.out _ _ _ _ HG.out).mono ?_
  rintro e w3 ⟨rfl, rfl⟩
  clear HJ HG
  go_wp2
  go_ret2
  exact ⟨rfl, O2.out⟩
set_option maxRecDepth 100000 in
theorem vawake (w : World) : Calls Tryd.prog 5 #[] w fun e w' => e = .returned (.bool true) ∧ Only (fun _ => False) w w' := by
  have HT : Hid (∀ w1, Calls Tryd.prog 8 #[i7] w1 fun e w' => e = .returned (.tuple #[.string ⟨#[55]⟩, .int .i64 0]) ∧ Only (fun _ => False) w1 w') := vtext7
  go_enter Tryd.func5, Tryd.ntmps5
  go_wp2_with fail
  refine (show Calls Tryd.prog 8 _ _ _ from HT.out _).mono ?_
  rintro e w1 ⟨rfl, o1⟩
  have O1 : Hid (Only (fun _ => False) w w1) := o1
  clear HT o1
  go_wp2
  all_goals
    go_ret
    exact ⟨rfl, O1.out⟩
end Go.Proofs.YtpphabkjnfgcmaaDoor
