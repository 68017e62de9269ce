/- Awake. -/
import Derived.Test.YtbijiigobbjlcaaDoorLx6
namespace Go.Proofs.YtbijiigobbjlcaaDoor
open Go.RowKit
set_option linter.unusedSimpArgs false
set_option linter.unusedVariables false
theorem name_dup : nameB ⟨#[100, 117, 112]⟩ = true := by kernel_rfl
theorem name_7 : nameB ⟨#[55]⟩ = false := by kernel_rfl
set_option maxRecDepth 100000 in
set_option maxHeartbeats 1000000 in
theorem awake_any (w : World) (h : Nog w) : Calls Tryd.prog 9 #[] w fun e w' => e = .returned (.bool true) ∧ Only (fun _ => False) w w' := by
  have H1 : Hid (Calls Tryd.prog 17 #[.string ⟨#[100, 117, 112]⟩] w fun e w' => e = .returned (.bool true) ∧ Only (fun _ => False) w w') := by
    have := name_any ⟨#[100, 117, 112]⟩ w h
    rw [name_dup] at this
    exact this
  have H2 : Hid (∀ w1, Only (fun _ => False) w w1 → Calls Tryd.prog 17 #[.string ⟨#[55]⟩] w1 fun e w' => e = .returned (.bool false) ∧ Only (fun _ => False) w1 w') := by
    intro w1 o
    have := name_any ⟨#[55]⟩ w1 (h.frame o)
    rw [name_7] at this
    exact this
  clear h
  go_enter Tryd.func9, Tryd.ntmps9
  go_wp2_with fail
  refine (show Calls Tryd.prog 17 _ _ _ from H1.out).mono ?_
  rintro e w1 ⟨rfl, o1⟩
  have H3 : Hid (Calls Tryd.prog 17 _ _ _) := H2.out w1 o1
  have O1 : Hid (Only (fun _ => False) w w1) := o1
  clear H1 H2 o1
  go_wp2_with fail
  refine (show Calls Tryd.prog 17 _ _ _ from H3.out).mono ?_
  rintro e w2 ⟨rfl, o2⟩
  have O2 : Hid (Only (fun _ => False) w w2) := O1.out.trans o2 (fun _ _ g => g)
  clear H3 o2
  go_wp2
  go_ret
  exact ⟨rfl, O2.out⟩
end Go.Proofs.YtbijiigobbjlcaaDoor
