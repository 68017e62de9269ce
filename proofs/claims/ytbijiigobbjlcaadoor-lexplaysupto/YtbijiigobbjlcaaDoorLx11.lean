/- Blanks, and the first character that is wanted: blank, begin's two functions, find, wordEnd. -/
import Derived.Test.YtbijiigobbjlcaaDoorLx10
namespace Go.Proofs.YtbijiigobbjlcaaDoor
open Go.RowKit
set_option linter.unusedSimpArgs false
set_option linter.unusedVariables false
set_option maxRecDepth 100000 in
theorem notblank_any (c : Nat) (w : World) : Calls Tryd.prog 36 #[.int .i32 (c : Int)] w fun e w' => e = .returned (.bool (!blk c)) ∧ w' = w := by
  have HB : Hid (Calls Tryd.prog 37 #[.int .i32 (c : Int)] w fun e w' => e = .returned (.bool (blk c)) ∧ w' = w) := blank_any c w
  obtain ⟨b, hb⟩ : ∃ b, b = blk c := ⟨_, rfl⟩
  rw [← hb] at HB ⊢
  clear hb
  go_enter Tryd.func36, Tryd.ntmps36
  go_wp2_with fail
  refine (show Calls Tryd.prog 37 _ _ _ from HB.out).mono ?_
  rintro e wz ⟨rfl, rfl⟩
  clear HB
  go_wp2
  go_ret
  exact ⟨rfl, rfl⟩
set_option maxRecDepth 100000 in
theorem newline_any (c : Nat) (w : World) : Calls Tryd.prog 39 #[.int .i32 (c : Int)] w fun e w' => e = .returned (.bool (decide (c = 10))) ∧ w' = w := by
  have e : ((c : Int) == 10) = decide (c = 10) := by
    by_cases h : c = 10
    · subst h; rfl
    · have : ¬ (c : Int) = 10 := by omega
      simp [h, this]
  rw [← e]
  clear e
  go_enter Tryd.func39, Tryd.ntmps39
  go_wp2
  go_ret
  exact ⟨rfl, rfl⟩
end Go.Proofs.YtbijiigobbjlcaaDoor
