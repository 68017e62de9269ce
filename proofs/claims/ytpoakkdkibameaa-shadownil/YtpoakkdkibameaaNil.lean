/- The walk of ShadowNil. -/
import Derived.Test.YtpoakkdkibameaaN1
namespace Go.Proofs.Ytpoakkdkibameaa
open Go.RowKit
set_option linter.unusedSimpArgs false
set_option linter.unusedVariables false

set_option maxRecDepth 100000 in
set_option maxHeartbeats 4000000 in
theorem nil_walk (w : World) : Calls Try.prog 5 #[] w fun e w' => e = .returned (.bool true) ∧ Below w.heap.size w w' := by
  go_enter Try.func5, Try.ntmps5
  go_wp2_with (first | (go_at_call 20; refine (format_nil _).mono ?_; rintro e w' ⟨rfl, rfl⟩) | (go_at_call 21; refine (open_nil _).mono ?_; rintro e w' ⟨rfl, rfl⟩) | (go_at_call 15; refine (get_nil _ _).mono ?_; rintro e w' ⟨rfl, rfl⟩) | (go_at_call 9; refine (room_nil _).mono ?_; rintro e w' ⟨rfl, rfl⟩))
  rename_i w0
  refine (listed_nil _).mono ?_
  rintro e w1 ⟨a, c, rfl, ho1⟩
  have H1 : Hid (Only (fun _ => False) _ w1) := ho1
  clear ho1
  go_wp2_with fail
  refine (awake_any _).mono ?_
  rintro e w2 ⟨rfl, ho2⟩
  have H2 : Hid (Only (fun _ => False) w1 w2) := ho2
  clear ho2
  go_wp2_with (first | (go_at_call 16; refine (put_nil _ _ _).mono ?_; rintro e w' ⟨rfl, rfl⟩) | (go_at_call 19; refine (drop_nil _ _).mono ?_; rintro e w' ⟨rfl, rfl⟩) | (go_at_call 12; refine (commit_nil _).mono ?_; rintro e w' ⟨rfl, rfl⟩) | (go_at_call 23; refine (rollback_nil _).mono ?_; rintro e w' ⟨rfl, rfl⟩) | (go_at_call 11; refine (epoch_nil _).mono ?_; rintro e w' ⟨rfl, rfl⟩))
  go_ret
  exact ⟨rfl, (H1.out.trans H2.out (fun _ _ e => e)).below (fun _ h => h.elim) (Nat.le_refl _)⟩
end Go.Proofs.Ytpoakkdkibameaa
