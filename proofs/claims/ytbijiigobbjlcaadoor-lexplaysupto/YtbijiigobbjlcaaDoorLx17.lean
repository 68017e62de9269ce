/- strings.Clone. -/
import Derived.Test.YtbijiigobbjlcaaDoorLx16
import Derived.Test.YtbijiigobbjlcaaDoorShelf
namespace Go.Proofs.YtbijiigobbjlcaaDoor
open Go.RowKit
set_option linter.unusedSimpArgs false
set_option linter.unusedVariables false
set_option maxRecDepth 100000 in
theorem clone_any (s : ByteArray) (w : World) (hs : s.size ≤ 281474976710656) : Calls Tryd.prog 53 #[.string s] w fun e w' => e = .returned (.string s) ∧ Below w.heap.size w w' := by
  have H : Hid (Calls Tryd.prog 57 #[.string s] w fun e w' => e = .returned (.string s) ∧ Below w.heap.size w w') := Tryd.stringslite_Clone s w hs
  go_enter Tryd.func53, Tryd.ntmps53
  go_wp2_with fail
  refine (show Calls Tryd.prog 57 _ _ _ from H.out).mono ?_
  rintro e w1 ⟨rfl, b⟩
  have HB : Hid (Below w.heap.size w w1) := b
  clear H b
  go_wp2
  go_ret
  exact ⟨rfl, HB.out⟩
end Go.Proofs.YtbijiigobbjlcaaDoor
