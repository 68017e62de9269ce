/- What sector answers; New. -/
import Derived.Test.YtpoakkdkibameaaD5
namespace Go.Proofs.Ytpoakkdkibameaa
open Go.RowKit
set_option linter.unusedSimpArgs false
set_option linter.unusedVariables false

/-- The bytes of a sector whose first bytes are z's, up to k, the others 0. -/
def fullF (z : Nat → Int) (k : Nat) : Nat → Int := fun j => if j < k then z j else 0
theorem fullF_set (z : Nat → Int) (k : Nat) : (secL (fullF z k)).toArray.setIfInBounds k (.int .u8 (z k)) = (secL (fullF z (k + 1))).toArray := by
  apply Array.ext
  · simp [secL_length]
  · intro i h1 h2
    simp [secL_length] at h1 h2
    simp [secL, Array.getElem_setIfInBounds, fullF]
    by_cases e : k = i
    · subst e; simp
    · simp [e]
      by_cases l : i < k
      · simp [l]; intro; omega
      · simp [l]; intro; omega
theorem secL_congr (f g : Nat → Int) (h : ∀ j, j < 32 → f j = g j) : secL f = secL g := by
  simp only [secL]
  apply List.map_congr_left
  intro j hj
  rw [h j (by simpa using hj)]
theorem fullF_big (z : Nat → Int) (n : Nat) (h : 32 ≤ n) : secL (fullF z 32) = secL (fullF z n) :=
  secL_congr _ _ fun j hj => by simp only [fullF]; rw [if_pos hj, if_pos (by omega)]
theorem mk32 (z : Nat → Int) (w : World) : (Instr.makeSlice 28 (.int .i64 32) (.int .i64 32)).run Try.prog w = .ok (.slice (some ⟨w.heap.size, 0, none⟩) 32 32) (w.alloc (.cells (secL (fullF z 0)).toArray 5)) := by kernel_rfl

theorem new_any (n : Nat) (w : World) (h1 : 1 ≤ n) (h2 : n ≤ 8192) :
    Calls Try.prog 24 #[.int .i64 n] w fun e w' => ∃ p S, e = .returned (.tuple #[.pointer (some ⟨p, 0, none⟩), .int .i64 0]) ∧
      DiskAt w' w.heap.size p S (.slice none 0 0) ⟨n, fun _ _ => 0, [], -1⟩ ∧ Only (fun _ => False) w w' :=
  (new_ok n w h1 h2).mono fun _ _ h => ⟨_, _, h.1, h.2.1, h.2.2.1⟩
end Go.Proofs.Ytpoakkdkibameaa
