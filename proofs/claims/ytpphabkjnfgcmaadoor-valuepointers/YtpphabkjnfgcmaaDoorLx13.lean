/- wordEnd, remarked, stray. -/
import Derived.Test.YtpphabkjnfgcmaaDoorLx12
namespace Go.Proofs.YtpphabkjnfgcmaaDoor
open Go.RowKit
set_option linter.unusedSimpArgs false
set_option linter.unusedVariables false
theorem fndL_le (p : Nat → Bool) (a n : Nat) (S : ByteArray) (h : a + S.size ≤ n) : ∀ (b pos : Nat), fndL p a n (crs S b pos) ≤ n := by
  intro b
  induction b with
  | zero => intro pos; exact Nat.le_refl _
  | succ b ih =>
    intro pos
    by_cases hp : pos < S.size
    · rw [show crs S (b + 1) pos = (pos, (Utf8.decode S pos).1) :: crs S b (pos + (Utf8.decode S pos).2) by simp [crs, hp]]
      unfold fndL
      split
      · omega
      · exact ih _
    · rw [crs_end hp]; exact Nat.le_refl _
theorem fndL_ge (p : Nat → Bool) (a n : Nat) (S : ByteArray) (h : a + S.size ≤ n) : ∀ (b pos : Nat), pos ≤ S.size → a + pos ≤ fndL p a n (crs S b pos) := by
  intro b
  induction b with
  | zero => intro pos hq; show a + pos ≤ n; omega
  | succ b ih =>
    intro pos hq
    by_cases hp : pos < S.size
    · rw [show crs S (b + 1) pos = (pos, (Utf8.decode S pos).1) :: crs S b (pos + (Utf8.decode S pos).2) by simp [crs, hp]]
      unfold fndL
      split
      · exact Nat.le_refl _
      · by_cases hr : pos + (Utf8.decode S pos).2 ≤ S.size
        · have := ih (pos + (Utf8.decode S pos).2) hr
          omega
        · rw [crs_end (by omega)]
          show a + pos ≤ n
          omega
    · rw [crs_end hp]
      show a + pos ≤ n
      omega
theorem fnd_le (p : Nat → Bool) (s : ByteArray) {a : Nat} (ha : a ≤ s.size) : a ≤ fnd p s a ∧ fnd p s a ≤ s.size := by
  have hz : (s.extract a s.size).size = s.size - a := by rw [ByteArray.size_extract]; omega
  exact ⟨fndL_ge p a s.size _ (by omega) _ 0 (by omega), fndL_le p a s.size _ (by omega) _ 0⟩
def exB : ByteArray := ⟨#[33]⟩
/-- Is the word at a the remark's? -/
def rmk (s : ByteArray) (a : Nat) : Bool := preB (s.extract a s.size) exB && decide (fnd (fun c => blk c) s a = a + 1)
end Go.Proofs.YtpphabkjnfgcmaaDoor
