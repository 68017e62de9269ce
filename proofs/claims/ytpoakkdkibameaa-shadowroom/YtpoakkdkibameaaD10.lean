/- What Crash leaves of a disk: the walk. -/
import Derived.Test.YtpoakkdkibameaaD9
namespace Go.Proofs.Ytpoakkdkibameaa
open Go.RowKit
set_option linter.unusedSimpArgs false
set_option linter.unusedVariables false

theorem crashTo_no (kp : Nat → Bool) (torn : Int) (cut : Nat) (ws : List Wr) (s : Nat → Nat → Int) (i : Nat) (h : kp i = false) : crashTo kp torn cut ws s (i + 1) = crashTo kp torn cut ws s i := by
  simp only [crashTo]
  cases ws[i]? <;> simp [h]
theorem crashTo_yes (kp : Nat → Bool) (torn : Int) (cut : Nat) (ws : List Wr) (s : Nat → Nat → Int) (i : Nat) (x : Wr) (hx : ws[i]? = some x) (h : kp i = true) : crashTo kp torn cut ws s (i + 1) = upd (crashTo kp torn cut ws s i) x.at_ (mix (if (i : Int) = torn then cut else 32) x.aft (crashTo kp torn cut ws s i x.at_)) := by
  simp only [crashTo, hx, if_pos h]

/-- Behind a crash: no write is pending, and the life has no end. -/
theorem crashed_end {W : World} {B p S : Nat} {pv : Value} {d : DS} (h : DiskAt W B p S pv d) : DiskAt ((W.setCell ⟨p, 1, none⟩ (.slice none 0 0)).setCell ⟨p, 2, none⟩ (.int .i64 (-1))) B p S (.slice none 0 0) ⟨d.n, d.sec, [], -1⟩ := by
  have oP : Only (fun i => i = p) W ((W.setCell ⟨p, 1, none⟩ (.slice none 0 0)).setCell ⟨p, 2, none⟩ (.int .i64 (-1))) := ((Only.refl (fun i => i = p) W).setCell _ _ (fun _ => rfl)).setCell _ _ (fun _ => rfl)
  obtain ⟨c, hc⟩ := h.c0
  have hSp : S ≠ p := Ne.symm h.pS
  exact { pB := h.pB, SB := h.SB, pS := h.pS
          c0 := ⟨c, by rw [World.cell?_setCell_other _ _ _ _ (by simp), World.cell?_setCell_other _ _ _ _ (by simp)]; exact hc⟩
          c1 := by rw [World.cell?_setCell_other _ _ _ _ (by simp), World.cell?_setCell_same _ _ _ h.c1]
          c2 := World.cell?_setCell_same _ _ _ ((World.cell?_setCell_other _ _ _ _ (by simp)).trans h.c2)
          f1 := by simpa using h.f1
          f2 := by simpa using h.f2
          secs := fun i hi => ⟨oP.range (h.secs i hi).1 hSp, oP.there (h.secs i hi).2 hSp⟩
          own := World.ownsRow_nil _ _ _ _
          hp := by simp [Value.ownBlock]
          hS := by simp [Value.ownBlock]
          n1 := h.n1, n2 := h.n2
          at_ := fun x hx => by cases hx
          l1 := by simp
          l2 := by simp }

/-- What a slice of flags is: kf i at place i, kl of them; none of them lies in block S. -/
def DFlags (w : World) (v : Value) (kl : Nat) (kf : Nat → Bool) (S : Nat) : Prop := ∃ ka kc, v = .slice ka kl kc ∧ kl ≤ maxLen ∧ ∀ i, i < kl → ∃ kb ko, ka = some ⟨kb, ko, none⟩ ∧ kb ≠ S ∧ w.cell? ⟨kb, ko + i, none⟩ = some (.bool (kf i))
end Go.Proofs.Ytpoakkdkibameaa
