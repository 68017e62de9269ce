/- A new heap of 9 words: makeRoom for 3. -/
import Derived.Test.YtijifabejngdbaaHn8
namespace Go.Proofs.Ytijifabejngdbaa
open Go.RowKit
set_option linter.unusedSimpArgs false
set_option linter.unusedVariables false
set_option maxRecDepth 100000 in
set_option maxHeartbeats 8000000 in
theorem room0 (h m : Nat) (w : World) (hE : HpE w h m (.slice none 0 0) (.slice none 0 0) (.slice none 0 0)) :
    Calls Try.prog 59 #[.pointer (some ⟨h, 0, none⟩), .int .i64 3] w fun e w' => e = .returned (.bool true) ∧ Hid (HpE w' h m (.slice none 0 0) (.slice none 0 0) (.slice none 0 0) ∧ Only (fun b => b = h ∨ b = m) w w') := by
  obtain ⟨c0, c1, c2, c3, c4⟩ := hE.cells
  have HE : Hid (HpE w h m (.slice none 0 0) (.slice none 0 0) (.slice none 0 0)) := hE
  have HU : Hid (∀ w1, Only (fun _ => False) w w1 → Calls Try.prog 50 #[.pointer (some ⟨h, 0, none⟩)] w1 fun e w' => e = .returned (.int .i64 0) ∧ Only (fun _ => False) w1 w') := fun w1 o => (used_any h none none 0 0 0 0 (by omega) (by omega) w1 (o.cell c0 (fun g => g)) (o.cell c1 (fun g => g))).mono fun e w' h => h
  have HC : Hid (∀ W, Only (fun _ => False) w W → W.cell? ⟨h, 0, none⟩ = some (.slice none 0 0) ∧ W.cell? ⟨h, 1, none⟩ = some (.slice none 0 0) ∧ W.cell? ⟨h, 3, none⟩ = some (.int .i64 9)) := fun W o => ⟨o.cell c0 (fun g => g), o.cell c1 (fun g => g), o.cell c3 (fun g => g)⟩
  clear hE
  go_enter Try.func59, Try.ntmps59
  go_wp2_with fail
  go_region_held3 (fun W => W.cell? ⟨h, 0, none⟩ = some (.slice none 0 0) ∧ W.cell? ⟨h, 1, none⟩ = some (.slice none 0 0) ∧ W.cell? ⟨h, 3, none⟩ = some (.int .i64 9))
    (first | exact ⟨c0, c1, c3⟩ | exact HC.out _ O1.out | go_keep)
    (first | (go_at_call 50; refine (show Calls Try.prog 50 _ _ _ from HU.out _ (Only.refl _ w).drew).mono ?_; rintro e w1 ⟨rfl, o1⟩; have O1 : Hid (Only (fun _ => False) w w1) := ((Only.refl _ w).drew).trans o1 (fun _ _ g => g); obtain ⟨d0, d1, d3⟩ := HC.out _ O1.out; clear o1))
  have hd : decide (IntKind.i64.wrap 3 ≤ IntKind.i64.wrap 2) = false := by decide
  rw [hd]
  have HE1 : Hid (HpE w1 h m (.slice none 0 0) (.slice none 0 0) (.slice none 0 0)) := HE.out.only O1.out
  clear hd c0 c1 c2 c3 c4 HU HC HE
  have HY : Hid (∀ W, Only (fun _ => False) w1 W → Calls Try.prog 51 #[.pointer (some ⟨h, 0, none⟩)] W fun e w' => e = .returned (.slice none 0 0) ∧ Only (fun _ => False) W w') := fun W o => yreach0 h m W (HE1.out.only o)
  have HZ := size0 h
  have HC : Hid (∀ W, Only (fun _ => False) w1 W → W.cell? ⟨h, 0, none⟩ = some (.slice none 0 0)) := fun W o => o.cell d0 (fun g => g)
  go_wp2_with fail
  go_region_held3 (fun W => W.cell? ⟨h, 0, none⟩ = some (.slice none 0 0))
    (first | exact d0 | exact HC.out _ O2.out | go_keep)
    (first
      | (go_at_call 51; refine (show Calls Try.prog 51 _ _ _ from HY.out _ (Only.refl _ w1).drew).mono ?_; rintro e w2 ⟨rfl, o2⟩; have O2 : Hid (Only (fun _ => False) w1 w2) := ((Only.refl _ w1).drew).trans o2 (fun _ _ g => g); have e0 := HC.out _ O2.out; clear o2)
      | (go_at_call 45; refine (HZ _).mono ?_; rintro e w3 ⟨rfl, hq⟩; rw [hq]; clear hq))
  have HM : Hid _ := minor0 h m w2 (HE1.out.only O2.out)
  have OW : Hid (Only (fun _ => False) w w2) := O1.out.trans O2.out (fun _ _ g => g)
  clear HY HZ HC HE1 O1 O2 d0 d1 d3 e0
  go_wp2_with fail
  refine (show Calls Try.prog 18 _ _ _ from HM.out).mono ?_
  rintro e w3 ⟨rfl, H3⟩
  clear HM
  go_wp2
  go_ret
  exact ⟨rfl, H3.out.1, (OW.out.mono (fun _ _ g => g.elim)).trans H3.out.2 (fun _ _ g => g)⟩
end Go.Proofs.Ytijifabejngdbaa
