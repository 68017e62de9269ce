/- The text of the number 7. -/
import Derived.Test.YtpphabkjnfgcmaaDoorWr4
namespace Go.Proofs.YtpphabkjnfgcmaaDoor
open Go.RowKit Go.Lib
set_option linter.unusedSimpArgs false
set_option linter.unusedVariables false
theorem WrU.alloc {B b : Nat} {bs : List Value} {bg : Bool} {w : World} (h : WrU B b bs bg w) (o : Obj) : WrU B b bs bg (w.alloc o) := h.only ((Only.refl _ w).alloc _)
set_option maxRecDepth 100000 in
theorem wval7 (B b : Nat) (w : World) (h : WrU B b [] false w) (hBw : B ≤ w.heap.size) : Calls Tryd.prog 38 #[.pointer (some ⟨b, 0, none⟩), i7] w fun e w' => e = .returned (.tuple #[]) ∧ Hid (WrU B b (Lib.byteCells [55]) true w' ∧ Only (fun k => B ≤ k) w w') := by
  have HF : Hid (Calls Tryd.prog 36 #[.pointer (some ⟨b, 0, none⟩)] w fun e w' => e = .returned (.bool false) ∧ w' = w) := by
    have := wfull_any B b _ false w h
    rwa [show decide (65536 < (([] : List Value).length : Int)) = false by simp] at this
  have HI : Hid (∀ w1, Calls Tryd.prog 44 #[.int .i64 7, .int .i64 10] w1 fun e w' => e = .returned (.string ⟨#[55]⟩) ∧ w' = w1) := fmt7
  have HW : Hid (Calls Tryd.prog 39 #[.pointer (some ⟨b, 0, none⟩), .string ⟨#[55]⟩] (w.alloc (.cells #[.int .i64 7] 24)) fun e w' => e = .returned (.tuple #[]) ∧ Hid (WrU B b (Lib.byteCells [55]) true w' ∧ Only (fun k => B ≤ k) (w.alloc (.cells #[.int .i64 7] 24)) w')) := (wword_first B b [] ⟨#[55]⟩ _ (h.alloc _) (by simp) (by decide) (by simp; omega)).mono fun e w' g => ⟨g.1, by simpa [strCells, Lib.byteCells] using g.2.out.1, g.2.out.2⟩
  have hInt := va_hit 24 43 _ Tryd.underlying24 (by intro m h; cases h)
  have O0 : Hid (Only (fun k => B ≤ k) w (w.alloc (.cells #[.int .i64 7] 24))) := (Only.refl (fun k => B ≤ k) w).alloc _
  clear h hBw
  go_enter Tryd.func38, Tryd.ntmps38
  go_wp2_with fail
  refine (show Calls Tryd.prog 36 _ _ _ from HF.out).mono ?_
  rintro e w1 ⟨rfl, rfl⟩
  clear HF
  go_wp2_with fail
  refine (show Calls Tryd.prog 44 _ _ _ from HI.out _).mono ?_
  rintro e w2 ⟨rfl, rfl⟩
  clear HI
  go_wp2_with fail
  refine (show Calls Tryd.prog 39 _ _ _ from HW.out).mono ?_
  rintro e w3 ⟨rfl, g3⟩
  clear HW
  go_wp2
  go_end0
  exact ⟨rfl, g3.out.1, O0.out.trans g3.out.2 (fun _ _ g => g)⟩
set_option maxRecDepth 100000 in
theorem witem7 (B b : Nat) (w : World) (h : WrU B b [] false w) (hBw : B ≤ w.heap.size) : Calls Tryd.prog 35 #[.pointer (some ⟨b, 0, none⟩), p7] w fun e w' => e = .returned (.tuple #[]) ∧ Hid (WrU B b (Lib.byteCells [55]) true w' ∧ Only (fun k => B ≤ k) w w') := by
  have HV : Hid (Calls Tryd.prog 38 #[.pointer (some ⟨b, 0, none⟩), i7] (w.alloc (.cells #[i7] 45)) fun e w' => e = .returned (.tuple #[]) ∧ Hid (WrU B b (Lib.byteCells [55]) true w' ∧ Only (fun k => B ≤ k) (w.alloc (.cells #[i7] 45)) w')) := wval7 B b _ (h.alloc _) (by simp; omega)
  have hP := va_hit 45 71 _ Tryd.underlying45 (by intro m h; cases h)
  have O0 : Hid (Only (fun k => B ≤ k) w (w.alloc (.cells #[i7] 45))) := (Only.refl (fun k => B ≤ k) w).alloc _
  clear h hBw
  go_enter Tryd.func35, Tryd.ntmps35
  go_wp2_with fail
  refine (show Calls Tryd.prog 38 _ _ _ from HV.out).mono ?_
  rintro e w1 ⟨rfl, g1⟩
  clear HV
  go_wp2
  go_end0
  exact ⟨rfl, g1.out.1, O0.out.trans g1.out.2 (fun _ _ g => g)⟩
set_option maxRecDepth 100000 in
theorem witems7 (B b g : Nat) (w : World) (h : WrU B b [] false w) (hBw : B ≤ w.heap.size) (hg : w.cell? ⟨g, 0, none⟩ = some p7) : Calls Tryd.prog 32 #[.pointer (some ⟨b, 0, none⟩), .slice (some ⟨g, 0, none⟩) 1 1] w fun e w' => e = .returned (.tuple #[]) ∧ Hid (WrU B b (Lib.byteCells [55]) true w' ∧ Only (fun k => B ≤ k) w w') := by
  have HI : Hid (Calls Tryd.prog 35 #[.pointer (some ⟨b, 0, none⟩), p7] w fun e w' => e = .returned (.tuple #[]) ∧ Hid (WrU B b (Lib.byteCells [55]) true w' ∧ Only (fun k => B ≤ k) w w')) := witem7 B b w h hBw
  clear h hBw
  go_enter Tryd.func32, Tryd.ntmps32
  go_wp2
  go_loopw [8] (fun r wr => (r = .int .i64 0 ∧ wr = w) ∨ (r = .int .i64 1 ∧ Hid (WrU B b (Lib.byteCells [55]) true wr ∧ Only (fun k => B ≤ k) w wr))) (fun r _ => 1 - uOf r)
  case atStart => exact .inl ⟨rfl, rfl⟩
  case round =>
    rcases hrel with ⟨rfl, rfl⟩ | ⟨rfl, HO⟩
    · go_wp2_with fail
      refine (show Calls Tryd.prog 35 _ _ _ from HI.out).mono ?_
      rintro e w2 ⟨rfl, g2⟩
      clear HI hg
      go_wp2
      go_roundw
      case rel => exact .inr ⟨rfl, g2⟩
      case measure => simp [uOf]
    · obtain ⟨w1, rfl⟩ : ∃ w1, w1 = wr := ⟨_, rfl⟩
      go_wp2
      go_end0
      exact ⟨rfl, HO⟩
set_option maxRecDepth 100000 in
theorem text7 (g : Nat) (w : World) (hg : w.cell? ⟨g, 0, none⟩ = some p7) : Calls Tryd.prog 27 #[.slice (some ⟨g, 0, none⟩) 1 1] w fun e w' => e = .returned (.tuple #[.string ⟨#[55]⟩, .int .i64 0]) ∧ Only (fun _ => False) w w' := by
  have HS : Hid (Calls Tryd.prog 31 #[.slice (some ⟨g, 0, none⟩) 1 1] w fun e w' => e = .returned (.bool true) ∧ Only (fun _ => False) w w') := psounds7 w g hg
  have HG : Hid (w.cell? ⟨g, 0, none⟩ = some p7) := hg
  clear hg
  go_enter Tryd.func27, Tryd.ntmps27
  go_wp2_with fail
  refine (show Calls Tryd.prog 31 _ _ _ from HS.out).mono ?_
  rintro e w1 ⟨rfl, o1⟩
  have O1 : Hid (Only (fun _ => False) w w1) := o1
  obtain ⟨b, hb⟩ : ∃ b, b = w1.heap.size := ⟨_, rfl⟩
  obtain ⟨W2, hW2⟩ : ∃ W2, W2 = w1.alloc (.cells #[.pointer none, .slice none 0 0, .bool false] 107) := ⟨_, rfl⟩
  have A2 : WrU b b [] false W2 := ⟨Nat.le_refl _, .pointer none, .slice none 0 0, by rw [hW2]; exact va_at _ _ _ hb, .inl rfl, ⟨rfl, .inl ⟨rfl, rfl⟩⟩, by simp [Value.ownBlock]⟩
  have o2 : Only (fun _ => False) w1 W2 := by rw [hW2]; exact (Only.refl _ w1).alloc _
  have HI : Hid (Calls Tryd.prog 32 #[.pointer (some ⟨b, 0, none⟩), .slice (some ⟨g, 0, none⟩) 1 1] W2 fun e w' => e = .returned (.tuple #[]) ∧ Hid (WrU b b (Lib.byteCells [55]) true w' ∧ Only (fun k => b ≤ k) W2 w')) := witems7 b b g W2 A2 (by rw [hW2]; simp; omega) ((O1.out.trans o2 (fun _ _ g => g)).cell HG.out (fun h => h))
  have H2 : Hid (Only (fun _ => False) w W2 ∧ w.heap.size ≤ b) := ⟨O1.out.trans o2 (fun _ _ g => g), by rw [hb]; exact O1.out.size⟩
  clear HS o1 A2 o2 O1 HG
  go_wp2_with fail
  rw [← hb, ← hW2]
  refine (show Calls Tryd.prog 32 _ _ _ from HI.out).mono ?_
  rintro e w3 ⟨rfl, g3⟩
  have HW : Hid (Calls Tryd.prog 33 #[.pointer (some ⟨b, 0, none⟩)] w3 fun e w' => e = .returned (.tuple #[.string ⟨#[55]⟩, .int .i64 0]) ∧ Below b w3 w') := wwhole_any b b [55] true w3 g3.out.1 (by simp) (by simp)
  have O3 : Hid (Only (fun _ => False) w w3) := H2.out.1.trans g3.out.2 (fun k hk e => by have := H2.out.2; omega)
  clear HI g3 hW2 hb
  go_wp2_with fail
  refine (show Calls Tryd.prog 33 _ _ _ from HW.out).mono ?_
  rintro e w4 ⟨rfl, b4⟩
  have O4 : Hid (Only (fun _ => False) w w4) := O3.out.trans (⟨b4.os, b4.tape, b4.output, b4.size, fun k hk hn => b4.block k (by omega)⟩ : Only (fun k => b ≤ k) w3 w4) (fun k hk e => by have := H2.out.2; omega)
  clear HW b4 O3
  go_wp2
  go_ret2
  exact ⟨rfl, O4.out⟩
end Go.Proofs.YtpphabkjnfgcmaaDoor
