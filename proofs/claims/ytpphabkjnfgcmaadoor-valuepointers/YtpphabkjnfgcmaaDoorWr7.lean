/- The measure of values: a list of two, a quotation of one. -/
import Derived.Test.YtpphabkjnfgcmaaDoorWr6
namespace Go.Proofs.YtpphabkjnfgcmaaDoor
open Go.RowKit Go.Lib
set_option linter.unusedSimpArgs false
set_option linter.unusedVariables false
abbrev i1v : Value := .iface 24 (.agg #[.int .i64 1])
set_option maxRecDepth 100000 in
theorem vevery_bad (v : Value) (hv : BadV v) (M g : Nat) (k d : Int) (w : World) (h : VmB w M k d) (h1 : 0 ≤ k) (h2 : k < 900) (hgM : g ≠ M) (hg0 : w.cell? ⟨g, 0, none⟩ = some i1v) (hg1 : w.cell? ⟨g, 1, none⟩ = some v) : Calls Tryd.prog 14 #[.slice (some ⟨g, 0, none⟩) 2 2, .func (.func 9) #[.pointer (some ⟨M, 0, none⟩)] #[], .int .i64 1] w fun e w' => e = .returned (.bool false) ∧ Only (fun b => b = M) w w' := by
  have HI : Hid (∀ w1 k d, VmB w1 M k d → 0 ≤ k → k < 1000 → Calls Tryd.prog 9 #[.pointer (some ⟨M, 0, none⟩), i1v, .int .i64 1] w1 fun e w' => e = .returned (.bool true) ∧ Only (fun b => b = M) w1 w' ∧ VmB w' M (k + 1) d) := fun w1 k d => vval_int 1 (by omega) (by omega) M k d 1 w1
  have HV : Hid (∀ w1 k d, VmB w1 M k d → 0 ≤ k → k < 1000 → Calls Tryd.prog 9 #[.pointer (some ⟨M, 0, none⟩), v, .int .i64 1] w1 fun e w' => e = .returned (.bool false) ∧ Only (fun b => b = M) w1 w') := fun w1 k d => vval_bad v hv M k d 1 w1
  have HM : Hid (VmB w M k d) := h
  clear h hv
  go_enter Tryd.func14, Tryd.ntmps14
  go_wp2
  go_loopw [11] (fun r wr => ∃ i : Int, r = .int .i64 i ∧ ((i = 0 ∧ Hid (wr = w)) ∨ (i = 1 ∧ Hid (Only (fun b => b = M) w wr ∧ VmB wr M (k + 1) d)))) (fun r _ => 1 - uOf r)
  case atStart => exact ⟨0, rfl, .inl ⟨rfl, rfl⟩⟩
  case round =>
    obtain ⟨i, rfl, hi⟩ := hrel
    rcases hi with ⟨rfl, HW⟩ | ⟨rfl, HO⟩
    · obtain rfl := HW.out
      go_wp2_with fail
      refine (show Calls Tryd.prog 9 _ _ _ from HI.out _ _ _ HM.out h1 (by omega)).mono ?_
      rintro e w2 ⟨rfl, o2⟩
      have O2 : Hid (Only (fun b => b = M) wr w2 ∧ VmB w2 M (k + 1) d) := o2
      clear HI o2 HV HM hg0 hg1 HW
      go_wp2
      go_roundw
      case rel => exact ⟨1, rfl, .inr ⟨rfl, O2⟩⟩
      case measure => simp [uOf]
    · have hg2 := HO.out.1.cell hg1 (fun h => hgM h)
      have i2 : (0 : Int) ≤ k + 1 := by omega
      have i3 : k + 1 < 1000 := by omega
      clear hg0 hg1
      go_wp2_with fail
      refine (show Calls Tryd.prog 9 _ _ _ from HV.out _ _ _ HO.out.2 i2 i3).mono ?_
      rintro e w2 ⟨rfl, o2⟩
      have O2 : Hid (Only (fun b => b = M) w w2) := HO.out.1.trans o2 (fun _ _ g => g)
      clear o2 HI HV HM
      go_wp2
      go_ret
      exact ⟨rfl, O2.out⟩
end Go.Proofs.YtpphabkjnfgcmaaDoor
