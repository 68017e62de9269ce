/- A new heap: its young objects that are reached, their size, names. -/
import Derived.Test.YtijifabejngdbaaHn6
namespace Go.Proofs.Ytijifabejngdbaa
open Go.RowKit
set_option linter.unusedSimpArgs false
set_option linter.unusedVariables false
theorem size0 (h : Nat) (w : World) : Calls Try.prog 45 #[.pointer (some ⟨h, 0, none⟩), .slice none 0 0] w fun e w' => e = .returned (.int .i64 0) ∧ w' = w := by
  go_enter Try.func45, Try.ntmps45
  go_wp2
  go_loopw [10, 5] (fun r s wr => r = .int .i64 0 ∧ s = .int .i64 0 ∧ wr = w) (fun _ _ _ => 0)
  case atStart => exact ⟨rfl, rfl, rfl⟩
  case round =>
    obtain ⟨rfl, rfl, rfl⟩ := hrel
    go_wp2
    go_ret
    exact ⟨rfl, rfl⟩
theorem rename0 (a : Option Addr) (c : Nat) (m : Value) (w : World) : Calls Try.prog 49 #[.slice a 0 c, m] w fun e w' => e = .returned (.tuple #[]) ∧ w' = w := by
  go_enter Try.func49, Try.ntmps49
  go_wp2
  go_loopw [10] (fun r wr => r = .int .i64 0 ∧ wr = w) (fun _ _ => 0)
  case atStart => exact ⟨rfl, rfl⟩
  case round =>
    obtain ⟨rfl, rfl⟩ := hrel
    go_wp2
    go_end0
    exact ⟨rfl, rfl⟩
theorem two_nil (W : World) : (Instr.buildSlice 110 2 #[(0, .slice none 0 0), (1, .slice none 0 0)]).run Try.prog W = .ok (.slice (some ⟨W.heap.size, 0, none⟩) 2 2) (W.alloc (.cells #[.slice none 0 0, .slice none 0 0] 50)) := by kernel_rfl
set_option maxRecDepth 100000 in
set_option maxHeartbeats 8000000 in
theorem yreach0 (h m : Nat) (w : World) (hE : HpE w h m (.slice none 0 0) (.slice none 0 0) (.slice none 0 0)) :
    Calls Try.prog 51 #[.pointer (some ⟨h, 0, none⟩)] w fun e w' => e = .returned (.slice none 0 0) ∧ Only (fun _ => False) w w' := by
  have HK := keys_call m
  obtain ⟨c0, c1, c2, c3, c4⟩ := hE.cells
  have HE : Hid (HpE w h m (.slice none 0 0) (.slice none 0 0) (.slice none 0 0)) := hE
  have HS : Hid (Calls Try.prog 76 #[.func (.func 91) #[] #[.pointer (some ⟨w.heap.size, 0, none⟩)]] (w.alloc (.cells #[.map (some m)] 66)) fun e w' => e = .returned (.slice none 0 0) ∧ Only (fun _ => False) (w.alloc (.cells #[.map (some m)] 66)) w') := by
    obtain ⟨c, hc⟩ := hE.mb
    exact sorted_none w.heap.size m c _ (hb_cell (alloc_at _ _ _ rfl) 0) (((Only.refl _ w).alloc _).at hc)
  clear hE
  go_enter Try.func51, Try.ntmps51
  go_wp2_with (go_at_call 77; refine (HK _).mono ?_; rintro e w' ⟨rfl, rfl⟩)
  refine (show Calls Try.prog 76 _ _ _ from HS.out).mono ?_
  rintro e w1 ⟨rfl, o1⟩
  have O1 : Hid (Only (fun _ => False) w w1) := ((Only.refl _ w).alloc _).trans o1 (fun _ _ g => g)
  clear HS o1 HK c0 c1 c2 c3 c4
  go_wp2
  go_loopw [14, 3] (fun r s wr => r = .int .i64 0 ∧ s = .slice none 0 0 ∧ wr = w1) (fun _ _ _ => 0)
  case atStart => exact ⟨rfl, rfl, rfl⟩
  case round =>
    obtain ⟨rfl, rfl, rfl⟩ := hrel
    have E1 := HE.out.only O1.out
    obtain ⟨c0, c1, c2, c3, c4⟩ := E1.cells
    have HY : Hid (∀ W, Only (fun _ => False) wr W → Calls Try.prog 74 #[.pointer (some ⟨h, 0, none⟩)] W fun e w' => e = .returned (.int .u64 0) ∧ w' = W) := fun W o => yfrom_any h none 0 0 (by omega) W (o.cell c0 (fun g => g))
    have c4A : ∀ x, (wr.alloc x).cell? ⟨h, 4, none⟩ = some (.slice none 0 0) := fun x => ((Only.refl (fun _ => False) wr).alloc x).cell c4 (fun g => g)
    have h2 := two_nil
    have HR : Hid (∀ X, Only (fun _ => False) wr X → X.heap[wr.heap.size]? = some (.cells #[.slice none 0 0, .slice none 0 0] 50) → Calls Try.prog 46 #[.pointer (some ⟨h, 0, none⟩), .int .u64 0, .slice (some ⟨wr.heap.size, 0, none⟩) 2 2] X fun e w' => e = .returned (.slice none 0 0) ∧ Only (fun _ => False) wr w') := by
      intro X o hX
      refine (reach0 h (some ⟨wr.heap.size, 0, none⟩) 2 2 (by omega) _ (o.cell c0 (fun g => g)) (o.cell c1 (fun g => g)) (fun j hj => ⟨_, rfl, ?_⟩)).mono fun e w' ⟨he, ho⟩ => ⟨he, o.trans ho (fun _ _ g => g)⟩
      rw [hb_cell hX]
      rcases (by omega : j = 0 ∨ j = 1) with rfl | rfl <;> rfl
    clear c0 c1 c2 c3 E1
    go_wp2_with fail
    go_region_with (first
      | (go_at_call 74; refine (show Calls Try.prog 74 _ _ _ from HY.out _ (by repeat' first | exact Only.refl _ _ | apply Only.alloc | apply Only.drew)).mono ?_; rintro e w2 ⟨rfl, rfl⟩)
      | (go_at_call 46; refine (show Calls Try.prog 46 _ _ _ from HR.out _ (by repeat' first | exact Only.refl _ _ | apply Only.drew | apply Only.alloc) (by exact alloc_at wr _ _ rfl)).mono ?_; rintro e w3 ⟨rfl, o3⟩))
    all_goals
      have O3 : Hid (Only (fun _ => False) w w3) := O1.out.trans o3 (fun _ _ g => g)
      go_wp2
      go_ret
      exact ⟨rfl, O3.out⟩
end Go.Proofs.Ytijifabejngdbaa
