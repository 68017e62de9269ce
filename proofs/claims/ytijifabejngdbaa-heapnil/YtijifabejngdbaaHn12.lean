/- The one object of a heap: where it lies, how large it is. -/
import Derived.Test.YtijifabejngdbaaHn11
namespace Go.Proofs.Ytijifabejngdbaa
open Go.RowKit
set_option linter.unusedSimpArgs false
set_option linter.unusedVariables false
set_option maxRecDepth 100000 in
theorem sizeof1 (w : World) : Calls Try.prog 75 #[.agg #[.bool false, .int .u64 1025]] w fun e w' => e = .returned (.int .i64 3) ∧ Only (fun _ => False) w w' := by
  go_enter Try.func75, Try.ntmps75
  go_wp2
  go_ret
  exact ⟨by first | rfl | kernel_rfl, (Only.refl _ w).alloc _⟩
theorem HpO.words {w : World} {h m B : Nat} {a : Option Addr} {c R K : Nat} (g : HpO w h m B a c R K) : ∃ Y, a = some ⟨Y, 0, none⟩ ∧ 3 ≤ c ∧ w.cell? ⟨Y, 0, none⟩ = some (.bool false) ∧ w.cell? ⟨Y, 1, none⟩ = some (.int .u64 1025) ∧ Nums w a 3 := by
  rcases g.row.2 with ⟨e, _⟩ | ⟨Y, cap, cur, e, hg1, hg2, hg3, _⟩
  · cases e
  · cases e
    have hc := g.row.cells (g := Y) rfl
    have q : ∀ j u, ([.bool false, .int .u64 1025] ++ zF 2)[j]? = some u → w.cell? ⟨Y, j, none⟩ = some u := fun j u hu => by
      have := hc j u hu
      rwa [addr_ad] at this
    refine ⟨Y, rfl, hg3, q 0 _ rfl, q 1 _ rfl, fun j hj => ?_⟩
    rcases (by omega : j = 0 ∨ j = 1 ∨ j = 2) with rfl | rfl | rfl
    · exact ⟨Y, 0, 1025, rfl, q 0 _ rfl, q 1 _ rfl⟩
    · exact ⟨Y, 0, 0, rfl, q 2 _ (by kernel_rfl), q 3 _ (by kernel_rfl)⟩
    · exact ⟨Y, 0, 0, rfl, q 4 _ (by kernel_rfl), q 5 _ (by kernel_rfl)⟩
set_option maxRecDepth 100000 in
set_option maxHeartbeats 8000000 in
theorem at1 (h m B : Nat) (a : Option Addr) (c R K : Nat) (w : World) (hO : HpO w h m B a c R K) :
    Calls Try.prog 48 #[.pointer (some ⟨h, 0, none⟩), .int .u64 0] w fun e w' => e = .returned (.slice a 3 c) ∧ Only (fun _ => False) w w' := by
  obtain ⟨Y, rfl, hc, y0, y1, _⟩ := hO.words
  obtain ⟨c0, c1, c2, c3, c4⟩ := hO.hp.cells
  have HY := yfrom_any h none 0 0 (by omega) w c0
  have HZ := sizeof1
  have hw0 : IntKind.u64.wrap 0 = 0 := by decide
  clear hO c2 c3 c4
  go_enter Try.func48, Try.ntmps48
  go_wp2_with (go_at_call 74; refine HY.mono ?_; rintro e w1 ⟨rfl, hq⟩; rw [hq]; clear hq)
  go_region_with (go_at_call 75; refine (show Calls Try.prog 75 _ _ _ from HZ _).mono ?_; rintro e w2 ⟨rfl, o2⟩; have O2 : Hid (Only (fun _ => False) w w2) := (Only.trans (show Only (fun _ => False) w _ by repeat' first | exact Only.refl _ _ | apply Only.alloc | apply Only.drew) o2 (fun _ _ g => g)))
  all_goals
    go_wp2
    go_ret
    exact ⟨rfl, O2.out⟩
end Go.Proofs.Ytijifabejngdbaa
