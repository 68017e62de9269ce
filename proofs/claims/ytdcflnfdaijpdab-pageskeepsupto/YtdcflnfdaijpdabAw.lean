/- That the law's first look at the program comes out true; the calls on a nil disk; the walk of PagesNil. -/
import Derived.Test.YtdcflnfdaijpdabP4
namespace Go.Proofs.Ytdcflnfdaijpdab
open Go.RowKit
set_option linter.unusedSimpArgs false
set_option linter.unusedVariables false

theorem one_bytes (w : World) : BytesAt (w.alloc (.cells #[.int .u8 1] 5)) (.slice (some ⟨w.heap.size, 0, none⟩) 1 1) [1] := by
  refine ⟨.inr ⟨_, _, rfl, by simp, fun j hj => ?_⟩, by simp, by simp⟩
  have : j = 0 := by simp at hj; omega
  subst this
  rw [Addr.add_mid, cell_of_row _ _ _ _ _ _ (heap_alloc_new w _)]
  rfl
set_option maxRecDepth 100000 in
set_option maxHeartbeats 400000 in
/-- A program that does something. -/
theorem awake_any (w : World) : Calls Try.prog 4 #[] w fun e w' => e = .returned (.bool true) ∧ Only (fun _ => False) w w' := by
  have h1 := pack_ok 7 _ [1] _ (one_bytes w) (by simp) (by omega)
  have hg : (page 7 [1]).getD 4 0 = 7 := by
    have := page_drop 7 [1]
    have e : (page 7 [1]).getD 4 0 = ((page 7 [1]).drop 4).getD 0 0 := by simp [List.getD]
    rw [e, this]
    rfl
  have hl : (page 7 [1]).length = 128 := page_length 7 [1] (by simp)
  go_enter Try.func4, Try.ntmps4
  go_wp2_with fail
  refine h1.mono ?_
  rintro e w2 ⟨rfl, hb, ho⟩
  have HO : Hid (Only (fun _ => False) w w2) := Only.trans ((Only.refl _ w).alloc _) ho (fun _ _ e => e)
  have hc := hb.cell 4 (by omega)
  rw [hg, show (w.alloc (.cells #[.int .u8 1] 5)).heap.size = w.heap.size + 1 by simp] at hc
  clear h1 hb ho hg hl
  go_wp2
  go_ret
  exact ⟨rfl, HO.out⟩

end Go.Proofs.Ytdcflnfdaijpdab
