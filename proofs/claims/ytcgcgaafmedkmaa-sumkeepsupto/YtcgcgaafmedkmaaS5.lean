/- That the law's first look at the program comes out true. -/
import Derived.Test.YtcgcgaafmedkmaaS4
namespace Go.Proofs.Ytcgcgaafmedkmaa
open Go.RowKit
set_option linter.unusedSimpArgs false
set_option linter.unusedVariables false

theorem one_bytes (w : World) : BytesAt (w.alloc (.cells #[.int .u8 1] 5)) (.slice (some ⟨w.heap.size, 0, none⟩) 1 1) [1] := by
  refine ⟨.inr ⟨_, _, rfl, by simp, fun j hj => ?_⟩, by simp, by simp⟩
  have : j = 0 := by simp at hj; omega
  subst this
  rw [Addr.add_mid, cell_of_row _ _ _ _ _ _ (heap_alloc_new w _)]
  rfl
theorem num300 : (num (300 % 9223372036854775808)).length = 2 := by
  rw [show 300 % 9223372036854775808 = 300 from rfl, num_big (by omega), num_small (by omega)]
  rfl
set_option maxHeartbeats 400000 in
/-- A program that does something. -/
theorem awake_any (w : World) : Calls Try.prog 9 #[] w fun e w' => e = .returned (.bool true) ∧ Only (fun _ => False) w w' := by
  obtain ⟨x, hx⟩ : ∃ x, x = sumN [1] := ⟨_, rfl⟩
  have h1 : ∀ w : World, Calls Try.prog 10 #[.slice (some ⟨w.heap.size, 0, none⟩) 1 1] (w.alloc (.cells #[.int .u8 1] 5)) fun e w' => e = .returned (.int .u32 (x : Nat)) ∧ w' = w.alloc (.cells #[.int .u8 1] 5) := fun w => by rw [hx]; exact sum_any _ [1] _ (one_bytes w)
  have h2 : ∀ w : World, Calls Try.prog 12 #[.slice (some ⟨w.heap.size + 1, 0, none⟩) 1 1] ((w.alloc (.cells #[.int .u8 1] 5)).alloc (.cells #[.int .u8 1] 5)) fun e w' => e = .returned (.int .u32 (x : Nat)) ∧ w' = (w.alloc (.cells #[.int .u8 1] 5)).alloc (.cells #[.int .u8 1] 5) := fun w => by
    rw [hx]
    have := rsum_any _ [1] _ (one_bytes (w.alloc (.cells #[.int .u8 1] 5)))
    rwa [show (w.alloc (.cells #[.int .u8 1] 5)).heap.size = w.heap.size + 1 by simp] at this
  clear hx
  go_enter Try.func9, Try.ntmps9
  go_wp2_with fail
  refine (h1 w).mono ?_
  rintro e w1 ⟨rfl, rfl⟩
  go_wp2_with fail
  refine (h2 w).mono ?_
  rintro e w2 ⟨rfl, rfl⟩
  go_wp2_with fail
  refine (number_any 300 _ (by omega)).mono ?_
  rintro e w3 ⟨u, rfl, hf, ho⟩
  have HO : Hid (Only (fun _ => False) w w3) := Only.trans (((Only.refl _ w).alloc _).alloc _) ho (fun _ _ e => e)
  obtain ⟨a, c, rfl⟩ := hf.form
  have hl := num300
  clear hf ho
  go_wp2
  go_ret
  exact ⟨rfl, HO.out⟩
end Go.Proofs.Ytcgcgaafmedkmaa
