/- That the law's first look at the program comes out true; the calls on a nil disk; the walk of PagesNil. -/
import Derived.Test.YtdcflnfdaijpdaaP4
namespace Go.Proofs.Ytdcflnfdaijpdaa
open Go.RowKit
set_option linter.unusedSimpArgs false
set_option linter.unusedVariables false

theorem one_bytes (w : World) : BytesAt (w.alloc (.cells #[.int .u8 1] 5)) (.slice (some ⟨w.heap.size, 0, none⟩) 1 1) [1] := by
  refine ⟨.inr ⟨_, _, rfl, by simp, fun j hj => ?_⟩, by simp, by simp⟩
  have : j = 0 := by simp at hj; omega
  subst this
  rw [Addr.add_mid, cell_of_row _ _ _ _ _ _ (heap_alloc_new w _)]
  rfl
set_option maxRecDepth 100000 in
set_option maxHeartbeats 400000 in
/-- A program that does something. -/
theorem awake_any (w : World) : Calls Try.prog 9 #[] w fun e w' => e = .returned (.bool true) ∧ Only (fun _ => False) w w' := by
  have h1 := pack_ok 7 _ [1] _ (one_bytes w) (by simp) (by omega)
  have hg : (page 7 [1]).getD 4 0 = 7 := by
    have := page_drop 7 [1]
    have e : (page 7 [1]).getD 4 0 = ((page 7 [1]).drop 4).getD 0 0 := by simp [List.getD]
    rw [e, this]
    rfl
  have hl : (page 7 [1]).length = 128 := page_length 7 [1] (by simp)
  go_enter Try.func9, Try.ntmps9
  go_wp2_with fail
  refine h1.mono ?_
  rintro e w2 ⟨rfl, hb, ho⟩
  have HO : Hid (Only (fun _ => False) w w2) := Only.trans ((Only.refl _ w).alloc _) ho (fun _ _ e => e)
  have hc := hb.cell 4 (by omega)
  rw [hg, show (w.alloc (.cells #[.int .u8 1] 5)).heap.size = w.heap.size + 1 by simp] at hc
  clear h1 hb ho hg hl
  go_wp2
  go_ret
  exact ⟨rfl, HO.out⟩

set_option maxHeartbeats 400000 in
theorem len_nil (w : World) : Calls Try.prog 46 #[.pointer none] w fun e w' => e = .returned (.int .i64 0) ∧ w' = w := by
  go_enter Try.func46, Try.ntmps46
  go_wp2
  go_ret
  exact ⟨rfl, rfl⟩
set_option maxHeartbeats 400000 in
theorem count_nil (w : World) : Calls Try.prog 22 #[.pointer none] w fun e w' => e = .returned (.int .i64 0) ∧ w' = w := by
  go_enter Try.func22, Try.ntmps22
  go_wp2_with (go_at_call 46; refine (len_nil _).mono ?_; rintro e w' ⟨rfl, rfl⟩)
  go_ret
  exact ⟨rfl, rfl⟩
set_option maxHeartbeats 400000 in
theorem reach_nil (p : Int) (w : World) : Calls Try.prog 47 #[.pointer none, .int .i64 p] w fun e w' => e = .returned (.int .i64 2) ∧ w' = w := by
  go_enter Try.func47, Try.ntmps47
  go_wp2
  go_ret
  exact ⟨rfl, rfl⟩
set_option maxHeartbeats 400000 in
theorem write_nil (p i : Int) (v : Value) (w : World) : Calls Try.prog 25 #[.pointer none, .int .i64 p, .int .u32 i, v] w fun e w' => e = .returned (.int .i64 2) ∧ w' = w := by
  go_enter Try.func25, Try.ntmps25
  go_wp2_with (go_at_call 47; refine (reach_nil _ _).mono ?_; rintro e w' ⟨rfl, rfl⟩)
  go_ret
  exact ⟨rfl, rfl⟩
set_option maxHeartbeats 400000 in
theorem read_nil (p : Int) (w : World) : Calls Try.prog 26 #[.pointer none, .int .i64 p] w fun e w' => e = .returned (.tuple #[.int .u32 0, .slice none 0 0, .int .i64 2]) ∧ w' = w := by
  go_enter Try.func26, Try.ntmps26
  go_wp2_with (go_at_call 47; refine (reach_nil _ _).mono ?_; rintro e w' ⟨rfl, rfl⟩)
  go_ret3
  exact ⟨rfl, rfl⟩

set_option maxRecDepth 100000 in
set_option maxHeartbeats 1000000 in
theorem nil_any (p : Int) (v : Value) (D : List Nat) (w : World) (h : BytesAt w v D) :
    Calls Try.prog 8 #[.int .i64 p, v] w fun e w' => e = .returned (.bool true) ∧ Below w.heap.size w w' := by
  have HB : Hid (BytesAt w v D) := h
  clear h
  go_enter Try.func8, Try.ntmps8
  go_wp2_with fail
  refine (read_nil p w).mono ?_
  rintro e w1 ⟨rfl, rfl⟩
  go_wp2_with fail
  refine (awake_any _).mono ?_
  rintro e w2 ⟨rfl, ho⟩
  have HO2 : Hid (Only (fun _ => False) w1 w2) := ho
  clear ho
  go_wp2_with fail
  refine (count_nil _).mono ?_
  rintro e w3 ⟨rfl, rfl⟩
  go_wp2_with fail
  refine (own_any v D w3 (HB.out.frame HO2.out)).mono ?_
  rintro e w4 ⟨u, rfl, hf, ho⟩
  have HO4 : Hid (Only (fun _ => False) w1 w4) := HO2.out.trans ho (fun _ _ e => e)
  clear hf ho
  go_wp2_with fail
  refine (write_nil p 1 u w4).mono ?_
  rintro e w5 ⟨rfl, rfl⟩
  go_wp2
  go_ret
  exact ⟨rfl, HO4.out.below (fun _ h => h.elim) (Nat.le_refl _)⟩
end Go.Proofs.Ytdcflnfdaijpdaa
