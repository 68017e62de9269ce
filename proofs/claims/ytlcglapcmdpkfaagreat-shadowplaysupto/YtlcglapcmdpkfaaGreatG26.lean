import Derived.Test.YtlcglapcmdpkfaaGreatN1
namespace Go.Proofs.YtlcglapcmdpkfaaGreat
open Go.RowKit Go.Maps
set_option linter.unusedSimpArgs false
set_option linter.unusedVariables false
set_option maxRecDepth 100000 in
set_option maxHeartbeats 400000 in
theorem sreach_dead (s : Nat) (i : Int) (w : World) (h : w.cell? ⟨s, 0, none⟩ = some (.pointer none)) : Calls Tryz.prog 32 #[.pointer (some ⟨s, 0, none⟩), .int .i64 i] w fun e w' => e = .returned (.int .i64 3) ∧ w' = w := by
 go_enter Tryz.func32, Tryz.ntmps32
 go_wp2_with (go_at_call 35; refine (usable_dead s _ h).mono ?_; rintro e w' ⟨rfl, rfl⟩)
 go_ret
 exact ⟨rfl, rfl⟩
set_option maxRecDepth 100000 in
set_option maxHeartbeats 400000 in
theorem holds_dead (s : Nat) (i : Int) (w : World) (h : w.cell? ⟨s, 0, none⟩ = some (.pointer none)) : Calls Tryz.prog 34 #[.pointer (some ⟨s, 0, none⟩), .int .i64 i] w fun e w' => e = .returned (.int .i64 3) ∧ w' = w := by
 go_enter Tryz.func34, Tryz.ntmps34
 go_wp2_with (go_at_call 32; refine (sreach_dead s _ _ h).mono ?_; rintro e w' ⟨rfl, rfl⟩)
 go_ret
 exact ⟨rfl, rfl⟩
set_option maxRecDepth 100000 in
set_option maxHeartbeats 400000 in
theorem get_dead (s : Nat) (i : Int) (w : World) (h : w.cell? ⟨s, 0, none⟩ = some (.pointer none)) : Calls Tryz.prog 13 #[.pointer (some ⟨s, 0, none⟩), .int .i64 i] w fun e w' => e = .returned (.tuple #[.slice none 0 0, .int .i64 3]) ∧ w' = w := by
 go_enter Tryz.func13, Tryz.ntmps13
 go_wp2_with (go_at_call 34; refine (holds_dead s _ _ h).mono ?_; rintro e w' ⟨rfl, rfl⟩)
 go_ret2
 exact ⟨rfl, rfl⟩
set_option maxRecDepth 100000 in
set_option maxHeartbeats 400000 in
theorem put_dead (s : Nat) (i : Int) (v : Value) (w : World) (h : w.cell? ⟨s, 0, none⟩ = some (.pointer none)) : Calls Tryz.prog 12 #[.pointer (some ⟨s, 0, none⟩), .int .i64 i, v] w fun e w' => e = .returned (.int .i64 3) ∧ w' = w := by
 go_enter Tryz.func12, Tryz.ntmps12
 go_wp2_with (go_at_call 32; refine (sreach_dead s _ _ h).mono ?_; rintro e w' ⟨rfl, rfl⟩)
 go_ret
 exact ⟨rfl, rfl⟩
set_option maxRecDepth 100000 in
set_option maxHeartbeats 400000 in
theorem drop_dead (s : Nat) (i : Int) (w : World) (h : w.cell? ⟨s, 0, none⟩ = some (.pointer none)) : Calls Tryz.prog 18 #[.pointer (some ⟨s, 0, none⟩), .int .i64 i] w fun e w' => e = .returned (.int .i64 3) ∧ w' = w := by
 go_enter Tryz.func18, Tryz.ntmps18
 go_wp2_with (go_at_call 34; refine (holds_dead s _ _ h).mono ?_; rintro e w' ⟨rfl, rfl⟩)
 go_ret
 exact ⟨rfl, rfl⟩
set_option maxRecDepth 100000 in
set_option maxHeartbeats 400000 in
theorem commit_dead (s : Nat) (w : World) (h : w.cell? ⟨s, 0, none⟩ = some (.pointer none)) : Calls Tryz.prog 20 #[.pointer (some ⟨s, 0, none⟩)] w fun e w' => e = .returned (.int .i64 3) ∧ w' = w := by
 go_enter Tryz.func20, Tryz.ntmps20
 go_wp2_with (go_at_call 35; refine (usable_dead s _ h).mono ?_; rintro e w' ⟨rfl, rfl⟩)
 go_ret
 exact ⟨rfl, rfl⟩
set_option maxRecDepth 100000 in
set_option maxHeartbeats 400000 in
theorem roll_dead (s : Nat) (w : World) (h : w.cell? ⟨s, 0, none⟩ = some (.pointer none)) : Calls Tryz.prog 23 #[.pointer (some ⟨s, 0, none⟩)] w fun e w' => e = .returned (.int .i64 3) ∧ w' = w := by
 go_enter Tryz.func23, Tryz.ntmps23
 go_wp2_with (go_at_call 35; refine (usable_dead s _ h).mono ?_; rintro e w' ⟨rfl, rfl⟩)
 go_ret
 exact ⟨rfl, rfl⟩
set_option maxRecDepth 100000 in
set_option maxHeartbeats 400000 in
theorem epoch_dead (s : Nat) (w : World) (h : w.cell? ⟨s, 0, none⟩ = some (.pointer none)) : Calls Tryz.prog 14 #[.pointer (some ⟨s, 0, none⟩)] w fun e w' => e = .returned (.int .u64 0) ∧ w' = w := by
 go_enter Tryz.func14, Tryz.ntmps14
 go_wp2_with (go_at_call 35; refine (usable_dead s _ h).mono ?_; rintro e w' ⟨rfl, rfl⟩)
 go_ret
 exact ⟨rfl, rfl⟩
set_option maxRecDepth 100000 in
set_option maxHeartbeats 400000 in
theorem room_dead (s : Nat) (w : World) (h : w.cell? ⟨s, 0, none⟩ = some (.pointer none)) : Calls Tryz.prog 47 #[.pointer (some ⟨s, 0, none⟩)] w fun e w' => e = .returned (.tuple #[.int .i64 0, .int .i64 0]) ∧ w' = w := by
 go_enter Tryz.func47, Tryz.ntmps47
 go_wp2_with (go_at_call 35; refine (usable_dead s _ h).mono ?_; rintro e w' ⟨rfl, rfl⟩)
 go_ret2
 exact ⟨rfl, rfl⟩
set_option maxRecDepth 100000 in
set_option maxHeartbeats 400000 in
theorem pages_dead (s : Nat) (w : World) (h : w.cell? ⟨s, 0, none⟩ = some (.pointer none)) : Calls Tryz.prog 77 #[.pointer (some ⟨s, 0, none⟩)] w (PagesIs [] w) := by
 have HV : ∀ w, Calls Tryz.prog 102 #[.slice none 0 0] w _ := fun w => (callsIn_wide (n := 5)).1 (values_in 5 none 0 0 w)
 go_enter Tryz.func77, Tryz.ntmps77
 go_wp2_with (first | (go_at_call 35; refine (usable_dead s _ h).mono ?_; rintro e w' ⟨rfl, rfl⟩) | (go_at_call 102; refine (HV _).mono ?_; rintro e w1 ⟨rfl, rfl⟩))
 go_ret
 exact ⟨_, w'.heap.size, _, rfl, (Boxed.new _ _ _).cell, .inl ⟨rfl, rfl⟩, by simp, (Only.refl _ _).alloc _⟩
theorem listed_dead (s : Nat) (w : World) (h : w.cell? ⟨s, 0, none⟩ = some (.pointer none)) : Calls Tryz.prog 49 #[.pointer (some ⟨s, 0, none⟩)] w fun e w' => ∃ a c, e = .returned (.tuple #[.slice a 0 c, .bool true]) ∧ Only (fun _ => False) w w' := by
 refine (callsIn_wide (n := 6)).1 ((listed_core [] (by simp) (some ⟨s, 0, none⟩) w (fun w1 ho => (callsIn_wide (n := 5)).2 (pages_dead s w1 (ho.cell h (fun e => e))))).mono ?_)
 rintro e w' ⟨v, rfl, h, ho⟩
 obtain ⟨a, c, rfl⟩ := ownsRow_slice h
 exact ⟨a, c, rfl, ho⟩
end Go.Proofs.YtlcglapcmdpkfaaGreat
