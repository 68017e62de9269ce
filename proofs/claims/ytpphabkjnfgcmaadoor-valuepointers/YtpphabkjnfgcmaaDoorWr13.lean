/- ValuePointers: the walk. -/
import Derived.Test.YtpphabkjnfgcmaaDoorWr12
namespace Go.Proofs.YtpphabkjnfgcmaaDoor
open Go.RowKit Go.Lib
set_option linter.unusedSimpArgs false
set_option linter.unusedVariables false
set_option maxRecDepth 100000 in
set_option maxHeartbeats 1000000 in
theorem vp_walk (n : Int) (w : World) : Calls Tryd.prog 3 #[.int .i64 n] w fun e w' => e = .returned (.bool true) ∧ Only (fun _ => False) w w' := by
  have HA : Hid (∀ w1, Calls Tryd.prog 5 #[] w1 fun e w' => e = .returned (.bool true) ∧ Only (fun _ => False) w1 w') := vawake
  have HC : Hid (∀ w1 v, BadW w1 v → Calls Tryd.prog 4 #[v] w1 fun e w' => e = .returned (.int .i64 1) ∧ Only (fun _ => False) w1 w') := fun w1 v h => check_bad v w1 h
  have HI : Hid (∀ w1 g v, BadI v → w1.cell? ⟨g, 0, none⟩ = some v → Calls Tryd.prog 6 #[.slice (some ⟨g, 0, none⟩) 1 1] w1 fun e w' => e = .returned (.int .i64 1) ∧ Only (fun _ => False) w1 w') := fun w1 g v => checkitems_bad g v w1
  go_enter Tryd.func3, Tryd.ntmps3
  go_wp2_with fail
  obtain ⟨w0, hw0⟩ : ∃ w0 : World, w0 = ((((((w.alloc (.cells #[.int .i64 n] 24)).alloc (.cells #[.string ⟨#[]⟩] 27)).alloc (.cells #[.bool false] 30)).alloc (.cells #[.slice none 0 0] 34)).alloc (.cells #[.slice none 0 0] 38)).alloc (.cells #[.int .i64 1] 41)) := ⟨_, rfl⟩
  have z0 : w0.heap.size = w.heap.size + 1 + 1 + 1 + 1 + 1 + 1 := by rw [hw0, al_size, al_size, al_size, al_size, al_size, al_size]
  have o0 : Only (fun _ => False) w w0 := by rw [hw0]; exact ((((((Only.refl (fun _ => False) w).alloc _).alloc _).alloc _).alloc _).alloc _).alloc _
  obtain ⟨G, hG⟩ : ∃ G : Nat, G = w.heap.size + 1 + 1 + 1 + 1 + 1 + 1 := ⟨_, rfl⟩
  rw [← hw0, ← hG]
  have r0 := row7_new w0 (.pointer (some ⟨w.heap.size, 0, none⟩)) (.pointer (some ⟨w.heap.size + 1, 0, none⟩)) (.pointer (some ⟨w.heap.size + 1 + 1, 0, none⟩)) (.pointer (some ⟨w.heap.size + 1 + 1 + 1, 0, none⟩)) (.pointer (some ⟨w.heap.size + 1 + 1 + 1 + 1, 0, none⟩)) (.pointer (some ⟨w.heap.size + 1 + 1 + 1 + 1 + 1, 0, none⟩))
  rw [z0, ← hG] at r0
  have HS : Hid (Only (fun _ => False) w (w0.alloc (.cells #[.nilIface, .iface 22 (.pointer (some ⟨w.heap.size, 0, none⟩)), .iface 25 (.pointer (some ⟨w.heap.size + 1, 0, none⟩)), .iface 28 (.pointer (some ⟨w.heap.size + 1 + 1, 0, none⟩)), .iface 31 (.pointer (some ⟨w.heap.size + 1 + 1 + 1, 0, none⟩)), .iface 35 (.pointer (some ⟨w.heap.size + 1 + 1 + 1 + 1, 0, none⟩)), .iface 39 (.pointer (some ⟨w.heap.size + 1 + 1 + 1 + 1 + 1, 0, none⟩))] 43)) ∧ Row7 (w0.alloc (.cells #[.nilIface, .iface 22 (.pointer (some ⟨w.heap.size, 0, none⟩)), .iface 25 (.pointer (some ⟨w.heap.size + 1, 0, none⟩)), .iface 28 (.pointer (some ⟨w.heap.size + 1 + 1, 0, none⟩)), .iface 31 (.pointer (some ⟨w.heap.size + 1 + 1 + 1, 0, none⟩)), .iface 35 (.pointer (some ⟨w.heap.size + 1 + 1 + 1 + 1, 0, none⟩)), .iface 39 (.pointer (some ⟨w.heap.size + 1 + 1 + 1 + 1 + 1, 0, none⟩))] 43)) G) := ⟨o0.alloc _, r0⟩
  clear r0 o0 z0 hw0 hG
  go_loopw [4] (fun r wr => ∃ i : Nat, r = .int .i64 (i : Int) ∧ i ≤ 7 ∧ Hid (Only (fun _ => False) w wr ∧ Row7 wr G)) (fun r _ => 7 - uOf r)
  case atStart => exact ⟨0, rfl, by omega, HS⟩
  case round =>
    obtain ⟨i, rfl, hi, HO⟩ := hrel
    clear HS
    by_cases h7 : i < 7
    · obtain ⟨v, hc, hv⟩ := HO.out.2 i h7
      have hc2 : ∀ o p, ((wr.alloc o).alloc p).cell? ⟨G, i, none⟩ = some v := fun o p => ((((Only.refl (fun _ => False) wr).alloc o).alloc p).cell hc (fun h => h))
      have hc4 : ∀ o p q r, ((((wr.alloc o).alloc p).alloc q).alloc r).cell? ⟨G, i, none⟩ = some v := fun o p q r => ((((((Only.refl (fun _ => False) wr).alloc o).alloc p).alloc q).alloc r).cell hc (fun h => h))
      have C1 : Hid (Calls Tryd.prog 4 #[v] (vpW wr v) fun e w' => e = .returned (.int .i64 1) ∧ Only (fun _ => False) (vpW wr v) w') := HC.out _ _ (.one v hv)
      have C5 : Hid (∀ w1, Only (fun _ => False) (vpW wr v) w1 → w1.cell? ⟨wr.heap.size + 1, 0, none⟩ = some (.slice (some ⟨wr.heap.size, 0, none⟩) 2 2) ∧ w1.cell? ⟨wr.heap.size + 1 + 1 + 1, 0, none⟩ = some (.slice (some ⟨wr.heap.size + 1 + 1, 0, none⟩) 1 1)) := fun w1 o => ⟨o.cell (vpW_cells wr v).2.2.1 (fun h => h), o.cell (vpW_cells wr v).2.2.2.2 (fun h => h)⟩
      have C2 : Hid (∀ w1, Only (fun _ => False) (vpW wr v) w1 → Calls Tryd.prog 4 #[.iface 34 (.agg #[.slice (some ⟨wr.heap.size, 0, none⟩) 2 2])] w1 fun e w' => e = .returned (.int .i64 1) ∧ Only (fun _ => False) w1 w') := fun w1 o => HC.out _ _ (.list _ v hv (o.cell (vpW_cells wr v).1 (fun h => h)) (o.cell (vpW_cells wr v).2.1 (fun h => h)))
      have C3 : Hid (∀ w1, Only (fun _ => False) (vpW wr v) w1 → Calls Tryd.prog 4 #[.iface 38 (.agg #[.slice (some ⟨wr.heap.size + 1 + 1, 0, none⟩) 1 1])] w1 fun e w' => e = .returned (.int .i64 1) ∧ Only (fun _ => False) w1 w') := fun w1 o => HC.out _ _ (.quot _ _ (.push v hv) (o.cell (vpW_cells wr v).2.2.2.1 (fun h => h)))
      have O0 : Hid (∀ w1, Only (fun _ => False) (vpW wr v) w1 → Only (fun _ => False) w w1 ∧ Row7 w1 G) := fun w1 o => ⟨HO.out.1.trans ((vpW_only wr v).trans o (fun _ _ g => g)) (fun _ _ g => g), HO.out.2.keep ((vpW_only wr v).trans o (fun _ _ g => g))⟩
      have hk := hv.k
      clear hv HC HI HA HO
      rcases hk with rfl | ⟨T, x, rfl⟩
      all_goals
        go_wp2_with fail
        refine (show Calls Tryd.prog 4 _ _ _ from C1.out).mono ?_
        rintro e w1 ⟨rfl, o1⟩
        obtain ⟨c5, c6⟩ := C5.out w1 o1
        have O1 : Hid _ := o1
        clear C1 o1 c6 hc hc2 hc4
        go_wp2_with fail
        refine (show Calls Tryd.prog 4 _ _ _ from C2.out _ O1.out).mono ?_
        rintro e w2 ⟨rfl, o2⟩
        have o3 := O1.out.trans o2 (fun _ _ g => g)
        obtain ⟨c5', c6⟩ := C5.out w2 o3
        have O2 : Hid _ := o3
        clear C2 O1 c5 c5' o2 o3 C5
        go_wp2_with fail
        refine (show Calls Tryd.prog 4 _ _ _ from C3.out _ O2.out).mono ?_
        rintro e w3 ⟨rfl, o3⟩
        have O3 : Hid (Only (fun _ => False) w w3 ∧ Row7 w3 G) := O0.out w3 (O2.out.trans o3 (fun _ _ g => g))
        clear C3 O2 c6 o3 O0
        go_wp2
        go_roundw
        case rel => exact ⟨i + 1, by simp, by omega, O3⟩
        case measure => simp [uOf]; omega
    · obtain rfl : i = 7 := by omega
      clear h7 hi HC
      go_wp2_with fail
      refine (show Calls Tryd.prog 5 _ _ _ from HA.out _).mono ?_
      rintro e w1 ⟨rfl, o1⟩
      have O1 : Hid (Only (fun _ => False) w w1) := HO.out.1.trans o1 (fun _ _ g => g)
      clear HA o1 HO
      go_wp2_with fail
      refine (show Calls Tryd.prog 6 _ _ _ from HI.out _ _ _ (badi_ptr (.pointer (some ⟨w1.heap.size, 0, none⟩))) (one_new _ _ _ _ (al_size _ _).symm)).mono ?_
      rintro e w2 ⟨rfl, o2⟩
      have O2 : Hid (Only (fun _ => False) w w2) := ((O1.out.alloc _).alloc _).trans o2 (fun _ _ g => g)
      clear o2 O1
      go_wp2_with fail
      refine (show Calls Tryd.prog 6 _ _ _ from HI.out _ _ _ badi_nil (one_new _ _ _ _ rfl)).mono ?_
      rintro e w3 ⟨rfl, o3⟩
      have O3 : Hid (Only (fun _ => False) w w3) := (O2.out.alloc _).trans o3 (fun _ _ g => g)
      clear o3 O2 HI
      go_wp2
      go_ret
      exact ⟨rfl, O3.out⟩
end Go.Proofs.YtpphabkjnfgcmaaDoor
