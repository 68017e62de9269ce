/- One call of a script on both disks. -/
import Derived.Test.YtaeghpfncfkgfaaT29
import Derived.BigQuiet
import Derived.OpenShut
namespace Go.Proofs.Ytaeghpfncfkgfaa
open Go.RowKit
set_option linter.unusedSimpArgs false
set_option linter.unusedVariables false

theorem Both.atX {w0 w : World} {p S : Nat} {pv : Value} {r K : Nat} {rv : Value} {rs : List RW} {d : DS} {X : Nat} (h : Both w0 w p S pv r K rv rs d X) (Y : Nat) (hY : w.heap.size ≤ Y) : Both w0 w p S pv r K rv rs d Y :=
  ⟨h.disk, h.ref, h.good, h.sep, h.only, fun e => by have := (h.disk.lt Y e).2; omega, fun e => by have := (h.ref.lt Y e).2; omega⟩
set_option maxRecDepth 100000 in
set_option maxHeartbeats 4000000 in
theorem step_read {w0 w : World} {p S : Nat} {pv : Value} {r K : Nat} {rv : Value} {rs : List RW} {d : DS} {X : Nat} (h : Both w0 w p S pv r K rv rs d X) (hby : (d.pend.length + 1) * 72 ≤ 140737488355328) (s n cut : Int) (odd : Bool) (vb vk : Value) :
    Calls Try.prog 13 #[.pointer (some ⟨p, 0, none⟩), .pointer (some ⟨r, 0, none⟩), .agg #[.int .i64 1, .int .i64 s, .int .i64 n, .int .i64 cut, .bool odd, vb, vk]] w fun e w' => e = .returned (.bool true) ∧ Hid (Next w0 w' p S r K d) := by
  obtain ⟨wx, hwx⟩ : ∃ q, q = w.alloc (.cells #[.int .i64 1, .int .i64 s, .int .i64 n, .int .i64 cut, .bool odd, vb, vk] 34) := ⟨_, rfl⟩
  obtain ⟨Bx, hBx⟩ : ∃ q, q = w.heap.size := ⟨_, rfl⟩
  have oX : Only (fun _ => False) w wx := by rw [hwx]; exact (Only.refl _ w).alloc _
  have bX : wx.heap[Bx]? = some (.cells #[.int .i64 1, .int .i64 s, .int .i64 n, .int .i64 cut, .bool odd, vb, vk] 34 (0, 0)) := by rw [hwx, hBx]; exact heap_alloc_new w _
  have x0 : wx.cell? ⟨Bx, 0, none⟩ = some (.int .i64 1) := by rw [cell_of_row _ _ _ _ _ _ bX]; rfl
  have x1 : wx.cell? ⟨Bx, 1, none⟩ = some (.int .i64 s) := by rw [cell_of_row _ _ _ _ _ _ bX]; rfl
  have x2 : wx.cell? ⟨Bx, 2, none⟩ = some (.int .i64 n) := by rw [cell_of_row _ _ _ _ _ _ bX]; rfl
  have x3 : wx.cell? ⟨Bx, 3, none⟩ = some (.int .i64 cut) := by rw [cell_of_row _ _ _ _ _ _ bX]; rfl
  have x4 : wx.cell? ⟨Bx, 4, none⟩ = some (.bool odd) := by rw [cell_of_row _ _ _ _ _ _ bX]; rfl
  have x5 : wx.cell? ⟨Bx, 5, none⟩ = some (vb) := by rw [cell_of_row _ _ _ _ _ _ bX]; rfl
  have x6 : wx.cell? ⟨Bx, 6, none⟩ = some (vk) := by rw [cell_of_row _ _ _ _ _ _ bX]; rfl
  have HB : Hid (Both w0 wx p S pv r K rv rs d Bx) := (h.atX Bx (by omega)).frame oX
  have HW : Hid (wx = w.alloc (.cells #[.int .i64 1, .int .i64 s, .int .i64 n, .int .i64 cut, .bool odd, vb, vk] 34)) := hwx
  have HX : Hid (Bx = w.heap.size) := hBx
  have hBl : Bx < wx.heap.size := by rw [hwx, hBx]; simp
  clear hwx hBx oX bX h
  go_enter Try.func13, Try.ntmps13
  go_wp2_with fail
  rw [← HW.out, ← HX.out]
  refine (both_read HB.out (by omega) s).mono ?_
  rintro e w1 ⟨a, m, c, q, rfl, HK1, HC1⟩
  have y1 := HK1.out 1 _ x1
  clear x0 x1 x2 x3 x4 x5 x6
  go_wp2_with fail
  refine HC1.out.mono ?_
  rintro e w2 ⟨a2, c2, rfl, HC2⟩
  clear y1 HC1
  go_wp2_with fail
  refine HC2.out.mono ?_
  rintro e w3 ⟨rfl, HN⟩
  clear HC2
  go_wp2
  go_ret
  exact ⟨rfl, HN⟩
set_option maxRecDepth 100000 in
set_option maxHeartbeats 4000000 in
theorem step_barrier {w0 w : World} {p S : Nat} {pv : Value} {r K : Nat} {rv : Value} {rs : List RW} {d : DS} {X : Nat} (h : Both w0 w p S pv r K rv rs d X) (hby : (d.pend.length + 1) * 72 ≤ 140737488355328) (s n cut : Int) (odd : Bool) (vb vk : Value) :
    Calls Try.prog 13 #[.pointer (some ⟨p, 0, none⟩), .pointer (some ⟨r, 0, none⟩), .agg #[.int .i64 2, .int .i64 s, .int .i64 n, .int .i64 cut, .bool odd, vb, vk]] w fun e w' => e = .returned (.bool true) ∧ Hid (Next w0 w' p S r K d) := by
  obtain ⟨wx, hwx⟩ : ∃ q, q = w.alloc (.cells #[.int .i64 2, .int .i64 s, .int .i64 n, .int .i64 cut, .bool odd, vb, vk] 34) := ⟨_, rfl⟩
  obtain ⟨Bx, hBx⟩ : ∃ q, q = w.heap.size := ⟨_, rfl⟩
  have oX : Only (fun _ => False) w wx := by rw [hwx]; exact (Only.refl _ w).alloc _
  have bX : wx.heap[Bx]? = some (.cells #[.int .i64 2, .int .i64 s, .int .i64 n, .int .i64 cut, .bool odd, vb, vk] 34 (0, 0)) := by rw [hwx, hBx]; exact heap_alloc_new w _
  have x0 : wx.cell? ⟨Bx, 0, none⟩ = some (.int .i64 2) := by rw [cell_of_row _ _ _ _ _ _ bX]; rfl
  have x1 : wx.cell? ⟨Bx, 1, none⟩ = some (.int .i64 s) := by rw [cell_of_row _ _ _ _ _ _ bX]; rfl
  have x2 : wx.cell? ⟨Bx, 2, none⟩ = some (.int .i64 n) := by rw [cell_of_row _ _ _ _ _ _ bX]; rfl
  have x3 : wx.cell? ⟨Bx, 3, none⟩ = some (.int .i64 cut) := by rw [cell_of_row _ _ _ _ _ _ bX]; rfl
  have x4 : wx.cell? ⟨Bx, 4, none⟩ = some (.bool odd) := by rw [cell_of_row _ _ _ _ _ _ bX]; rfl
  have x5 : wx.cell? ⟨Bx, 5, none⟩ = some (vb) := by rw [cell_of_row _ _ _ _ _ _ bX]; rfl
  have x6 : wx.cell? ⟨Bx, 6, none⟩ = some (vk) := by rw [cell_of_row _ _ _ _ _ _ bX]; rfl
  have HB : Hid (Both w0 wx p S pv r K rv rs d Bx) := (h.atX Bx (by omega)).frame oX
  have HW : Hid (wx = w.alloc (.cells #[.int .i64 2, .int .i64 s, .int .i64 n, .int .i64 cut, .bool odd, vb, vk] 34)) := hwx
  have HX : Hid (Bx = w.heap.size) := hBx
  have hBl : Bx < wx.heap.size := by rw [hwx, hBx]; simp
  clear hwx hBx oX bX h
  go_enter Try.func13, Try.ntmps13
  go_wp2_with fail
  rw [← HW.out, ← HX.out]
  refine (both_barrier HB.out (by omega)).mono ?_
  rintro e w1 ⟨q, rfl, HC1⟩
  clear x0 x1 x2 x3 x4 x5 x6
  go_wp2_with fail
  refine HC1.out.mono ?_
  rintro e w2 ⟨rfl, HN⟩
  clear HC1
  go_wp2
  go_ret
  exact ⟨rfl, HN⟩
set_option maxRecDepth 100000 in
set_option maxHeartbeats 4000000 in
theorem step_live {w0 w : World} {p S : Nat} {pv : Value} {r K : Nat} {rv : Value} {rs : List RW} {d : DS} {X : Nat} (h : Both w0 w p S pv r K rv rs d X) (hby : (d.pend.length + 1) * 72 ≤ 140737488355328) (s n cut : Int) (odd : Bool) (vb vk : Value) (hn : n ≤ 9223372036854775807) :
    Calls Try.prog 13 #[.pointer (some ⟨p, 0, none⟩), .pointer (some ⟨r, 0, none⟩), .agg #[.int .i64 4, .int .i64 s, .int .i64 n, .int .i64 cut, .bool odd, vb, vk]] w fun e w' => e = .returned (.bool true) ∧ Hid (Next w0 w' p S r K d) := by
  obtain ⟨wx, hwx⟩ : ∃ q, q = w.alloc (.cells #[.int .i64 4, .int .i64 s, .int .i64 n, .int .i64 cut, .bool odd, vb, vk] 34) := ⟨_, rfl⟩
  obtain ⟨Bx, hBx⟩ : ∃ q, q = w.heap.size := ⟨_, rfl⟩
  have oX : Only (fun _ => False) w wx := by rw [hwx]; exact (Only.refl _ w).alloc _
  have bX : wx.heap[Bx]? = some (.cells #[.int .i64 4, .int .i64 s, .int .i64 n, .int .i64 cut, .bool odd, vb, vk] 34 (0, 0)) := by rw [hwx, hBx]; exact heap_alloc_new w _
  have x0 : wx.cell? ⟨Bx, 0, none⟩ = some (.int .i64 4) := by rw [cell_of_row _ _ _ _ _ _ bX]; rfl
  have x1 : wx.cell? ⟨Bx, 1, none⟩ = some (.int .i64 s) := by rw [cell_of_row _ _ _ _ _ _ bX]; rfl
  have x2 : wx.cell? ⟨Bx, 2, none⟩ = some (.int .i64 n) := by rw [cell_of_row _ _ _ _ _ _ bX]; rfl
  have x3 : wx.cell? ⟨Bx, 3, none⟩ = some (.int .i64 cut) := by rw [cell_of_row _ _ _ _ _ _ bX]; rfl
  have x4 : wx.cell? ⟨Bx, 4, none⟩ = some (.bool odd) := by rw [cell_of_row _ _ _ _ _ _ bX]; rfl
  have x5 : wx.cell? ⟨Bx, 5, none⟩ = some (vb) := by rw [cell_of_row _ _ _ _ _ _ bX]; rfl
  have x6 : wx.cell? ⟨Bx, 6, none⟩ = some (vk) := by rw [cell_of_row _ _ _ _ _ _ bX]; rfl
  have HB : Hid (Both w0 wx p S pv r K rv rs d Bx) := (h.atX Bx (by omega)).frame oX
  have HW : Hid (wx = w.alloc (.cells #[.int .i64 4, .int .i64 s, .int .i64 n, .int .i64 cut, .bool odd, vb, vk] 34)) := hwx
  have HX : Hid (Bx = w.heap.size) := hBx
  have hBl : Bx < wx.heap.size := by rw [hwx, hBx]; simp
  clear hwx hBx oX bX h
  have HC : Hid (Calls Try.prog 23 #[.pointer (some ⟨p, 0, none⟩), .int .i64 n] wx.drew fun e w1 => ∃ q, e = .returned (.int .i64 q) ∧ Hid (KeepX Bx wx w1) ∧ Hid (Calls Try.prog 32 #[.pointer (some ⟨r, 0, none⟩), .int .i64 n] w1 fun e w2 => e = .returned (.int .i64 q) ∧ Hid (KeepX Bx wx w2) ∧ Hid (Next w0 w2 p S r K d))) :=
    both_live (HB.out.frame ((Only.refl _ wx).drew)) n hn
  go_enter Try.func13, Try.ntmps13
  go_wp2_with fail
  rw [← HW.out, ← HX.out]
  clear x0 x1 x3 x4 x5 x6
  go_region_held3 (fun w' => w'.cell? ⟨Bx, 2, none⟩ = some (.int .i64 n)) (first | exact HK2.out 2 _ x2 | exact HK1.out 2 _ x2 | go_keep)
    (first
      | (go_at_call 23; refine HC.out.mono ?_; rintro e w1 ⟨q, rfl, HK1, HC1⟩)
      | (go_at_call 32; refine HC1.out.mono ?_; rintro e w2 ⟨rfl, HK2, HN⟩))
  clear HC HC1 HK1 HK2 x2
  go_wp2
  go_ret
  exact ⟨rfl, HN⟩
set_option maxRecDepth 100000 in
set_option maxHeartbeats 4000000 in
theorem step_copy {w0 w : World} {p S : Nat} {pv : Value} {r K : Nat} {rv : Value} {rs : List RW} {d : DS} {X : Nat} (h : Both w0 w p S pv r K rv rs d X) (hby : (d.pend.length + 1) * 72 ≤ 140737488355328) (s n cut : Int) (odd : Bool) (vb vk : Value) :
    Calls Try.prog 13 #[.pointer (some ⟨p, 0, none⟩), .pointer (some ⟨r, 0, none⟩), .agg #[.int .i64 5, .int .i64 s, .int .i64 n, .int .i64 cut, .bool odd, vb, vk]] w fun e w' => e = .returned (.bool true) ∧ Hid (Next w0 w' p S r K d) := by
  obtain ⟨wx, hwx⟩ : ∃ q, q = w.alloc (.cells #[.int .i64 5, .int .i64 s, .int .i64 n, .int .i64 cut, .bool odd, vb, vk] 34) := ⟨_, rfl⟩
  obtain ⟨Bx, hBx⟩ : ∃ q, q = w.heap.size := ⟨_, rfl⟩
  have oX : Only (fun _ => False) w wx := by rw [hwx]; exact (Only.refl _ w).alloc _
  have bX : wx.heap[Bx]? = some (.cells #[.int .i64 5, .int .i64 s, .int .i64 n, .int .i64 cut, .bool odd, vb, vk] 34 (0, 0)) := by rw [hwx, hBx]; exact heap_alloc_new w _
  have x0 : wx.cell? ⟨Bx, 0, none⟩ = some (.int .i64 5) := by rw [cell_of_row _ _ _ _ _ _ bX]; rfl
  have x1 : wx.cell? ⟨Bx, 1, none⟩ = some (.int .i64 s) := by rw [cell_of_row _ _ _ _ _ _ bX]; rfl
  have x2 : wx.cell? ⟨Bx, 2, none⟩ = some (.int .i64 n) := by rw [cell_of_row _ _ _ _ _ _ bX]; rfl
  have x3 : wx.cell? ⟨Bx, 3, none⟩ = some (.int .i64 cut) := by rw [cell_of_row _ _ _ _ _ _ bX]; rfl
  have x4 : wx.cell? ⟨Bx, 4, none⟩ = some (.bool odd) := by rw [cell_of_row _ _ _ _ _ _ bX]; rfl
  have x5 : wx.cell? ⟨Bx, 5, none⟩ = some (vb) := by rw [cell_of_row _ _ _ _ _ _ bX]; rfl
  have x6 : wx.cell? ⟨Bx, 6, none⟩ = some (vk) := by rw [cell_of_row _ _ _ _ _ _ bX]; rfl
  have HB : Hid (Both w0 wx p S pv r K rv rs d Bx) := (h.atX Bx (by omega)).frame oX
  have HW : Hid (wx = w.alloc (.cells #[.int .i64 5, .int .i64 s, .int .i64 n, .int .i64 cut, .bool odd, vb, vk] 34)) := hwx
  have HX : Hid (Bx = w.heap.size) := hBx
  have hBl : Bx < wx.heap.size := by rw [hwx, hBx]; simp
  clear hwx hBx oX bX h
  go_enter Try.func13, Try.ntmps13
  go_wp2_with fail
  rw [← HW.out, ← HX.out]
  clear x0 x1 x2 x3 x4 x5 x6
  go_ret
  exact ⟨rfl, HB.out.same (Only.refl _ _)⟩
set_option maxRecDepth 100000 in
set_option maxHeartbeats 4000000 in
theorem step_crash {w0 w : World} {p S : Nat} {pv : Value} {r K : Nat} {rv : Value} {rs : List RW} {d : DS} {X : Nat} (h : Both w0 w p S pv r K rv rs d X) (hby : (d.pend.length + 1) * 72 ≤ 140737488355328) (s n cut : Int) (odd : Bool) (vb : Value) (ak : Option Addr) (mk ck : Nat) (ks : List Bool) (hk : FlagsIn w0 (.slice ak mk ck) ks) :
    Calls Try.prog 13 #[.pointer (some ⟨p, 0, none⟩), .pointer (some ⟨r, 0, none⟩), .agg #[.int .i64 3, .int .i64 s, .int .i64 n, .int .i64 cut, .bool odd, vb, .slice ak mk ck]] w fun e w' => e = .returned (.bool true) ∧ Hid (Next w0 w' p S r K d) := by
  obtain ⟨wx, hwx⟩ : ∃ q, q = w.alloc (.cells #[.int .i64 3, .int .i64 s, .int .i64 n, .int .i64 cut, .bool odd, vb, .slice ak mk ck] 34) := ⟨_, rfl⟩
  obtain ⟨Bx, hBx⟩ : ∃ q, q = w.heap.size := ⟨_, rfl⟩
  have oX : Only (fun _ => False) w wx := by rw [hwx]; exact (Only.refl _ w).alloc _
  have bX : wx.heap[Bx]? = some (.cells #[.int .i64 3, .int .i64 s, .int .i64 n, .int .i64 cut, .bool odd, vb, .slice ak mk ck] 34 (0, 0)) := by rw [hwx, hBx]; exact heap_alloc_new w _
  have x0 : wx.cell? ⟨Bx, 0, none⟩ = some (.int .i64 3) := by rw [cell_of_row _ _ _ _ _ _ bX]; rfl
  have x1 : wx.cell? ⟨Bx, 1, none⟩ = some (.int .i64 s) := by rw [cell_of_row _ _ _ _ _ _ bX]; rfl
  have x2 : wx.cell? ⟨Bx, 2, none⟩ = some (.int .i64 n) := by rw [cell_of_row _ _ _ _ _ _ bX]; rfl
  have x3 : wx.cell? ⟨Bx, 3, none⟩ = some (.int .i64 cut) := by rw [cell_of_row _ _ _ _ _ _ bX]; rfl
  have x4 : wx.cell? ⟨Bx, 4, none⟩ = some (.bool odd) := by rw [cell_of_row _ _ _ _ _ _ bX]; rfl
  have x5 : wx.cell? ⟨Bx, 5, none⟩ = some (vb) := by rw [cell_of_row _ _ _ _ _ _ bX]; rfl
  have x6 : wx.cell? ⟨Bx, 6, none⟩ = some (.slice ak mk ck) := by rw [cell_of_row _ _ _ _ _ _ bX]; rfl
  have HB : Hid (Both w0 wx p S pv r K rv rs d Bx) := (h.atX Bx (by omega)).frame oX
  have HW : Hid (wx = w.alloc (.cells #[.int .i64 3, .int .i64 s, .int .i64 n, .int .i64 cut, .bool odd, vb, .slice ak mk ck] 34)) := hwx
  have HX : Hid (Bx = w.heap.size) := hBx
  have hBl : Bx < wx.heap.size := by rw [hwx, hBx]; simp
  clear hwx hBx oX bX h
  obtain ⟨i4, hi4, hz40, hz41, hz42⟩ := info_parts info4
  have oD : Only (fun _ => False) wx wx.drew := (Only.refl _ wx).drew
  have hfD := hk.1.frame (HB.out.only.trans oD (fun _ _ e => e)) (fun _ e => e.elim)
  obtain ⟨aF, capF, w2, hrF, ownF, o2⟩ := app_copy 32 4 i4 _ 1 Try.underlying32 hi4 hz40 hz41 hz42 rfl rfl wx.drew (.slice ak mk ck) ks.length _ hfD (fun j => rfl) hk.2
  have oX2 : Only (fun _ => False) wx w2 := oD.trans o2 (fun _ _ e => e)
  have hSl := HB.out.disk.lt S (.inr (.inl rfl))
  have fl := flags_own (S := S) ownF (by have := hk.2; unfold maxLen; omega) (by show S < wx.heap.size; omega)
  have HC : Hid (Calls Try.prog 19 #[.pointer (some ⟨p, 0, none⟩), .slice aF ks.length capF, .int .i64 n, .int .i64 cut] w2 fun e w3 => ∃ q, e = .returned (.int .i64 q) ∧ Hid (KeepX Bx w2 w3) ∧ Hid (Calls Try.prog 31 #[.pointer (some ⟨r, 0, none⟩), .slice ak mk ck, .int .i64 n, .int .i64 cut] w3 fun e w4 => e = .returned (.int .i64 q) ∧ Hid (KeepX Bx w2 w4) ∧ Hid (Next w0 w4 p S r K d))) :=
    both_crash (HB.out.frame oX2) (by omega) _ _ ks n cut fl hk
  have HY : Hid (w2.cell? ⟨Bx, 2, none⟩ = some (.int .i64 n) ∧ w2.cell? ⟨Bx, 3, none⟩ = some (.int .i64 cut) ∧ w2.cell? ⟨Bx, 6, none⟩ = some (.slice ak mk ck)) := ⟨oX2.cell x2 (fun e => e), oX2.cell x3 (fun e => e), oX2.cell x6 (fun e => e)⟩
  have HRF : Hid _ := hrF
  have hem := empty32
  clear oD hfD hrF ownF o2 oX2 hSl fl
  go_enter Try.func13, Try.ntmps13
  go_wp2_with fail
  rw [← HW.out, ← HX.out]
  clear x0 x1 x4 x5
  go_region_held3 (fun w' => w'.cell? ⟨Bx, 2, none⟩ = some (.int .i64 n) ∧ w'.cell? ⟨Bx, 3, none⟩ = some (.int .i64 cut) ∧ w'.cell? ⟨Bx, 6, none⟩ = some (.slice ak mk ck)) (first | exact ⟨HK4.out 2 _ HY.out.1, HK4.out 3 _ HY.out.2.1, HK4.out 6 _ HY.out.2.2⟩ | exact ⟨HK3.out 2 _ HY.out.1, HK3.out 3 _ HY.out.2.1, HK3.out 6 _ HY.out.2.2⟩ | exact HY.out | go_keep)
    (first
      | (refine step_append_run (by rfl) _ _ 32 (by rfl) _ _ (.slice aF ks.length capF) (by rfl) (by rfl) HRF.out ?_)
      | (go_at_call 19; refine HC.out.mono ?_; rintro e w3 ⟨q, rfl, HK3, HC3⟩)
      | (go_at_call 31; refine HC3.out.mono ?_; rintro e w4 ⟨rfl, HK4, HN⟩))
  clear HC HC3 HK3 HK4 HY HRF x2 x3 x6
  go_wp2
  go_ret
  exact ⟨rfl, HN⟩
set_option maxRecDepth 100000 in
set_option maxHeartbeats 4000000 in
theorem step_write {w0 w : World} {p S : Nat} {pv : Value} {r K : Nat} {rv : Value} {rs : List RW} {d : DS} {X : Nat} (h : Both w0 w p S pv r K rv rs d X) (hby : (d.pend.length + 1) * 72 ≤ 140737488355328) (s n cut : Int) (odd : Bool) (k : Int) (ab : Option Addr) (mb cb : Nat) (ak : Option Addr) (mk ck : Nat) (xb : List Int) (keep : List Bool) (hx : OpD.ok w0 ⟨k, s, n, cut, odd, xb, keep, .slice ab mb cb, .slice ak mk ck⟩) (k1 : ¬ k = 1) (k2 : ¬ k = 2) (k3 : ¬ k = 3) (k4 : ¬ k = 4) (k5 : ¬ k = 5) :
    Calls Try.prog 13 #[.pointer (some ⟨p, 0, none⟩), .pointer (some ⟨r, 0, none⟩), .agg #[.int .i64 k, .int .i64 s, .int .i64 n, .int .i64 cut, .bool odd, .slice ab mb cb, .slice ak mk ck]] w fun e w' => e = .returned (.bool true) ∧ Hid (Next w0 w' p S r K d) := by
  obtain ⟨wx, hwx⟩ : ∃ q, q = w.alloc (.cells #[.int .i64 k, .int .i64 s, .int .i64 n, .int .i64 cut, .bool odd, .slice ab mb cb, .slice ak mk ck] 34) := ⟨_, rfl⟩
  obtain ⟨Bx, hBx⟩ : ∃ q, q = w.heap.size := ⟨_, rfl⟩
  have oX : Only (fun _ => False) w wx := by rw [hwx]; exact (Only.refl _ w).alloc _
  have bX : wx.heap[Bx]? = some (.cells #[.int .i64 k, .int .i64 s, .int .i64 n, .int .i64 cut, .bool odd, .slice ab mb cb, .slice ak mk ck] 34 (0, 0)) := by rw [hwx, hBx]; exact heap_alloc_new w _
  have x0 : wx.cell? ⟨Bx, 0, none⟩ = some (.int .i64 k) := by rw [cell_of_row _ _ _ _ _ _ bX]; rfl
  have x1 : wx.cell? ⟨Bx, 1, none⟩ = some (.int .i64 s) := by rw [cell_of_row _ _ _ _ _ _ bX]; rfl
  have x2 : wx.cell? ⟨Bx, 2, none⟩ = some (.int .i64 n) := by rw [cell_of_row _ _ _ _ _ _ bX]; rfl
  have x3 : wx.cell? ⟨Bx, 3, none⟩ = some (.int .i64 cut) := by rw [cell_of_row _ _ _ _ _ _ bX]; rfl
  have x4 : wx.cell? ⟨Bx, 4, none⟩ = some (.bool odd) := by rw [cell_of_row _ _ _ _ _ _ bX]; rfl
  have x5 : wx.cell? ⟨Bx, 5, none⟩ = some (.slice ab mb cb) := by rw [cell_of_row _ _ _ _ _ _ bX]; rfl
  have x6 : wx.cell? ⟨Bx, 6, none⟩ = some (.slice ak mk ck) := by rw [cell_of_row _ _ _ _ _ _ bX]; rfl
  have HB : Hid (Both w0 wx p S pv r K rv rs d Bx) := (h.atX Bx (by omega)).frame oX
  have HW : Hid (wx = w.alloc (.cells #[.int .i64 k, .int .i64 s, .int .i64 n, .int .i64 cut, .bool odd, .slice ab mb cb, .slice ak mk ck] 34)) := hwx
  have HX : Hid (Bx = w.heap.size) := hBx
  have hBl : Bx < wx.heap.size := by rw [hwx, hBx]; simp
  clear hwx hBx oX bX h
  have HC : Hid (Calls Try.prog 22 #[.agg #[.int .i64 k, .int .i64 s, .int .i64 n, .int .i64 cut, .bool odd, .slice ab mb cb, .slice ak mk ck]] wx.drew fun e w1 => ∃ a1 m1 c1, e = .returned (.slice a1 m1 c1) ∧ Hid (KeepX Bx wx w1) ∧
      Hid (Calls Try.prog 21 #[.pointer (some ⟨p, 0, none⟩), .int .i64 s, .slice a1 m1 c1] w1 fun e w2 => ∃ q, e = .returned (.int .i64 q) ∧ Hid (KeepX Bx wx w2) ∧
        Hid (Calls Try.prog 22 #[.agg #[.int .i64 k, .int .i64 s, .int .i64 n, .int .i64 cut, .bool odd, .slice ab mb cb, .slice ak mk ck]] w2 fun e w3 => ∃ a3 m3 c3, e = .returned (.slice a3 m3 c3) ∧ Hid (KeepX Bx wx w3) ∧
          Hid (Calls Try.prog 33 #[.pointer (some ⟨r, 0, none⟩), .int .i64 s, .slice a3 m3 c3] w3 fun e w4 => e = .returned (.int .i64 q) ∧ Hid (KeepX Bx wx w4) ∧ Hid (Next w0 w4 p S r K d))))) :=
    both_write (HB.out.frame ((Only.refl _ wx).drew)) hby ⟨k, s, n, cut, odd, xb, keep, .slice ab mb cb, .slice ak mk ck⟩ hx hBl
  go_enter Try.func13, Try.ntmps13
  go_wp2_with fail
  rw [← HW.out, ← HX.out]
  go_region_held3 (fun w' => w'.cell? ⟨Bx, 0, none⟩ = some (.int .i64 k) ∧ w'.cell? ⟨Bx, 1, none⟩ = some (.int .i64 s) ∧ w'.cell? ⟨Bx, 2, none⟩ = some (.int .i64 n) ∧ w'.cell? ⟨Bx, 3, none⟩ = some (.int .i64 cut) ∧ w'.cell? ⟨Bx, 4, none⟩ = some (.bool odd) ∧ w'.cell? ⟨Bx, 5, none⟩ = some (.slice ab mb cb) ∧ w'.cell? ⟨Bx, 6, none⟩ = some (.slice ak mk ck)) (first | exact ⟨HK4.out 0 _ x0, HK4.out 1 _ x1, HK4.out 2 _ x2, HK4.out 3 _ x3, HK4.out 4 _ x4, HK4.out 5 _ x5, HK4.out 6 _ x6⟩ | exact ⟨HK3.out 0 _ x0, HK3.out 1 _ x1, HK3.out 2 _ x2, HK3.out 3 _ x3, HK3.out 4 _ x4, HK3.out 5 _ x5, HK3.out 6 _ x6⟩ | exact ⟨HK2.out 0 _ x0, HK2.out 1 _ x1, HK2.out 2 _ x2, HK2.out 3 _ x3, HK2.out 4 _ x4, HK2.out 5 _ x5, HK2.out 6 _ x6⟩ | exact ⟨HK1.out 0 _ x0, HK1.out 1 _ x1, HK1.out 2 _ x2, HK1.out 3 _ x3, HK1.out 4 _ x4, HK1.out 5 _ x5, HK1.out 6 _ x6⟩ | go_keep)
    (first
      | (go_at_call 22; refine HC2.out.mono ?_; rintro e w3 ⟨a3, m3, c3, rfl, HK3, HC3⟩)
      | (go_at_call 22; refine HC.out.mono ?_; rintro e w1 ⟨a1, m1, c1, rfl, HK1, HC1⟩)
      | (go_at_call 21; refine HC1.out.mono ?_; rintro e w2 ⟨q, rfl, HK2, HC2⟩)
      | (go_at_call 33; refine HC3.out.mono ?_; rintro e w4 ⟨rfl, HK4, HN⟩))
  clear HC HC1 HC2 HC3 HK1 HK2 HK3 HK4 x0 x1 x2 x3 x4 x5 x6
  go_wp2
  go_ret
  exact ⟨rfl, HN⟩
/-- One call, whatever it is. -/
theorem step_any {w0 w : World} {p S : Nat} {pv : Value} {r K : Nat} {rv : Value} {rs : List RW} {d : DS} {X : Nat} (h : Both w0 w p S pv r K rv rs d X) (hby : (d.pend.length + 1) * 72 ≤ 140737488355328) (x : OpD) (hx : x.ok w0) :
    Calls Try.prog 13 #[.pointer (some ⟨p, 0, none⟩), .pointer (some ⟨r, 0, none⟩), .agg x.cells.toArray] w fun e w' => e = .returned (.bool true) ∧ Hid (Next w0 w' p S r K d) := by
  obtain ⟨k, s, n, cut, odd, xb, keep, vb, vk⟩ := x
  have hn : n ≤ 9223372036854775807 := (bounds_i64 hx.2.2.2.2.1).2
  by_cases k1 : k = 1
  · subst k1; exact step_read h hby s n cut odd vb vk
  by_cases k2 : k = 2
  · subst k2; exact step_barrier h hby s n cut odd vb vk
  by_cases k4 : k = 4
  · subst k4; exact step_live h hby s n cut odd vb vk hn
  by_cases k5 : k = 5
  · subst k5; exact step_copy h hby s n cut odd vb vk
  have hvbk : (∃ a m c, vb = .slice a m c) ∧ (∃ a m c, vk = .slice a m c) := by
    refine ⟨?_, ?_⟩
    · rcases hx.1.1 with ⟨h, _⟩ | ⟨ad, c, h, _⟩ <;> exact ⟨_, _, _, h⟩
    · rcases hx.2.1.1 with ⟨h, _⟩ | ⟨ad, c, h, _⟩ <;> exact ⟨_, _, _, h⟩
  obtain ⟨⟨ab, mb, cb, hvb⟩, ⟨ak, mk, ck, hvk⟩⟩ := hvbk
  subst hvb hvk
  by_cases k3 : k = 3
  · subst k3; exact step_crash h hby s n cut odd _ ak mk ck keep hx.2.1
  · exact step_write h hby s n cut odd k ab mb cb ak mk ck xb keep hx k1 k2 k3 k4 k5
end Go.Proofs.Ytaeghpfncfkgfaa
