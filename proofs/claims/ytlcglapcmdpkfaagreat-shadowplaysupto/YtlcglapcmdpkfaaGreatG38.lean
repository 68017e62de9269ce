import Derived.Test.YtlcglapcmdpkfaaGreatIn5
import Derived.Deep.CutRange
import Derived.BigQuiet
import Derived.OpenShut
import Derived.Deep.RegionHeld3
namespace Go.Proofs.YtlcglapcmdpkfaaGreat
open Go.RowKit Go.Maps
set_option linter.unusedSimpArgs false
set_option linter.unusedVariables false
set_option maxRecDepth 100000 in
set_option maxHeartbeats 4000000 in
theorem step_none_lo {w0 w : World} {B P p S q K N m : Nat} {pv d rv rs rp} (hc : PlC w B P p S q K pv d rv rs d (.pointer none) rp) (h0 : Only (fun _ => False) w0 w) (hB : B = w0.heap.size) (hok : PlOk w B P p S q K N (m + 4000)) (i n cut : Int) (k : Int) (hk5 : ¬ 5 ≤ k) (vb vk : Value) :
  Calls Tryz.prog 7 #[.pointer (some ⟨P, 0, none⟩), .agg #[.int .i64 k, .int .i64 i, .int .i64 n, .int .i64 cut, vb, vk]] w fun e w' => e = .returned (.bool true) ∧ Hid (PlOk w' B P p S q K N (m + 4000) ∧ Only (fun k => B ≤ k) w w') := by
 obtain ⟨wx, hwx⟩ : ∃ z, z = w.alloc (.cells #[.int .i64 k, .int .i64 i, .int .i64 n, .int .i64 cut, vb, vk] 40) := ⟨_, rfl⟩
 obtain ⟨Bx, hBx⟩ : ∃ z, z = w.heap.size := ⟨_, rfl⟩
 have oX : Only (fun _ => False) w wx := by rw [hwx]; exact (Only.refl _ w).alloc _
 have bX : wx.heap[Bx]? = some (.cells #[.int .i64 k, .int .i64 i, .int .i64 n, .int .i64 cut, vb, vk] 40 (0, 0)) := by rw [hwx, hBx]; exact heap_alloc_new w _
 have x0 : wx.cell? ⟨Bx, 0, none⟩ = some (.int .i64 k) := by rw [cell_of_row _ _ _ _ _ _ bX]; rfl
 have x1 : wx.cell? ⟨Bx, 1, none⟩ = some (.int .i64 i) := by rw [cell_of_row _ _ _ _ _ _ bX]; rfl
 have x2 : wx.cell? ⟨Bx, 2, none⟩ = some (.int .i64 n) := by rw [cell_of_row _ _ _ _ _ _ bX]; rfl
 have x3 : wx.cell? ⟨Bx, 3, none⟩ = some (.int .i64 cut) := by rw [cell_of_row _ _ _ _ _ _ bX]; rfl
 have x4 : wx.cell? ⟨Bx, 4, none⟩ = some (vb) := by rw [cell_of_row _ _ _ _ _ _ bX]; rfl
 have x5 : wx.cell? ⟨Bx, 5, none⟩ = some (vk) := by rw [cell_of_row _ _ _ _ _ _ bX]; rfl
 have hcx : PlC wx B P p S q K pv d rv rs d (.pointer none) rp := hc.still oX
 have z0 : wx.cell? ⟨P, 0, none⟩ = some (.pointer (some ⟨p, 0, none⟩)) := hcx.pc 0 _ rfl
 have z1 : wx.cell? ⟨P, 1, none⟩ = some (.pointer (some ⟨q, 0, none⟩)) := hcx.pc 1 _ rfl
 have z2 : wx.cell? ⟨P, 2, none⟩ = some (.pointer none) := hcx.pc 2 _ rfl
 have z3 : wx.cell? ⟨P, 3, none⟩ = some rp := hcx.pc 3 _ rfl
 have O0 : Hid (Only (fun _ => False) w0 wx) := h0.trans oX (fun _ _ g => g)
 have OX : Hid (Only (fun _ => False) w wx) := oX
 have HW : Hid (wx = w.alloc (.cells #[.int .i64 k, .int .i64 i, .int .i64 n, .int .i64 cut, vb, vk] 40)) := hwx
 have HX : Hid (Bx = w.heap.size) := hBx
 have oD : Only (fun _ => False) w wx.drew := oX.drew
 clear hwx bX hc
 have HN : Hid (PlOk wx B P p S q K N (m + 4000) ∧ Only (fun k => B ≤ k) wx wx) := ⟨hok.still oX, Only.refl _ _⟩
 clear hcx oX oD h0 hB hBx x1 x2 x3 x4 x5 hok z0 z1 z3
 go_enter Tryz.func7, Tryz.ntmps7
 go_upto_region 3 with fail
 rw [← HW.out, ← HX.out]
 skip
 go_wp2
 go_ret
 exact ⟨rfl, HN.out.1, (OX.out.mono (fun _ _ g => g.elim)).trans HN.out.2 (fun _ _ g => g)⟩
set_option maxRecDepth 100000 in
set_option maxHeartbeats 4000000 in
theorem step_none_hi {w0 w : World} {B P p S q K N m : Nat} {pv d rv rs rp} (hc : PlC w B P p S q K pv d rv rs d (.pointer none) rp) (h0 : Only (fun _ => False) w0 w) (hB : B = w0.heap.size) (hok : PlOk w B P p S q K N (m + 4000)) (i n cut : Int) (k : Int) (hk5 : 5 ≤ k) (hk9 : ¬ k ≤ 9) (vb vk : Value) :
  Calls Tryz.prog 7 #[.pointer (some ⟨P, 0, none⟩), .agg #[.int .i64 k, .int .i64 i, .int .i64 n, .int .i64 cut, vb, vk]] w fun e w' => e = .returned (.bool true) ∧ Hid (PlOk w' B P p S q K N (m + 4000) ∧ Only (fun k => B ≤ k) w w') := by
 obtain ⟨wx, hwx⟩ : ∃ z, z = w.alloc (.cells #[.int .i64 k, .int .i64 i, .int .i64 n, .int .i64 cut, vb, vk] 40) := ⟨_, rfl⟩
 obtain ⟨Bx, hBx⟩ : ∃ z, z = w.heap.size := ⟨_, rfl⟩
 have oX : Only (fun _ => False) w wx := by rw [hwx]; exact (Only.refl _ w).alloc _
 have bX : wx.heap[Bx]? = some (.cells #[.int .i64 k, .int .i64 i, .int .i64 n, .int .i64 cut, vb, vk] 40 (0, 0)) := by rw [hwx, hBx]; exact heap_alloc_new w _
 have x0 : wx.cell? ⟨Bx, 0, none⟩ = some (.int .i64 k) := by rw [cell_of_row _ _ _ _ _ _ bX]; rfl
 have x1 : wx.cell? ⟨Bx, 1, none⟩ = some (.int .i64 i) := by rw [cell_of_row _ _ _ _ _ _ bX]; rfl
 have x2 : wx.cell? ⟨Bx, 2, none⟩ = some (.int .i64 n) := by rw [cell_of_row _ _ _ _ _ _ bX]; rfl
 have x3 : wx.cell? ⟨Bx, 3, none⟩ = some (.int .i64 cut) := by rw [cell_of_row _ _ _ _ _ _ bX]; rfl
 have x4 : wx.cell? ⟨Bx, 4, none⟩ = some (vb) := by rw [cell_of_row _ _ _ _ _ _ bX]; rfl
 have x5 : wx.cell? ⟨Bx, 5, none⟩ = some (vk) := by rw [cell_of_row _ _ _ _ _ _ bX]; rfl
 have hcx : PlC wx B P p S q K pv d rv rs d (.pointer none) rp := hc.still oX
 have z0 : wx.cell? ⟨P, 0, none⟩ = some (.pointer (some ⟨p, 0, none⟩)) := hcx.pc 0 _ rfl
 have z1 : wx.cell? ⟨P, 1, none⟩ = some (.pointer (some ⟨q, 0, none⟩)) := hcx.pc 1 _ rfl
 have z2 : wx.cell? ⟨P, 2, none⟩ = some (.pointer none) := hcx.pc 2 _ rfl
 have z3 : wx.cell? ⟨P, 3, none⟩ = some rp := hcx.pc 3 _ rfl
 have O0 : Hid (Only (fun _ => False) w0 wx) := h0.trans oX (fun _ _ g => g)
 have OX : Hid (Only (fun _ => False) w wx) := oX
 have HW : Hid (wx = w.alloc (.cells #[.int .i64 k, .int .i64 i, .int .i64 n, .int .i64 cut, vb, vk] 40)) := hwx
 have HX : Hid (Bx = w.heap.size) := hBx
 have oD : Only (fun _ => False) w wx.drew := oX.drew
 clear hwx bX hc
 have HN : Hid (PlOk wx B P p S q K N (m + 4000) ∧ Only (fun k => B ≤ k) wx wx) := ⟨hok.still oX, Only.refl _ _⟩
 clear hcx oX oD h0 hB hBx x1 x2 x3 x4 x5 hok z0 z1 z3
 go_enter Tryz.func7, Tryz.ntmps7
 go_upto_region 3 with fail
 rw [← HW.out, ← HX.out]
 skip
 go_wp2
 go_ret
 exact ⟨rfl, HN.out.1, (OX.out.mono (fun _ _ g => g.elim)).trans HN.out.2 (fun _ _ g => g)⟩
set_option maxRecDepth 100000 in
set_option maxHeartbeats 4000000 in
theorem step_disk {w0 w : World} {B P p S q K N m : Nat} {pv d rv rs sv rp} (hc : PlC w B P p S q K pv d rv rs d sv rp) (h0 : Only (fun _ => False) w0 w) (hB : B = w0.heap.size) (i n cut k : Int) (vb vk : Value) (hd : ∀ W, Only (fun _ => False) w W → Calls Tryz.prog 15 #[.pointer (some ⟨P, 0, none⟩), .agg #[.int .i64 k, .int .i64 i, .int .i64 n, .int .i64 cut, vb, vk]] W fun e w1 => e = .returned (.bool true) ∧ Hid (PlOk w1 B P p S q K N (m + 4000) ∧ Only (fun k => B ≤ k) W w1)) (hk5 : 5 ≤ k) (hk9 : k ≤ 9) :
  Calls Tryz.prog 7 #[.pointer (some ⟨P, 0, none⟩), .agg #[.int .i64 k, .int .i64 i, .int .i64 n, .int .i64 cut, vb, vk]] w fun e w' => e = .returned (.bool true) ∧ Hid (PlOk w' B P p S q K N (m + 4000) ∧ Only (fun k => B ≤ k) w w') := by
 obtain ⟨wx, hwx⟩ : ∃ z, z = w.alloc (.cells #[.int .i64 k, .int .i64 i, .int .i64 n, .int .i64 cut, vb, vk] 40) := ⟨_, rfl⟩
 obtain ⟨Bx, hBx⟩ : ∃ z, z = w.heap.size := ⟨_, rfl⟩
 have oX : Only (fun _ => False) w wx := by rw [hwx]; exact (Only.refl _ w).alloc _
 have bX : wx.heap[Bx]? = some (.cells #[.int .i64 k, .int .i64 i, .int .i64 n, .int .i64 cut, vb, vk] 40 (0, 0)) := by rw [hwx, hBx]; exact heap_alloc_new w _
 have x0 : wx.cell? ⟨Bx, 0, none⟩ = some (.int .i64 k) := by rw [cell_of_row _ _ _ _ _ _ bX]; rfl
 have x1 : wx.cell? ⟨Bx, 1, none⟩ = some (.int .i64 i) := by rw [cell_of_row _ _ _ _ _ _ bX]; rfl
 have x2 : wx.cell? ⟨Bx, 2, none⟩ = some (.int .i64 n) := by rw [cell_of_row _ _ _ _ _ _ bX]; rfl
 have x3 : wx.cell? ⟨Bx, 3, none⟩ = some (.int .i64 cut) := by rw [cell_of_row _ _ _ _ _ _ bX]; rfl
 have x4 : wx.cell? ⟨Bx, 4, none⟩ = some (vb) := by rw [cell_of_row _ _ _ _ _ _ bX]; rfl
 have x5 : wx.cell? ⟨Bx, 5, none⟩ = some (vk) := by rw [cell_of_row _ _ _ _ _ _ bX]; rfl
 have hcx : PlC wx B P p S q K pv d rv rs d sv rp := hc.still oX
 have z0 : wx.cell? ⟨P, 0, none⟩ = some (.pointer (some ⟨p, 0, none⟩)) := hcx.pc 0 _ rfl
 have z1 : wx.cell? ⟨P, 1, none⟩ = some (.pointer (some ⟨q, 0, none⟩)) := hcx.pc 1 _ rfl
 have z2 : wx.cell? ⟨P, 2, none⟩ = some sv := hcx.pc 2 _ rfl
 have z3 : wx.cell? ⟨P, 3, none⟩ = some rp := hcx.pc 3 _ rfl
 have O0 : Hid (Only (fun _ => False) w0 wx) := h0.trans oX (fun _ _ g => g)
 have OX : Hid (Only (fun _ => False) w wx) := oX
 have HW : Hid (wx = w.alloc (.cells #[.int .i64 k, .int .i64 i, .int .i64 n, .int .i64 cut, vb, vk] 40)) := hwx
 have HX : Hid (Bx = w.heap.size) := hBx
 have oD : Only (fun _ => False) w wx.drew := oX.drew
 clear hwx bX hc
 have HD : Hid (Calls Tryz.prog 15 _ _ _) := hd wx oX
 clear hcx oX oD h0 hB hBx z0 z1 z2 z3 hd
 go_enter Tryz.func7, Tryz.ntmps7
 go_upto_region 2 with fail
 rw [← HW.out, ← HX.out]
 go_wp2_with fail
 refine (show Calls Tryz.prog 15 _ _ _ from HD.out).mono ?_
 rintro e w1 ⟨rfl, H1⟩
 have HA : Hid (Calls Tryz.prog 16 _ _ _) := H1.out.1.alike
 clear HD x0 x1 x2 x3 x4 x5
 go_wp2_with fail
 refine (show Calls Tryz.prog 16 _ _ _ from HA.out).mono ?_
 rintro e w2 ⟨rfl, o2⟩
 have HN : Hid (PlOk w2 B P p S q K N (m + 4000) ∧ Only (fun k => B ≤ k) wx w2) := ⟨H1.out.1.still o2, H1.out.2.trans (o2.mono (fun _ _ g => g.elim)) (fun _ _ g => g)⟩
 clear HA o2 H1
 go_wp2
 go_ret
 exact ⟨rfl, HN.out.1, (OX.out.mono (fun _ _ g => g.elim)).trans HN.out.2 (fun _ _ g => g)⟩
set_option maxRecDepth 100000 in
theorem step_any {w0 w : World} {B P p S q K N m : Nat} (h : PlOk w B P p S q K N m) (h0 : Only (fun _ => False) w0 w) (hB : B = w0.heap.size) (hm : m ≤ 8589934592) (o : OpK) (ho : o.ok w0) :
  Calls Tryz.prog 7 #[.pointer (some ⟨P, 0, none⟩), .agg o.cells.toArray] w fun e w' => e = .returned (.bool true) ∧ Hid (PlOk w' B P p S q K N (m + 4000) ∧ Only (fun k => B ≤ k) w w') := by
 obtain ⟨k, i, n, cut, b, ks, vb, vk⟩ := o
 obtain ⟨hb, hk, hn⟩ := ho
 simp only at hb hk hn
 obtain ⟨ab, cb, rfl, _⟩ := hb.form
 have hkf : ∃ ak mk ck, vk = .slice ak mk ck := by
  rcases hk.1 with ⟨g, _⟩ | ⟨ad, c, g, _⟩
  ·exact ⟨_, _, _, g⟩
  ·exact ⟨_, _, _, g⟩
 obtain ⟨ak, mk, ck, rfl⟩ := hkf
 obtain ⟨pv, d, rv, rs, sv, rp, hc, hs, hf⟩ := id h
 show Calls Tryz.prog 7 #[.pointer (some ⟨P, 0, none⟩), .agg #[.int .i64 k, .int .i64 i, .int .i64 n, .int .i64 cut, .slice ab b.length cb, .slice ak mk ck]] w _
 by_cases hr : 5 ≤ k ∧ k ≤ 9
 ·refine step_disk hc h0 hB i n cut k _ _ (fun W oW => ?_) hr.1 hr.2
  have hW := h.still oW
  have h0W : Only (fun _ => False) w0 W := h0.trans oW (fun _ _ g => g)
  have : k = 5 ∨ k = 6 ∨ k = 7 ∨ k = 8 ∨ k = 9 := by omega
  rcases this with rfl | rfl | rfl | rfl | rfl
  ·exact disk_open hW h0W hB hm i n cut _ _
  ·exact disk_crash hW h0W hB hm i n cut _ ak mk ck ks hk
  ·exact disk_live hW h0W hB hm i n cut _ _ hn
  ·exact disk_sector hW h0W hB hm i n cut ab b.length cb b hb _
  ·exact disk_format hW h0W hB hm i n cut _ _
 ·have hok : PlOk w B P p S q K N (m + 4000) := ⟨pv, d, rv, rs, sv, rp, hc, hs, hf.mono (by omega)⟩
  rcases hc.ops hs hf hm (Nat.le_refl _) with ⟨rfl, rfl⟩ | ⟨s, r, rfl, rfl, hops⟩
  ·by_cases h5 : 5 ≤ k
   ·exact step_none_hi hc h0 hB hok i n cut k h5 (fun g => hr ⟨h5, g⟩) _ _
   ·exact step_none_lo hc h0 hB hok i n cut k h5 _ _
  ·by_cases k1 : k = 1
   ·subst k1; exact step_get hc h0 hB hops i n cut _ _
   ·by_cases k2 : k = 2
    ·subst k2; exact step_drop hc h0 hB hops i n cut _ _
    ·by_cases k3 : k = 3
     ·subst k3; exact step_commit hc h0 hB hops i n cut _ _
     ·by_cases k4 : k = 4
      ·subst k4; exact step_roll hc h0 hB hops i n cut _ _
      ·by_cases h5 : 5 ≤ k
       ·exact step_put_hi hc h0 hB hops i n cut k k1 k2 k3 k4 h5 (fun g => hr ⟨h5, g⟩) ab b.length cb b hb _
       ·exact step_put_lo hc h0 hB hops i n cut k k1 k2 k3 k4 h5 ab b.length cb b hb _
end Go.Proofs.YtlcglapcmdpkfaaGreat
