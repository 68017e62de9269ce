/- One call of a script on both disks. -/
import Derived.Test.YtdcflnfdaijpdaaE6
import Derived.BigQuiet
import Derived.OpenShut
namespace Go.Proofs.Ytdcflnfdaijpdaa
open Go.RowKit
set_option linter.unusedSimpArgs false
set_option linter.unusedVariables false

set_option maxRecDepth 100000 in
set_option maxHeartbeats 4000000 in
theorem step_read {w0 w : World} {p S : Nat} {pv : Value} {r K : Nat} {rv : Value} {rs : List RW} {d : DS} {X : Nat} (h : Both w0 w p S pv r K rv rs d X) (hp : d.pend.length ≤ 1048576000) (P s i : Int) (vb : Value) :
    Calls Try.prog 21 #[.pointer (some ⟨p, 0, none⟩), .pointer (some ⟨r, 0, none⟩), .agg #[.int .i64 1, .int .i64 P, .int .i64 s, .int .u32 i, vb]] w fun e w' => e = .returned (.bool true) ∧ Hid (Next w0 w' p S r K d) := by
  obtain ⟨wx, hwx⟩ : ∃ q, q = w.alloc (.cells #[.int .i64 1, .int .i64 P, .int .i64 s, .int .u32 i, vb] 47) := ⟨_, rfl⟩
  obtain ⟨Bx, hBx⟩ : ∃ q, q = w.heap.size := ⟨_, rfl⟩
  have oX : Only (fun _ => False) w wx := by rw [hwx]; exact (Only.refl _ w).alloc _
  have bX : wx.heap[Bx]? = some (.cells #[.int .i64 1, .int .i64 P, .int .i64 s, .int .u32 i, vb] 47 (0, 0)) := by rw [hwx, hBx]; exact heap_alloc_new w _
  have x0 : wx.cell? ⟨Bx, 0, none⟩ = some (.int .i64 1) := by rw [cell_of_row _ _ _ _ _ _ bX]; rfl
  have x1 : wx.cell? ⟨Bx, 1, none⟩ = some (.int .i64 P) := by rw [cell_of_row _ _ _ _ _ _ bX]; rfl
  have x2 : wx.cell? ⟨Bx, 2, none⟩ = some (.int .i64 s) := by rw [cell_of_row _ _ _ _ _ _ bX]; rfl
  have x3 : wx.cell? ⟨Bx, 3, none⟩ = some (.int .u32 i) := by rw [cell_of_row _ _ _ _ _ _ bX]; rfl
  have x4 : wx.cell? ⟨Bx, 4, none⟩ = some (vb) := by rw [cell_of_row _ _ _ _ _ _ bX]; rfl
  have HB : Hid (Both w0 wx p S pv r K rv rs d Bx) := (h.atX Bx (by omega)).frame oX
  have HW : Hid (wx = w.alloc (.cells #[.int .i64 1, .int .i64 P, .int .i64 s, .int .u32 i, vb] 47)) := hwx
  have HX : Hid (Bx = w.heap.size) := hBx
  have hBl : Bx < wx.heap.size := by rw [hwx, hBx]; simp
  clear hwx hBx oX bX h
  go_enter Try.func21, Try.ntmps21
  go_wp2_with fail
  rw [← HW.out, ← HX.out]
  refine (both_page HB.out hp P).mono ?_
  rintro e w1 ⟨k, q, x, rfl, HK1, HC1⟩
  have y1 := HK1.out 1 _ x1
  clear x0 x1 x2 x3 x4
  go_wp2_with fail
  refine (show Calls Try.prog 35 _ _ _ from HC1.out).mono ?_
  rintro e w2 ⟨y, rfl, HC2⟩
  clear y1 HC1
  go_wp2_with fail
  refine (show Calls Try.prog 17 _ _ _ from HC2.out).mono ?_
  rintro e w3 ⟨rfl, HN⟩
  clear HC2
  go_wp2
  go_ret
  exact ⟨rfl, HN⟩
set_option maxRecDepth 100000 in
set_option maxHeartbeats 4000000 in
theorem step_barrier {w0 w : World} {p S : Nat} {pv : Value} {r K : Nat} {rv : Value} {rs : List RW} {d : DS} {X : Nat} (h : Both w0 w p S pv r K rv rs d X) (hp : d.pend.length ≤ 1048576000) (P s i : Int) (vb : Value) :
    Calls Try.prog 21 #[.pointer (some ⟨p, 0, none⟩), .pointer (some ⟨r, 0, none⟩), .agg #[.int .i64 3, .int .i64 P, .int .i64 s, .int .u32 i, vb]] w fun e w' => e = .returned (.bool true) ∧ Hid (Next w0 w' p S r K d) := by
  obtain ⟨wx, hwx⟩ : ∃ q, q = w.alloc (.cells #[.int .i64 3, .int .i64 P, .int .i64 s, .int .u32 i, vb] 47) := ⟨_, rfl⟩
  obtain ⟨Bx, hBx⟩ : ∃ q, q = w.heap.size := ⟨_, rfl⟩
  have oX : Only (fun _ => False) w wx := by rw [hwx]; exact (Only.refl _ w).alloc _
  have bX : wx.heap[Bx]? = some (.cells #[.int .i64 3, .int .i64 P, .int .i64 s, .int .u32 i, vb] 47 (0, 0)) := by rw [hwx, hBx]; exact heap_alloc_new w _
  have x0 : wx.cell? ⟨Bx, 0, none⟩ = some (.int .i64 3) := by rw [cell_of_row _ _ _ _ _ _ bX]; rfl
  have x1 : wx.cell? ⟨Bx, 1, none⟩ = some (.int .i64 P) := by rw [cell_of_row _ _ _ _ _ _ bX]; rfl
  have x2 : wx.cell? ⟨Bx, 2, none⟩ = some (.int .i64 s) := by rw [cell_of_row _ _ _ _ _ _ bX]; rfl
  have x3 : wx.cell? ⟨Bx, 3, none⟩ = some (.int .u32 i) := by rw [cell_of_row _ _ _ _ _ _ bX]; rfl
  have x4 : wx.cell? ⟨Bx, 4, none⟩ = some (vb) := by rw [cell_of_row _ _ _ _ _ _ bX]; rfl
  have HB : Hid (Both w0 wx p S pv r K rv rs d Bx) := (h.atX Bx (by omega)).frame oX
  have HW : Hid (wx = w.alloc (.cells #[.int .i64 3, .int .i64 P, .int .i64 s, .int .u32 i, vb] 47)) := hwx
  have HX : Hid (Bx = w.heap.size) := hBx
  have hBl : Bx < wx.heap.size := by rw [hwx, hBx]; simp
  clear hwx hBx oX bX h
  go_enter Try.func21, Try.ntmps21
  go_wp2_with fail
  rw [← HW.out]
  refine (both_barrier HB.out (by omega)).mono ?_
  rintro e w1 ⟨q, rfl, HC1⟩
  clear x0 x1 x2 x3 x4
  go_wp2_with fail
  refine (show Calls Try.prog 40 _ _ _ from HC1.out).mono ?_
  rintro e w2 ⟨rfl, HN⟩
  clear HC1
  go_wp2
  go_ret
  exact ⟨rfl, HN⟩
set_option maxRecDepth 100000 in
set_option maxHeartbeats 4000000 in
theorem step_live {w0 w : World} {p S : Nat} {pv : Value} {r K : Nat} {rv : Value} {rs : List RW} {d : DS} {X : Nat} (h : Both w0 w p S pv r K rv rs d X) (hp : d.pend.length ≤ 1048576000) (P s i : Int) (vb : Value) (hs : s ≤ 9223372036854775807) :
    Calls Try.prog 21 #[.pointer (some ⟨p, 0, none⟩), .pointer (some ⟨r, 0, none⟩), .agg #[.int .i64 4, .int .i64 P, .int .i64 s, .int .u32 i, vb]] w fun e w' => e = .returned (.bool true) ∧ Hid (Next w0 w' p S r K d) := by
  obtain ⟨wx, hwx⟩ : ∃ q, q = w.alloc (.cells #[.int .i64 4, .int .i64 P, .int .i64 s, .int .u32 i, vb] 47) := ⟨_, rfl⟩
  obtain ⟨Bx, hBx⟩ : ∃ q, q = w.heap.size := ⟨_, rfl⟩
  have oX : Only (fun _ => False) w wx := by rw [hwx]; exact (Only.refl _ w).alloc _
  have bX : wx.heap[Bx]? = some (.cells #[.int .i64 4, .int .i64 P, .int .i64 s, .int .u32 i, vb] 47 (0, 0)) := by rw [hwx, hBx]; exact heap_alloc_new w _
  have x0 : wx.cell? ⟨Bx, 0, none⟩ = some (.int .i64 4) := by rw [cell_of_row _ _ _ _ _ _ bX]; rfl
  have x1 : wx.cell? ⟨Bx, 1, none⟩ = some (.int .i64 P) := by rw [cell_of_row _ _ _ _ _ _ bX]; rfl
  have x2 : wx.cell? ⟨Bx, 2, none⟩ = some (.int .i64 s) := by rw [cell_of_row _ _ _ _ _ _ bX]; rfl
  have x3 : wx.cell? ⟨Bx, 3, none⟩ = some (.int .u32 i) := by rw [cell_of_row _ _ _ _ _ _ bX]; rfl
  have x4 : wx.cell? ⟨Bx, 4, none⟩ = some (vb) := by rw [cell_of_row _ _ _ _ _ _ bX]; rfl
  have HB : Hid (Both w0 wx p S pv r K rv rs d Bx) := (h.atX Bx (by omega)).frame oX
  have HW : Hid (wx = w.alloc (.cells #[.int .i64 4, .int .i64 P, .int .i64 s, .int .u32 i, vb] 47)) := hwx
  have HX : Hid (Bx = w.heap.size) := hBx
  have hBl : Bx < wx.heap.size := by rw [hwx, hBx]; simp
  clear hwx hBx oX bX h
  have HC : Hid (Calls Try.prog 41 #[.pointer (some ⟨p, 0, none⟩), .int .i64 s] wx.drew fun e w1 => ∃ q, e = .returned (.int .i64 q) ∧ Hid (KeepX Bx wx w1) ∧ Hid (Calls Try.prog 42 #[.pointer (some ⟨r, 0, none⟩), .int .i64 s] w1 fun e w2 => e = .returned (.int .i64 q) ∧ Hid (KeepX Bx wx w2) ∧ Hid (Next w0 w2 p S r K d))) :=
    both_live (HB.out.frame ((Only.refl _ wx).drew)) s hs
  go_enter Try.func21, Try.ntmps21
  go_wp2_with fail
  rw [← HW.out, ← HX.out]
  clear x0 x1 x3 x4
  go_region_held3 (fun w' => w'.cell? ⟨Bx, 2, none⟩ = some (.int .i64 s)) (first | exact HK2.out 2 _ x2 | exact HK1.out 2 _ x2 | go_keep)
    (first
      | (go_at_call 41; refine (show Calls Try.prog 41 _ _ _ from HC.out).mono ?_; rintro e w1 ⟨q, rfl, HK1, HC1⟩)
      | (go_at_call 42; refine (show Calls Try.prog 42 _ _ _ from HC1.out).mono ?_; rintro e w2 ⟨rfl, HK2, HN⟩))
  clear HC HC1 HK1 HK2 x2
  go_wp2
  go_ret
  exact ⟨rfl, HN⟩
set_option maxRecDepth 100000 in
set_option maxHeartbeats 4000000 in
theorem step_sector {w0 w : World} {p S : Nat} {pv : Value} {r K : Nat} {rv : Value} {rs : List RW} {d : DS} {X : Nat} (h : Both w0 w p S pv r K rv rs d X) (hp : d.pend.length ≤ 1048576000) (P s i : Int) (vb : Value) (D : List Nat) (hv : BytesAt w0 vb D) :
    Calls Try.prog 21 #[.pointer (some ⟨p, 0, none⟩), .pointer (some ⟨r, 0, none⟩), .agg #[.int .i64 2, .int .i64 P, .int .i64 s, .int .u32 i, vb]] w fun e w' => e = .returned (.bool true) ∧ Hid (Next w0 w' p S r K d) := by
  obtain ⟨wx, hwx⟩ : ∃ q, q = w.alloc (.cells #[.int .i64 2, .int .i64 P, .int .i64 s, .int .u32 i, vb] 47) := ⟨_, rfl⟩
  obtain ⟨Bx, hBx⟩ : ∃ q, q = w.heap.size := ⟨_, rfl⟩
  have oX : Only (fun _ => False) w wx := by rw [hwx]; exact (Only.refl _ w).alloc _
  have bX : wx.heap[Bx]? = some (.cells #[.int .i64 2, .int .i64 P, .int .i64 s, .int .u32 i, vb] 47 (0, 0)) := by rw [hwx, hBx]; exact heap_alloc_new w _
  have x0 : wx.cell? ⟨Bx, 0, none⟩ = some (.int .i64 2) := by rw [cell_of_row _ _ _ _ _ _ bX]; rfl
  have x1 : wx.cell? ⟨Bx, 1, none⟩ = some (.int .i64 P) := by rw [cell_of_row _ _ _ _ _ _ bX]; rfl
  have x2 : wx.cell? ⟨Bx, 2, none⟩ = some (.int .i64 s) := by rw [cell_of_row _ _ _ _ _ _ bX]; rfl
  have x3 : wx.cell? ⟨Bx, 3, none⟩ = some (.int .u32 i) := by rw [cell_of_row _ _ _ _ _ _ bX]; rfl
  have x4 : wx.cell? ⟨Bx, 4, none⟩ = some (vb) := by rw [cell_of_row _ _ _ _ _ _ bX]; rfl
  have HB : Hid (Both w0 wx p S pv r K rv rs d Bx) := (h.atX Bx (by omega)).frame oX
  have HW : Hid (wx = w.alloc (.cells #[.int .i64 2, .int .i64 P, .int .i64 s, .int .u32 i, vb] 47)) := hwx
  have HX : Hid (Bx = w.heap.size) := hBx
  have hBl : Bx < wx.heap.size := by rw [hwx, hBx]; simp
  clear hwx hBx oX bX h
  have HC : Hid (Calls Try.prog 37 #[vb] wx.drew fun e w1 => ∃ a1 m1 c1, e = .returned (.slice a1 m1 c1) ∧ Hid (KeepX Bx wx w1) ∧
      Hid (Calls Try.prog 36 #[.pointer (some ⟨p, 0, none⟩), .int .i64 s, .slice a1 m1 c1] w1 fun e w2 => ∃ q, e = .returned (.int .i64 q) ∧ Hid (KeepX Bx wx w2) ∧
        Hid (Calls Try.prog 37 #[vb] w2 fun e w3 => ∃ a3 m3 c3, e = .returned (.slice a3 m3 c3) ∧ Hid (KeepX Bx wx w3) ∧
          Hid (Calls Try.prog 38 #[.pointer (some ⟨r, 0, none⟩), .int .i64 s, .slice a3 m3 c3] w3 fun e w4 => e = .returned (.int .i64 q) ∧ Hid (KeepX Bx wx w4) ∧ Hid (Next w0 w4 p S r K d))))) :=
    both_sector (HB.out.frame ((Only.refl _ wx).drew)) hp s vb D hv hBl
  clear hv
  go_enter Try.func21, Try.ntmps21
  go_wp2_with fail
  rw [← HW.out, ← HX.out]
  clear x0 x1 x3
  go_region_held3 (fun w' => w'.cell? ⟨Bx, 2, none⟩ = some (.int .i64 s) ∧ w'.cell? ⟨Bx, 4, none⟩ = some vb) (first | exact ⟨HK4.out 2 _ x2, HK4.out 4 _ x4⟩ | exact ⟨HK3.out 2 _ x2, HK3.out 4 _ x4⟩ | exact ⟨HK2.out 2 _ x2, HK2.out 4 _ x4⟩ | exact ⟨HK1.out 2 _ x2, HK1.out 4 _ x4⟩ | go_keep)
    (first
      | (go_at_call 37; refine (show Calls Try.prog 37 _ _ _ from HC2.out).mono ?_; rintro e w3 ⟨a3, m3, c3, rfl, HK3, HC3⟩)
      | (go_at_call 37; refine (show Calls Try.prog 37 _ _ _ from HC.out).mono ?_; rintro e w1 ⟨a1, m1, c1, rfl, HK1, HC1⟩)
      | (go_at_call 36; refine (show Calls Try.prog 36 _ _ _ from HC1.out).mono ?_; rintro e w2 ⟨q, rfl, HK2, HC2⟩)
      | (go_at_call 38; refine (show Calls Try.prog 38 _ _ _ from HC3.out).mono ?_; rintro e w4 ⟨rfl, HK4, HN⟩))
  clear HC HC1 HC2 HC3 HK1 HK2 HK3 HK4 x2 x4
  go_wp2
  go_ret
  exact ⟨rfl, HN⟩
set_option maxRecDepth 100000 in
set_option maxHeartbeats 4000000 in
theorem step_write {w0 w : World} {p S : Nat} {pv : Value} {r K : Nat} {rv : Value} {rs : List RW} {d : DS} {X : Nat} (h : Both w0 w p S pv r K rv rs d X) (hp : d.pend.length ≤ 1048576000) (kd P s i : Int) (ab : Option Addr) (mb cb : Nat) (id : Nat) (hid : id < 4294967296) (hii : i = (id : Int)) (D : List Nat) (hv : BytesAt w0 (.slice ab mb cb) D) (k1 : ¬ kd = 1) (k2 : ¬ kd = 2) (k3 : ¬ kd = 3) (k4 : ¬ kd = 4) (k5 : ¬ kd = 5) :
    Calls Try.prog 21 #[.pointer (some ⟨p, 0, none⟩), .pointer (some ⟨r, 0, none⟩), .agg #[.int .i64 kd, .int .i64 P, .int .i64 s, .int .u32 i, .slice ab mb cb]] w fun e w' => e = .returned (.bool true) ∧ Hid (Next w0 w' p S r K d) := by
  obtain ⟨wx, hwx⟩ : ∃ q, q = w.alloc (.cells #[.int .i64 kd, .int .i64 P, .int .i64 s, .int .u32 i, .slice ab mb cb] 47) := ⟨_, rfl⟩
  obtain ⟨Bx, hBx⟩ : ∃ q, q = w.heap.size := ⟨_, rfl⟩
  have oX : Only (fun _ => False) w wx := by rw [hwx]; exact (Only.refl _ w).alloc _
  have bX : wx.heap[Bx]? = some (.cells #[.int .i64 kd, .int .i64 P, .int .i64 s, .int .u32 i, .slice ab mb cb] 47 (0, 0)) := by rw [hwx, hBx]; exact heap_alloc_new w _
  have x0 : wx.cell? ⟨Bx, 0, none⟩ = some (.int .i64 kd) := by rw [cell_of_row _ _ _ _ _ _ bX]; rfl
  have x1 : wx.cell? ⟨Bx, 1, none⟩ = some (.int .i64 P) := by rw [cell_of_row _ _ _ _ _ _ bX]; rfl
  have x2 : wx.cell? ⟨Bx, 2, none⟩ = some (.int .i64 s) := by rw [cell_of_row _ _ _ _ _ _ bX]; rfl
  have x3 : wx.cell? ⟨Bx, 3, none⟩ = some (.int .u32 i) := by rw [cell_of_row _ _ _ _ _ _ bX]; rfl
  have x4 : wx.cell? ⟨Bx, 4, none⟩ = some (.slice ab mb cb) := by rw [cell_of_row _ _ _ _ _ _ bX]; rfl
  have HB : Hid (Both w0 wx p S pv r K rv rs d Bx) := (h.atX Bx (by omega)).frame oX
  have HW : Hid (wx = w.alloc (.cells #[.int .i64 kd, .int .i64 P, .int .i64 s, .int .u32 i, .slice ab mb cb] 47)) := hwx
  have HX : Hid (Bx = w.heap.size) := hBx
  have hBl : Bx < wx.heap.size := by rw [hwx, hBx]; simp
  clear hwx hBx oX bX h
  have HC : Hid (Calls Try.prog 11 #[.slice ab mb cb] wx.drew fun e w1 => ∃ u, e = .returned u ∧ Hid (KeepX Bx wx w1) ∧
      Hid (Calls Try.prog 25 #[.pointer (some ⟨p, 0, none⟩), .int .i64 P, .int .u32 i, u] w1 fun e w2 => ∃ q, e = .returned (.int .i64 q) ∧ Hid (KeepX Bx wx w2) ∧
        Hid (Calls Try.prog 45 #[.pointer (some ⟨r, 0, none⟩), .int .i64 P, .int .u32 i, .slice ab mb cb] w2 fun e w3 => e = .returned (.int .i64 q) ∧ Hid (KeepX Bx wx w3) ∧ Hid (Next w0 w3 p S r K d)))) := by
    rw [hii]
    exact both_pwrite (HB.out.frame ((Only.refl _ wx).drew)) hp P id hid _ D hv hBl
  clear hv hii
  go_enter Try.func21, Try.ntmps21
  go_wp2_with fail
  rw [← HW.out, ← HX.out]
  clear x0 x2
  go_region_held3 (fun w' => w'.cell? ⟨Bx, 1, none⟩ = some (.int .i64 P) ∧ w'.cell? ⟨Bx, 3, none⟩ = some (.int .u32 i) ∧ w'.cell? ⟨Bx, 4, none⟩ = some (.slice ab mb cb)) (first | exact ⟨HK3.out 1 _ x1, HK3.out 3 _ x3, HK3.out 4 _ x4⟩ | exact ⟨HK2.out 1 _ x1, HK2.out 3 _ x3, HK2.out 4 _ x4⟩ | exact ⟨HK1.out 1 _ x1, HK1.out 3 _ x3, HK1.out 4 _ x4⟩ | go_keep)
    (first
      | (go_at_call 11; refine (show Calls Try.prog 11 _ _ _ from HC.out).mono ?_; rintro e w1 ⟨u1, rfl, HK1, HC1⟩)
      | (go_at_call 25; refine (show Calls Try.prog 25 _ _ _ from HC1.out).mono ?_; rintro e w2 ⟨q, rfl, HK2, HC2⟩)
      | (go_at_call 45; refine (show Calls Try.prog 45 _ _ _ from HC2.out).mono ?_; rintro e w3 ⟨rfl, HK3, HN⟩))
  clear HC HC1 HC2 HK1 HK2 HK3 x1 x3 x4
  go_wp2
  go_ret
  exact ⟨rfl, HN⟩
end Go.Proofs.Ytdcflnfdaijpdaa
