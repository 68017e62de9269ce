import Derived.Test.YtlcglapcmdpkfaaGreatG35
import Derived.Deep.CutRange
import Derived.BigQuiet
import Derived.OpenShut
import Derived.Deep.RegionHeld3
namespace Go.Proofs.YtlcglapcmdpkfaaGreat
open Go.RowKit Go.Maps
set_option linter.unusedSimpArgs false
set_option linter.unusedVariables false
set_option maxRecDepth 100000 in
set_option maxHeartbeats 4000000 in
theorem step_drop {w0 w : World} {B P p S q K N m : Nat} {s r : Nat} {pv d rv rs} (hc : PlC w B P p S q K pv d rv rs d (.pointer (some ⟨s, 0, none⟩)) (.pointer (some ⟨r, 0, none⟩))) (h0 : Only (fun _ => False) w0 w) (hB : B = w0.heap.size) (hops : OpsOk w B P p S q K N (m + 4000) w.heap.size s r) (i n cut : Int) (vb vk : Value) :
  Calls Tryz.prog 7 #[.pointer (some ⟨P, 0, none⟩), .agg #[.int .i64 2, .int .i64 i, .int .i64 n, .int .i64 cut, vb, vk]] w fun e w' => e = .returned (.bool true) ∧ Hid (PlOk w' B P p S q K N (m + 4000) ∧ Only (fun k => B ≤ k) w w') := by
 obtain ⟨wx, hwx⟩ : ∃ z, z = w.alloc (.cells #[.int .i64 2, .int .i64 i, .int .i64 n, .int .i64 cut, vb, vk] 40) := ⟨_, rfl⟩
 obtain ⟨Bx, hBx⟩ : ∃ z, z = w.heap.size := ⟨_, rfl⟩
 have oX : Only (fun _ => False) w wx := by rw [hwx]; exact (Only.refl _ w).alloc _
 have bX : wx.heap[Bx]? = some (.cells #[.int .i64 2, .int .i64 i, .int .i64 n, .int .i64 cut, vb, vk] 40 (0, 0)) := by rw [hwx, hBx]; exact heap_alloc_new w _
 have x0 : wx.cell? ⟨Bx, 0, none⟩ = some (.int .i64 2) := by rw [cell_of_row _ _ _ _ _ _ bX]; rfl
 have x1 : wx.cell? ⟨Bx, 1, none⟩ = some (.int .i64 i) := by rw [cell_of_row _ _ _ _ _ _ bX]; rfl
 have x2 : wx.cell? ⟨Bx, 2, none⟩ = some (.int .i64 n) := by rw [cell_of_row _ _ _ _ _ _ bX]; rfl
 have x3 : wx.cell? ⟨Bx, 3, none⟩ = some (.int .i64 cut) := by rw [cell_of_row _ _ _ _ _ _ bX]; rfl
 have x4 : wx.cell? ⟨Bx, 4, none⟩ = some (vb) := by rw [cell_of_row _ _ _ _ _ _ bX]; rfl
 have x5 : wx.cell? ⟨Bx, 5, none⟩ = some (vk) := by rw [cell_of_row _ _ _ _ _ _ bX]; rfl
 have hcx : PlC wx B P p S q K pv d rv rs d (.pointer (some ⟨s, 0, none⟩)) (.pointer (some ⟨r, 0, none⟩)) := hc.still oX
 have z0 : wx.cell? ⟨P, 0, none⟩ = some (.pointer (some ⟨p, 0, none⟩)) := hcx.pc 0 _ rfl
 have z1 : wx.cell? ⟨P, 1, none⟩ = some (.pointer (some ⟨q, 0, none⟩)) := hcx.pc 1 _ rfl
 have z2 : wx.cell? ⟨P, 2, none⟩ = some (.pointer (some ⟨s, 0, none⟩)) := hcx.pc 2 _ rfl
 have z3 : wx.cell? ⟨P, 3, none⟩ = some (.pointer (some ⟨r, 0, none⟩)) := hcx.pc 3 _ rfl
 have O0 : Hid (Only (fun _ => False) w0 wx) := h0.trans oX (fun _ _ g => g)
 have OX : Hid (Only (fun _ => False) w wx) := oX
 have HW : Hid (wx = w.alloc (.cells #[.int .i64 2, .int .i64 i, .int .i64 n, .int .i64 cut, vb, vk] 40)) := hwx
 have HX : Hid (Bx = w.heap.size) := hBx
 have oD : Only (fun _ => False) w wx.drew := oX.drew
 clear hwx bX hc
 have HC0 := hops.drop wx.drew oD i
 rw [← hBx] at HC0
 obtain ⟨Y, HC⟩ := HC0
 have HC1 : Hid _ := HC
 clear HC
 clear hcx oX oD h0 hB hops hBx x2 x3 x4 x5 z0 z1
 go_enter Tryz.func7, Tryz.ntmps7
 go_upto_region 3 with fail
 rw [← HW.out, ← HX.out]
 go_wp2_with fail
 go_region_held3 (fun w' => w'.cell? ⟨P, 2, none⟩ = some (.pointer (some ⟨s, 0, none⟩)) ∧ w'.cell? ⟨P, 3, none⟩ = some (.pointer (some ⟨r, 0, none⟩)) ∧ w'.cell? ⟨Bx, 1, none⟩ = some (.int .i64 i)) (first | exact ⟨HK3.out P (.inl rfl) 2 _ z2, HK3.out P (.inl rfl) 3 _ z3, HK3.out Bx (.inr rfl) 1 _ x1⟩ | exact ⟨HK2.out P (.inl rfl) 2 _ z2, HK2.out P (.inl rfl) 3 _ z3, HK2.out Bx (.inr rfl) 1 _ x1⟩ | exact ⟨HK1.out P (.inl rfl) 2 _ z2, HK1.out P (.inl rfl) 3 _ z3, HK1.out Bx (.inr rfl) 1 _ x1⟩ | go_keep)
  (first
   | (go_at_call 18; refine (show Calls Tryz.prog 18 _ _ _ from HC1.out).mono ?_; rintro e w1 ⟨rfl, HK1, HC2⟩)
   | (go_at_call 19; refine (show Calls Tryz.prog 19 _ _ _ from HC2.out).mono ?_; rintro e w2 ⟨rfl, HK2, HC3⟩)
   | (go_at_call 16; refine (show Calls Tryz.prog 16 _ _ _ from HC3.out).mono ?_; rintro e w3 ⟨rfl, HK3, HN⟩))
 clear HC1 HC2 HC3 HK1 HK2 HK3
 go_wp2
 go_ret
 exact ⟨rfl, HN.out.1, (OX.out.drew.mono (fun _ _ g => g.elim)).trans HN.out.2 (fun _ _ g => g)⟩
set_option maxRecDepth 100000 in
set_option maxHeartbeats 4000000 in
theorem step_roll {w0 w : World} {B P p S q K N m : Nat} {s r : Nat} {pv d rv rs} (hc : PlC w B P p S q K pv d rv rs d (.pointer (some ⟨s, 0, none⟩)) (.pointer (some ⟨r, 0, none⟩))) (h0 : Only (fun _ => False) w0 w) (hB : B = w0.heap.size) (hops : OpsOk w B P p S q K N (m + 4000) w.heap.size s r) (i n cut : Int) (vb vk : Value) :
  Calls Tryz.prog 7 #[.pointer (some ⟨P, 0, none⟩), .agg #[.int .i64 4, .int .i64 i, .int .i64 n, .int .i64 cut, vb, vk]] w fun e w' => e = .returned (.bool true) ∧ Hid (PlOk w' B P p S q K N (m + 4000) ∧ Only (fun k => B ≤ k) w w') := by
 obtain ⟨wx, hwx⟩ : ∃ z, z = w.alloc (.cells #[.int .i64 4, .int .i64 i, .int .i64 n, .int .i64 cut, vb, vk] 40) := ⟨_, rfl⟩
 obtain ⟨Bx, hBx⟩ : ∃ z, z = w.heap.size := ⟨_, rfl⟩
 have oX : Only (fun _ => False) w wx := by rw [hwx]; exact (Only.refl _ w).alloc _
 have bX : wx.heap[Bx]? = some (.cells #[.int .i64 4, .int .i64 i, .int .i64 n, .int .i64 cut, vb, vk] 40 (0, 0)) := by rw [hwx, hBx]; exact heap_alloc_new w _
 have x0 : wx.cell? ⟨Bx, 0, none⟩ = some (.int .i64 4) := by rw [cell_of_row _ _ _ _ _ _ bX]; rfl
 have x1 : wx.cell? ⟨Bx, 1, none⟩ = some (.int .i64 i) := by rw [cell_of_row _ _ _ _ _ _ bX]; rfl
 have x2 : wx.cell? ⟨Bx, 2, none⟩ = some (.int .i64 n) := by rw [cell_of_row _ _ _ _ _ _ bX]; rfl
 have x3 : wx.cell? ⟨Bx, 3, none⟩ = some (.int .i64 cut) := by rw [cell_of_row _ _ _ _ _ _ bX]; rfl
 have x4 : wx.cell? ⟨Bx, 4, none⟩ = some (vb) := by rw [cell_of_row _ _ _ _ _ _ bX]; rfl
 have x5 : wx.cell? ⟨Bx, 5, none⟩ = some (vk) := by rw [cell_of_row _ _ _ _ _ _ bX]; rfl
 have hcx : PlC wx B P p S q K pv d rv rs d (.pointer (some ⟨s, 0, none⟩)) (.pointer (some ⟨r, 0, none⟩)) := hc.still oX
 have z0 : wx.cell? ⟨P, 0, none⟩ = some (.pointer (some ⟨p, 0, none⟩)) := hcx.pc 0 _ rfl
 have z1 : wx.cell? ⟨P, 1, none⟩ = some (.pointer (some ⟨q, 0, none⟩)) := hcx.pc 1 _ rfl
 have z2 : wx.cell? ⟨P, 2, none⟩ = some (.pointer (some ⟨s, 0, none⟩)) := hcx.pc 2 _ rfl
 have z3 : wx.cell? ⟨P, 3, none⟩ = some (.pointer (some ⟨r, 0, none⟩)) := hcx.pc 3 _ rfl
 have O0 : Hid (Only (fun _ => False) w0 wx) := h0.trans oX (fun _ _ g => g)
 have OX : Hid (Only (fun _ => False) w wx) := oX
 have HW : Hid (wx = w.alloc (.cells #[.int .i64 4, .int .i64 i, .int .i64 n, .int .i64 cut, vb, vk] 40)) := hwx
 have HX : Hid (Bx = w.heap.size) := hBx
 have oD : Only (fun _ => False) w wx.drew := oX.drew
 clear hwx bX hc
 have HC0 := hops.roll wx.drew oD
 rw [← hBx] at HC0
 obtain ⟨Y, HC⟩ := HC0
 have HC1 : Hid _ := HC
 clear HC
 clear hcx oX oD h0 hB hops hBx x1 x2 x3 x4 x5 z0 z1
 go_enter Tryz.func7, Tryz.ntmps7
 go_upto_region 3 with fail
 rw [← HW.out, ← HX.out]
 go_wp2_with fail
 go_region_held3 (fun w' => w'.cell? ⟨P, 2, none⟩ = some (.pointer (some ⟨s, 0, none⟩)) ∧ w'.cell? ⟨P, 3, none⟩ = some (.pointer (some ⟨r, 0, none⟩))) (first | exact ⟨HK3.out P (.inl rfl) 2 _ z2, HK3.out P (.inl rfl) 3 _ z3⟩ | exact ⟨HK2.out P (.inl rfl) 2 _ z2, HK2.out P (.inl rfl) 3 _ z3⟩ | exact ⟨HK1.out P (.inl rfl) 2 _ z2, HK1.out P (.inl rfl) 3 _ z3⟩ | go_keep)
  (first
   | (go_at_call 23; refine (show Calls Tryz.prog 23 _ _ _ from HC1.out).mono ?_; rintro e w1 ⟨rfl, HK1, HC2⟩)
   | (go_at_call 24; refine (show Calls Tryz.prog 24 _ _ _ from HC2.out).mono ?_; rintro e w2 ⟨rfl, HK2, HC3⟩)
   | (go_at_call 16; refine (show Calls Tryz.prog 16 _ _ _ from HC3.out).mono ?_; rintro e w3 ⟨rfl, HK3, HN⟩))
 clear HC1 HC2 HC3 HK1 HK2 HK3
 go_wp2
 go_ret
 exact ⟨rfl, HN.out.1, (OX.out.drew.mono (fun _ _ g => g.elim)).trans HN.out.2 (fun _ _ g => g)⟩
set_option maxRecDepth 100000 in
set_option maxHeartbeats 4000000 in
theorem step_put_lo {w0 w : World} {B P p S q K N m : Nat} {s r : Nat} {pv d rv rs} (hc : PlC w B P p S q K pv d rv rs d (.pointer (some ⟨s, 0, none⟩)) (.pointer (some ⟨r, 0, none⟩))) (h0 : Only (fun _ => False) w0 w) (hB : B = w0.heap.size) (hops : OpsOk w B P p S q K N (m + 4000) w.heap.size s r) (i n cut : Int) (k : Int) (k1 : ¬ k = 1) (k2 : ¬ k = 2) (k3 : ¬ k = 3) (k4 : ¬ k = 4) (hk5 : ¬ 5 ≤ k) (ab : Option Addr) (mb cb : Nat) (b : List Nat) (hb : BytesAt w0 (.slice ab mb cb) b) (vk : Value) :
  Calls Tryz.prog 7 #[.pointer (some ⟨P, 0, none⟩), .agg #[.int .i64 k, .int .i64 i, .int .i64 n, .int .i64 cut, .slice ab mb cb, vk]] w fun e w' => e = .returned (.bool true) ∧ Hid (PlOk w' B P p S q K N (m + 4000) ∧ Only (fun k => B ≤ k) w w') := by
 obtain ⟨wx, hwx⟩ : ∃ z, z = w.alloc (.cells #[.int .i64 k, .int .i64 i, .int .i64 n, .int .i64 cut, .slice ab mb cb, vk] 40) := ⟨_, rfl⟩
 obtain ⟨Bx, hBx⟩ : ∃ z, z = w.heap.size := ⟨_, rfl⟩
 have oX : Only (fun _ => False) w wx := by rw [hwx]; exact (Only.refl _ w).alloc _
 have bX : wx.heap[Bx]? = some (.cells #[.int .i64 k, .int .i64 i, .int .i64 n, .int .i64 cut, .slice ab mb cb, vk] 40 (0, 0)) := by rw [hwx, hBx]; exact heap_alloc_new w _
 have x0 : wx.cell? ⟨Bx, 0, none⟩ = some (.int .i64 k) := by rw [cell_of_row _ _ _ _ _ _ bX]; rfl
 have x1 : wx.cell? ⟨Bx, 1, none⟩ = some (.int .i64 i) := by rw [cell_of_row _ _ _ _ _ _ bX]; rfl
 have x2 : wx.cell? ⟨Bx, 2, none⟩ = some (.int .i64 n) := by rw [cell_of_row _ _ _ _ _ _ bX]; rfl
 have x3 : wx.cell? ⟨Bx, 3, none⟩ = some (.int .i64 cut) := by rw [cell_of_row _ _ _ _ _ _ bX]; rfl
 have x4 : wx.cell? ⟨Bx, 4, none⟩ = some (.slice ab mb cb) := by rw [cell_of_row _ _ _ _ _ _ bX]; rfl
 have x5 : wx.cell? ⟨Bx, 5, none⟩ = some (vk) := by rw [cell_of_row _ _ _ _ _ _ bX]; rfl
 have hcx : PlC wx B P p S q K pv d rv rs d (.pointer (some ⟨s, 0, none⟩)) (.pointer (some ⟨r, 0, none⟩)) := hc.still oX
 have z0 : wx.cell? ⟨P, 0, none⟩ = some (.pointer (some ⟨p, 0, none⟩)) := hcx.pc 0 _ rfl
 have z1 : wx.cell? ⟨P, 1, none⟩ = some (.pointer (some ⟨q, 0, none⟩)) := hcx.pc 1 _ rfl
 have z2 : wx.cell? ⟨P, 2, none⟩ = some (.pointer (some ⟨s, 0, none⟩)) := hcx.pc 2 _ rfl
 have z3 : wx.cell? ⟨P, 3, none⟩ = some (.pointer (some ⟨r, 0, none⟩)) := hcx.pc 3 _ rfl
 have O0 : Hid (Only (fun _ => False) w0 wx) := h0.trans oX (fun _ _ g => g)
 have OX : Hid (Only (fun _ => False) w wx) := oX
 have HW : Hid (wx = w.alloc (.cells #[.int .i64 k, .int .i64 i, .int .i64 n, .int .i64 cut, .slice ab mb cb, vk] 40)) := hwx
 have HX : Hid (Bx = w.heap.size) := hBx
 have oD : Only (fun _ => False) w wx.drew := oX.drew
 clear hwx bX hc
 have hbx : BytesAt wx.drew (.slice ab mb cb) b := hb.frame (h0.trans oD (fun _ _ g => g))
 have HC : Hid (Calls Tryz.prog 25 #[.slice ab mb cb] wx.drew fun e w1 => ∃ a nn c, ∃ y : Int, e = .returned (.slice a nn c) ∧ Hid (KeepC P Bx wx.drew w1) ∧ Hid (Calls Tryz.prog 12 #[.pointer (some ⟨s, 0, none⟩), .int .i64 i, .slice a nn c] w1 fun e w2 => e = .returned (.int .i64 y) ∧ Hid (KeepC P Bx wx.drew w2) ∧ Hid (Calls Tryz.prog 26 #[.pointer (some ⟨r, 0, none⟩), .int .i64 i, .slice ab mb cb] w2 fun e w3 => e = .returned (.int .i64 y) ∧ Hid (KeepC P Bx wx.drew w3) ∧ Hid (Calls Tryz.prog 16 #[.pointer (some ⟨P, 0, none⟩)] w3 fun e w4 => e = .returned (.bool true) ∧ Hid (KeepC P Bx wx.drew w4) ∧ Hid (PlOk w4 B P p S q K N (m + 4000) ∧ Only (fun k => B ≤ k) wx.drew w4))))) := by
  refine (own_any _ b wx.drew hbx).mono ?_
  rintro e w1 ⟨u, rfl, hfr, ho1⟩
  obtain ⟨a, c, rfl⟩ := hfr.form
  have ow : Only (fun _ => False) w w1 := oD.trans ho1 (fun _ _ g => g)
  have k1 : KeepC P Bx wx.drew w1 := KeepC.of ho1 (fun g => g) (fun g => g)
  have hT := hops.put w1 ow i _ (.slice ab mb cb) b hfr.bytes (fun w2 ho2 => hb.frame ((h0.trans ow (fun _ _ g => g)).trans ho2 (fun k hk g => by omega)))
  rw [← hBx] at hT
  obtain ⟨y, hT⟩ := hT
  refine ⟨a, _, c, y, rfl, k1, hT.mono ?_⟩
  rintro e w2 ⟨rfl, HK2, HC2⟩
  refine ⟨rfl, k1.trans HK2.out, HC2.out.mono ?_⟩
  rintro e w3 ⟨rfl, HK3, HC3⟩
  refine ⟨rfl, k1.trans HK3.out, Calls.mono HC3.out ?_⟩
  rintro e w4 ⟨rfl, HK4, HN4⟩
  exact ⟨rfl, k1.trans HK4.out, HN4.out.1, (ho1.mono (fun _ _ g => g.elim)).trans HN4.out.2 (fun _ _ g => g)⟩
 clear hbx
 clear hcx oX oD h0 hB hops hBx x2 x3 x5 z0 z1 hb
 go_enter Tryz.func7, Tryz.ntmps7
 go_upto_region 3 with fail
 rw [← HW.out, ← HX.out]
 go_wp2_with fail
 go_region_held3 (fun w' => w'.cell? ⟨P, 2, none⟩ = some (.pointer (some ⟨s, 0, none⟩)) ∧ w'.cell? ⟨P, 3, none⟩ = some (.pointer (some ⟨r, 0, none⟩)) ∧ w'.cell? ⟨Bx, 1, none⟩ = some (.int .i64 i) ∧ w'.cell? ⟨Bx, 4, none⟩ = some (.slice ab mb cb)) (first | exact ⟨HK4.out P (.inl rfl) 2 _ z2, HK4.out P (.inl rfl) 3 _ z3, HK4.out Bx (.inr rfl) 1 _ x1, HK4.out Bx (.inr rfl) 4 _ x4⟩ | exact ⟨HK3.out P (.inl rfl) 2 _ z2, HK3.out P (.inl rfl) 3 _ z3, HK3.out Bx (.inr rfl) 1 _ x1, HK3.out Bx (.inr rfl) 4 _ x4⟩ | exact ⟨HK2.out P (.inl rfl) 2 _ z2, HK2.out P (.inl rfl) 3 _ z3, HK2.out Bx (.inr rfl) 1 _ x1, HK2.out Bx (.inr rfl) 4 _ x4⟩ | exact ⟨HK1.out P (.inl rfl) 2 _ z2, HK1.out P (.inl rfl) 3 _ z3, HK1.out Bx (.inr rfl) 1 _ x1, HK1.out Bx (.inr rfl) 4 _ x4⟩ | go_keep)
  (first
   | (go_at_call 25; refine (show Calls Tryz.prog 25 _ _ _ from HC.out).mono ?_; rintro e w1 ⟨a1, n1, c1, Y, rfl, HK1, HC1⟩)
   | (go_at_call 12; refine (show Calls Tryz.prog 12 _ _ _ from HC1.out).mono ?_; rintro e w2 ⟨rfl, HK2, HC2⟩)
   | (go_at_call 26; refine (show Calls Tryz.prog 26 _ _ _ from HC2.out).mono ?_; rintro e w3 ⟨rfl, HK3, HC3⟩)
   | (go_at_call 16; refine (show Calls Tryz.prog 16 _ _ _ from HC3.out).mono ?_; rintro e w4 ⟨rfl, HK4, HN⟩))
 clear HC HC1 HC2 HC3 HK1 HK2 HK3 HK4
 go_wp2
 go_ret
 exact ⟨rfl, HN.out.1, (OX.out.drew.mono (fun _ _ g => g.elim)).trans HN.out.2 (fun _ _ g => g)⟩
set_option maxRecDepth 100000 in
set_option maxHeartbeats 4000000 in
theorem step_put_hi {w0 w : World} {B P p S q K N m : Nat} {s r : Nat} {pv d rv rs} (hc : PlC w B P p S q K pv d rv rs d (.pointer (some ⟨s, 0, none⟩)) (.pointer (some ⟨r, 0, none⟩))) (h0 : Only (fun _ => False) w0 w) (hB : B = w0.heap.size) (hops : OpsOk w B P p S q K N (m + 4000) w.heap.size s r) (i n cut : Int) (k : Int) (k1 : ¬ k = 1) (k2 : ¬ k = 2) (k3 : ¬ k = 3) (k4 : ¬ k = 4) (hk5 : 5 ≤ k) (hk9 : ¬ k ≤ 9) (ab : Option Addr) (mb cb : Nat) (b : List Nat) (hb : BytesAt w0 (.slice ab mb cb) b) (vk : Value) :
  Calls Tryz.prog 7 #[.pointer (some ⟨P, 0, none⟩), .agg #[.int .i64 k, .int .i64 i, .int .i64 n, .int .i64 cut, .slice ab mb cb, vk]] w fun e w' => e = .returned (.bool true) ∧ Hid (PlOk w' B P p S q K N (m + 4000) ∧ Only (fun k => B ≤ k) w w') := by
 obtain ⟨wx, hwx⟩ : ∃ z, z = w.alloc (.cells #[.int .i64 k, .int .i64 i, .int .i64 n, .int .i64 cut, .slice ab mb cb, vk] 40) := ⟨_, rfl⟩
 obtain ⟨Bx, hBx⟩ : ∃ z, z = w.heap.size := ⟨_, rfl⟩
 have oX : Only (fun _ => False) w wx := by rw [hwx]; exact (Only.refl _ w).alloc _
 have bX : wx.heap[Bx]? = some (.cells #[.int .i64 k, .int .i64 i, .int .i64 n, .int .i64 cut, .slice ab mb cb, vk] 40 (0, 0)) := by rw [hwx, hBx]; exact heap_alloc_new w _
 have x0 : wx.cell? ⟨Bx, 0, none⟩ = some (.int .i64 k) := by rw [cell_of_row _ _ _ _ _ _ bX]; rfl
 have x1 : wx.cell? ⟨Bx, 1, none⟩ = some (.int .i64 i) := by rw [cell_of_row _ _ _ _ _ _ bX]; rfl
 have x2 : wx.cell? ⟨Bx, 2, none⟩ = some (.int .i64 n) := by rw [cell_of_row _ _ _ _ _ _ bX]; rfl
 have x3 : wx.cell? ⟨Bx, 3, none⟩ = some (.int .i64 cut) := by rw [cell_of_row _ _ _ _ _ _ bX]; rfl
 have x4 : wx.cell? ⟨Bx, 4, none⟩ = some (.slice ab mb cb) := by rw [cell_of_row _ _ _ _ _ _ bX]; rfl
 have x5 : wx.cell? ⟨Bx, 5, none⟩ = some (vk) := by rw [cell_of_row _ _ _ _ _ _ bX]; rfl
 have hcx : PlC wx B P p S q K pv d rv rs d (.pointer (some ⟨s, 0, none⟩)) (.pointer (some ⟨r, 0, none⟩)) := hc.still oX
 have z0 : wx.cell? ⟨P, 0, none⟩ = some (.pointer (some ⟨p, 0, none⟩)) := hcx.pc 0 _ rfl
 have z1 : wx.cell? ⟨P, 1, none⟩ = some (.pointer (some ⟨q, 0, none⟩)) := hcx.pc 1 _ rfl
 have z2 : wx.cell? ⟨P, 2, none⟩ = some (.pointer (some ⟨s, 0, none⟩)) := hcx.pc 2 _ rfl
 have z3 : wx.cell? ⟨P, 3, none⟩ = some (.pointer (some ⟨r, 0, none⟩)) := hcx.pc 3 _ rfl
 have O0 : Hid (Only (fun _ => False) w0 wx) := h0.trans oX (fun _ _ g => g)
 have OX : Hid (Only (fun _ => False) w wx) := oX
 have HW : Hid (wx = w.alloc (.cells #[.int .i64 k, .int .i64 i, .int .i64 n, .int .i64 cut, .slice ab mb cb, vk] 40)) := hwx
 have HX : Hid (Bx = w.heap.size) := hBx
 have oD : Only (fun _ => False) w wx.drew := oX.drew
 clear hwx bX hc
 have hbx : BytesAt wx.drew (.slice ab mb cb) b := hb.frame (h0.trans oD (fun _ _ g => g))
 have HC : Hid (Calls Tryz.prog 25 #[.slice ab mb cb] wx.drew fun e w1 => ∃ a nn c, ∃ y : Int, e = .returned (.slice a nn c) ∧ Hid (KeepC P Bx wx.drew w1) ∧ Hid (Calls Tryz.prog 12 #[.pointer (some ⟨s, 0, none⟩), .int .i64 i, .slice a nn c] w1 fun e w2 => e = .returned (.int .i64 y) ∧ Hid (KeepC P Bx wx.drew w2) ∧ Hid (Calls Tryz.prog 26 #[.pointer (some ⟨r, 0, none⟩), .int .i64 i, .slice ab mb cb] w2 fun e w3 => e = .returned (.int .i64 y) ∧ Hid (KeepC P Bx wx.drew w3) ∧ Hid (Calls Tryz.prog 16 #[.pointer (some ⟨P, 0, none⟩)] w3 fun e w4 => e = .returned (.bool true) ∧ Hid (KeepC P Bx wx.drew w4) ∧ Hid (PlOk w4 B P p S q K N (m + 4000) ∧ Only (fun k => B ≤ k) wx.drew w4))))) := by
  refine (own_any _ b wx.drew hbx).mono ?_
  rintro e w1 ⟨u, rfl, hfr, ho1⟩
  obtain ⟨a, c, rfl⟩ := hfr.form
  have ow : Only (fun _ => False) w w1 := oD.trans ho1 (fun _ _ g => g)
  have k1 : KeepC P Bx wx.drew w1 := KeepC.of ho1 (fun g => g) (fun g => g)
  have hT := hops.put w1 ow i _ (.slice ab mb cb) b hfr.bytes (fun w2 ho2 => hb.frame ((h0.trans ow (fun _ _ g => g)).trans ho2 (fun k hk g => by omega)))
  rw [← hBx] at hT
  obtain ⟨y, hT⟩ := hT
  refine ⟨a, _, c, y, rfl, k1, hT.mono ?_⟩
  rintro e w2 ⟨rfl, HK2, HC2⟩
  refine ⟨rfl, k1.trans HK2.out, HC2.out.mono ?_⟩
  rintro e w3 ⟨rfl, HK3, HC3⟩
  refine ⟨rfl, k1.trans HK3.out, Calls.mono HC3.out ?_⟩
  rintro e w4 ⟨rfl, HK4, HN4⟩
  exact ⟨rfl, k1.trans HK4.out, HN4.out.1, (ho1.mono (fun _ _ g => g.elim)).trans HN4.out.2 (fun _ _ g => g)⟩
 clear hbx
 clear hcx oX oD h0 hB hops hBx x2 x3 x5 z0 z1 hb
 go_enter Tryz.func7, Tryz.ntmps7
 go_upto_region 3 with fail
 rw [← HW.out, ← HX.out]
 go_wp2_with fail
 go_region_held3 (fun w' => w'.cell? ⟨P, 2, none⟩ = some (.pointer (some ⟨s, 0, none⟩)) ∧ w'.cell? ⟨P, 3, none⟩ = some (.pointer (some ⟨r, 0, none⟩)) ∧ w'.cell? ⟨Bx, 1, none⟩ = some (.int .i64 i) ∧ w'.cell? ⟨Bx, 4, none⟩ = some (.slice ab mb cb)) (first | exact ⟨HK4.out P (.inl rfl) 2 _ z2, HK4.out P (.inl rfl) 3 _ z3, HK4.out Bx (.inr rfl) 1 _ x1, HK4.out Bx (.inr rfl) 4 _ x4⟩ | exact ⟨HK3.out P (.inl rfl) 2 _ z2, HK3.out P (.inl rfl) 3 _ z3, HK3.out Bx (.inr rfl) 1 _ x1, HK3.out Bx (.inr rfl) 4 _ x4⟩ | exact ⟨HK2.out P (.inl rfl) 2 _ z2, HK2.out P (.inl rfl) 3 _ z3, HK2.out Bx (.inr rfl) 1 _ x1, HK2.out Bx (.inr rfl) 4 _ x4⟩ | exact ⟨HK1.out P (.inl rfl) 2 _ z2, HK1.out P (.inl rfl) 3 _ z3, HK1.out Bx (.inr rfl) 1 _ x1, HK1.out Bx (.inr rfl) 4 _ x4⟩ | go_keep)
  (first
   | (go_at_call 25; refine (show Calls Tryz.prog 25 _ _ _ from HC.out).mono ?_; rintro e w1 ⟨a1, n1, c1, Y, rfl, HK1, HC1⟩)
   | (go_at_call 12; refine (show Calls Tryz.prog 12 _ _ _ from HC1.out).mono ?_; rintro e w2 ⟨rfl, HK2, HC2⟩)
   | (go_at_call 26; refine (show Calls Tryz.prog 26 _ _ _ from HC2.out).mono ?_; rintro e w3 ⟨rfl, HK3, HC3⟩)
   | (go_at_call 16; refine (show Calls Tryz.prog 16 _ _ _ from HC3.out).mono ?_; rintro e w4 ⟨rfl, HK4, HN⟩))
 clear HC HC1 HC2 HC3 HK1 HK2 HK3 HK4
 go_wp2
 go_ret
 exact ⟨rfl, HN.out.1, (OX.out.drew.mono (fun _ _ g => g.elim)).trans HN.out.2 (fun _ _ g => g)⟩
set_option maxRecDepth 100000 in
set_option maxHeartbeats 4000000 in
theorem step_get {w0 w : World} {B P p S q K N m : Nat} {s r : Nat} {pv d rv rs} (hc : PlC w B P p S q K pv d rv rs d (.pointer (some ⟨s, 0, none⟩)) (.pointer (some ⟨r, 0, none⟩))) (h0 : Only (fun _ => False) w0 w) (hB : B = w0.heap.size) (hops : OpsOk w B P p S q K N (m + 4000) w.heap.size s r) (i n cut : Int) (vb vk : Value) :
  Calls Tryz.prog 7 #[.pointer (some ⟨P, 0, none⟩), .agg #[.int .i64 1, .int .i64 i, .int .i64 n, .int .i64 cut, vb, vk]] w fun e w' => e = .returned (.bool true) ∧ Hid (PlOk w' B P p S q K N (m + 4000) ∧ Only (fun k => B ≤ k) w w') := by
 obtain ⟨wx, hwx⟩ : ∃ z, z = w.alloc (.cells #[.int .i64 1, .int .i64 i, .int .i64 n, .int .i64 cut, vb, vk] 40) := ⟨_, rfl⟩
 obtain ⟨Bx, hBx⟩ : ∃ z, z = w.heap.size := ⟨_, rfl⟩
 have oX : Only (fun _ => False) w wx := by rw [hwx]; exact (Only.refl _ w).alloc _
 have bX : wx.heap[Bx]? = some (.cells #[.int .i64 1, .int .i64 i, .int .i64 n, .int .i64 cut, vb, vk] 40 (0, 0)) := by rw [hwx, hBx]; exact heap_alloc_new w _
 have x0 : wx.cell? ⟨Bx, 0, none⟩ = some (.int .i64 1) := by rw [cell_of_row _ _ _ _ _ _ bX]; rfl
 have x1 : wx.cell? ⟨Bx, 1, none⟩ = some (.int .i64 i) := by rw [cell_of_row _ _ _ _ _ _ bX]; rfl
 have x2 : wx.cell? ⟨Bx, 2, none⟩ = some (.int .i64 n) := by rw [cell_of_row _ _ _ _ _ _ bX]; rfl
 have x3 : wx.cell? ⟨Bx, 3, none⟩ = some (.int .i64 cut) := by rw [cell_of_row _ _ _ _ _ _ bX]; rfl
 have x4 : wx.cell? ⟨Bx, 4, none⟩ = some (vb) := by rw [cell_of_row _ _ _ _ _ _ bX]; rfl
 have x5 : wx.cell? ⟨Bx, 5, none⟩ = some (vk) := by rw [cell_of_row _ _ _ _ _ _ bX]; rfl
 have hcx : PlC wx B P p S q K pv d rv rs d (.pointer (some ⟨s, 0, none⟩)) (.pointer (some ⟨r, 0, none⟩)) := hc.still oX
 have z0 : wx.cell? ⟨P, 0, none⟩ = some (.pointer (some ⟨p, 0, none⟩)) := hcx.pc 0 _ rfl
 have z1 : wx.cell? ⟨P, 1, none⟩ = some (.pointer (some ⟨q, 0, none⟩)) := hcx.pc 1 _ rfl
 have z2 : wx.cell? ⟨P, 2, none⟩ = some (.pointer (some ⟨s, 0, none⟩)) := hcx.pc 2 _ rfl
 have z3 : wx.cell? ⟨P, 3, none⟩ = some (.pointer (some ⟨r, 0, none⟩)) := hcx.pc 3 _ rfl
 have O0 : Hid (Only (fun _ => False) w0 wx) := h0.trans oX (fun _ _ g => g)
 have OX : Hid (Only (fun _ => False) w wx) := oX
 have HW : Hid (wx = w.alloc (.cells #[.int .i64 1, .int .i64 i, .int .i64 n, .int .i64 cut, vb, vk] 40)) := hwx
 have HX : Hid (Bx = w.heap.size) := hBx
 have oD : Only (fun _ => False) w wx.drew := oX.drew
 clear hwx bX hc
 have HC0 := hops.get wx.drew oD i
 rw [← hBx] at HC0
 obtain ⟨Y, HC⟩ := HC0
 have HC1 : Hid _ := HC
 clear HC
 clear hcx oX oD h0 hB hops hBx x2 x3 x4 x5 z0 z1
 go_enter Tryz.func7, Tryz.ntmps7
 go_upto_region 3 with fail
 rw [← HW.out, ← HX.out]
 go_wp2_with fail
 go_region_held3 (fun w' => w'.cell? ⟨P, 2, none⟩ = some (.pointer (some ⟨s, 0, none⟩)) ∧ w'.cell? ⟨P, 3, none⟩ = some (.pointer (some ⟨r, 0, none⟩)) ∧ w'.cell? ⟨Bx, 1, none⟩ = some (.int .i64 i)) (first | exact ⟨HK1.out P (.inl rfl) 2 _ z2, HK1.out P (.inl rfl) 3 _ z3, HK1.out Bx (.inr rfl) 1 _ x1⟩ | go_keep)
  (first
   | (go_at_call 13; refine (show Calls Tryz.prog 13 _ _ _ from HC1.out).mono ?_; rintro e w1 ⟨u, rfl, HK1, HC2⟩))
 have y3 : w1.cell? ⟨P, 3, none⟩ = some (.pointer (some ⟨r, 0, none⟩)) := HK1.out P (.inl rfl) 3 _ z3
 have y1 : w1.cell? ⟨Bx, 1, none⟩ = some (.int .i64 i) := HK1.out Bx (.inr rfl) 1 _ x1
 have HC3 : Hid (Calls Tryz.prog 17 _ _ _) := HC2.out w1.drew ((Only.refl _ w1).drew)
 have HB0 : Hid (wx.drew.cell? ⟨P, 3, none⟩ = some (.pointer (some ⟨r, 0, none⟩)) ∧ wx.drew.cell? ⟨Bx, 1, none⟩ = some (.int .i64 i)) := ⟨z3, x1⟩
 clear HC1 HC2 z2 z3 x0 x1
 go_wp2_with fail
 go_region_held3 (fun w' => w'.cell? ⟨P, 3, none⟩ = some (.pointer (some ⟨r, 0, none⟩)) ∧ w'.cell? ⟨Bx, 1, none⟩ = some (.int .i64 i)) (first | exact ⟨HK2.out P (.inl rfl) 3 _ HB0.out.1, HK2.out Bx (.inr rfl) 1 _ HB0.out.2⟩ | go_keep)
  (first
   | (go_at_call 17; refine (show Calls Tryz.prog 17 _ _ _ from HC3.out).mono ?_; rintro e w2 ⟨v, rfl, HK2, HC4⟩))
 clear HC3 HK1 HK2 HB0 y1 y3
 go_wp2_with fail
 refine (show Calls Tryz.prog 10 _ _ _ from HC4.out).mono ?_
 rintro e w3 ⟨rfl, HN⟩
 clear HC4
 go_wp2
 go_ret
 exact ⟨rfl, HN.out.1, (OX.out.drew.mono (fun _ _ g => g.elim)).trans HN.out.2 (fun _ _ g => g)⟩
end Go.Proofs.YtlcglapcmdpkfaaGreat
