/-     -/
import Derived.Test.YtlcglapcmdpkfaaGreatGbb
import Derived.Deep.CutRange
import Derived.BigQuiet
import Derived.OpenShut
import Derived.Deep.RegionHeld3
import Derived.Test.YtlcglapcmdpkfaaGreatGaa
import Derived.Test.YtlcglapcmdpkfaaGreatGax
import Derived.Test.YtlcglapcmdpkfaaGreatRows
namespace Go.Proofs.YtlcglapcmdpkfaaGreat
open Go.RowKit Go.Maps
set_option linter.unusedSimpArgs false
set_option linter.unusedVariables false
set_option maxRecDepth 100000
set_option maxHeartbeats 16000000
theorem step_drop {w0 w : World} {B P p S q K N m : Nat} {s r : Nat} {pv d rv rs} (hc : PlC w B P p S q K pv d rv rs d (.pointer (some ⟨s, 0, none⟩)) (.pointer (some ⟨r, 0, none⟩))) (h0 : Only (fun _ => False) w0 w) (hB : B = w0.heap.size) (hops : OpsOk w B P p S q K N (m + 4000) w.heap.size s r) (i n cut : Int) (vb vk : Value) :
  Calls Tryz.prog 7 #[.pointer (some ⟨P, 0, none⟩), .agg #[.int .i64 2, .int .i64 i, .int .i64 n, .int .i64 cut, vb, vk]] w fun e w' => e = .returned (.bool true) ∧ Hid (PlOk w' B P p S q K N (m + 4000) ∧ Only (fun k => B ≤ k) w w') := by
 obtain ⟨wx, hwx⟩ : ∃ z, z = w.alloc (.cells #[.int .i64 2, .int .i64 i, .int .i64 n, .int .i64 cut, vb, vk] 40) := ⟨_, rfl⟩
 obtain ⟨Bx, hBx⟩ : ∃ z, z = w.heap.size := ⟨_, rfl⟩
 have oX : Only (fun _ => False) w wx := by rw [hwx]; exact (Only.refl _ w).alloc _
 have bX : wx.heap[Bx]? = some (.cells #[.int .i64 2, .int .i64 i, .int .i64 n, .int .i64 cut, vb, vk] 40 (0, 0)) := by rw [hwx, hBx]; exact heap_alloc_new w _
 have x0 : wx.cell? ⟨Bx, 0, none⟩ = some (.int .i64 2) := by rw [cell_of_row _ _ _ _ _ _ bX]; rfl
 have x1 : wx.cell? ⟨Bx, 1, none⟩ = some (.int .i64 i) := by rw [cell_of_row _ _ _ _ _ _ bX]; rfl
 have x2 : wx.cell? ⟨Bx, 2, none⟩ = some (.int .i64 n) := by rw [cell_of_row _ _ _ _ _ _ bX]; rfl
 have x3 : wx.cell? ⟨Bx, 3, none⟩ = some (.int .i64 cut) := by rw [cell_of_row _ _ _ _ _ _ bX]; rfl
 have x4 : wx.cell? ⟨Bx, 4, none⟩ = some (vb) := by rw [cell_of_row _ _ _ _ _ _ bX]; rfl
 have x5 : wx.cell? ⟨Bx, 5, none⟩ = some (vk) := by rw [cell_of_row _ _ _ _ _ _ bX]; rfl
 have hcx : PlC wx B P p S q K pv d rv rs d (.pointer (some ⟨s, 0, none⟩)) (.pointer (some ⟨r, 0, none⟩)) := hc.still oX
 have z0 : wx.cell? ⟨P, 0, none⟩ = some (.pointer (some ⟨p, 0, none⟩)) := hcx.pc 0 _ rfl
 have z1 : wx.cell? ⟨P, 1, none⟩ = some (.pointer (some ⟨q, 0, none⟩)) := hcx.pc 1 _ rfl
 have z2 : wx.cell? ⟨P, 2, none⟩ = some (.pointer (some ⟨s, 0, none⟩)) := hcx.pc 2 _ rfl
 have z3 : wx.cell? ⟨P, 3, none⟩ = some (.pointer (some ⟨r, 0, none⟩)) := hcx.pc 3 _ rfl
 have O0 : Hid (Only (fun _ => False) w0 wx) := h0.trans oX (fun _ _ g => g)
 have OX : Hid (Only (fun _ => False) w wx) := oX
 have HW : Hid (wx = w.alloc (.cells #[.int .i64 2, .int .i64 i, .int .i64 n, .int .i64 cut, vb, vk] 40)) := hwx
 have HX : Hid (Bx = w.heap.size) := hBx
 have oD : Only (fun _ => False) w wx.drew := oX.drew
 clear hwx bX hc
 have HC0 := hops.drop wx.drew oD i
 rw [← hBx] at HC0
 obtain ⟨Y, HC⟩ := HC0
 have HC1 : Hid _ := HC
 clear HC
 clear hcx oX oD h0 hB hops hBx x2 x3 x4 x5 z0 z1
 go_enter Tryz.func7, Tryz.ntmps7
 go_upto_region 3 with fail
 rw [← HW.out, ← HX.out]
 go_wp2_with fail
 go_region_held3 (fun w' => w'.cell? ⟨P, 2, none⟩ = some (.pointer (some ⟨s, 0, none⟩)) ∧ w'.cell? ⟨P, 3, none⟩ = some (.pointer (some ⟨r, 0, none⟩)) ∧ w'.cell? ⟨Bx, 1, none⟩ = some (.int .i64 i)) (first | exact ⟨HK3.out P (.inl rfl) 2 _ z2, HK3.out P (.inl rfl) 3 _ z3, HK3.out Bx (.inr rfl) 1 _ x1⟩ | exact ⟨HK2.out P (.inl rfl) 2 _ z2, HK2.out P (.inl rfl) 3 _ z3, HK2.out Bx (.inr rfl) 1 _ x1⟩ | exact ⟨HK1.out P (.inl rfl) 2 _ z2, HK1.out P (.inl rfl) 3 _ z3, HK1.out Bx (.inr rfl) 1 _ x1⟩ | go_keep)
  (first
   | (go_at_call 18; refine (show Calls Tryz.prog 18 _ _ _ from HC1.out).mono ?_; rintro e w1 ⟨rfl, HK1, HC2⟩)
   | (go_at_call 19; refine (show Calls Tryz.prog 19 _ _ _ from HC2.out).mono ?_; rintro e w2 ⟨rfl, HK2, HC3⟩)
   | (go_at_call 16; refine (show Calls Tryz.prog 16 _ _ _ from HC3.out).mono ?_; rintro e w3 ⟨rfl, HK3, HN⟩))
 clear HC1 HC2 HC3 HK1 HK2 HK3
 go_wp2
 go_ret
 exact ⟨rfl, HN.out.1, (OX.out.drew.mono (fun _ _ g => g.elim)).trans HN.out.2 (fun _ _ g => g)⟩
theorem step_roll {w0 w : World} {B P p S q K N m : Nat} {s r : Nat} {pv d rv rs} (hc : PlC w B P p S q K pv d rv rs d (.pointer (some ⟨s, 0, none⟩)) (.pointer (some ⟨r, 0, none⟩))) (h0 : Only (fun _ => False) w0 w) (hB : B = w0.heap.size) (hops : OpsOk w B P p S q K N (m + 4000) w.heap.size s r) (i n cut : Int) (vb vk : Value) :
  Calls Tryz.prog 7 #[.pointer (some ⟨P, 0, none⟩), .agg #[.int .i64 4, .int .i64 i, .int .i64 n, .int .i64 cut, vb, vk]] w fun e w' => e = .returned (.bool true) ∧ Hid (PlOk w' B P p S q K N (m + 4000) ∧ Only (fun k => B ≤ k) w w') := by
 obtain ⟨wx, hwx⟩ : ∃ z, z = w.alloc (.cells #[.int .i64 4, .int .i64 i, .int .i64 n, .int .i64 cut, vb, vk] 40) := ⟨_, rfl⟩
 obtain ⟨Bx, hBx⟩ : ∃ z, z = w.heap.size := ⟨_, rfl⟩
 have oX : Only (fun _ => False) w wx := by rw [hwx]; exact (Only.refl _ w).alloc _
 have bX : wx.heap[Bx]? = some (.cells #[.int .i64 4, .int .i64 i, .int .i64 n, .int .i64 cut, vb, vk] 40 (0, 0)) := by rw [hwx, hBx]; exact heap_alloc_new w _
 have x0 : wx.cell? ⟨Bx, 0, none⟩ = some (.int .i64 4) := by rw [cell_of_row _ _ _ _ _ _ bX]; rfl
 have x1 : wx.cell? ⟨Bx, 1, none⟩ = some (.int .i64 i) := by rw [cell_of_row _ _ _ _ _ _ bX]; rfl
 have x2 : wx.cell? ⟨Bx, 2, none⟩ = some (.int .i64 n) := by rw [cell_of_row _ _ _ _ _ _ bX]; rfl
 have x3 : wx.cell? ⟨Bx, 3, none⟩ = some (.int .i64 cut) := by rw [cell_of_row _ _ _ _ _ _ bX]; rfl
 have x4 : wx.cell? ⟨Bx, 4, none⟩ = some (vb) := by rw [cell_of_row _ _ _ _ _ _ bX]; rfl
 have x5 : wx.cell? ⟨Bx, 5, none⟩ = some (vk) := by rw [cell_of_row _ _ _ _ _ _ bX]; rfl
 have hcx : PlC wx B P p S q K pv d rv rs d (.pointer (some ⟨s, 0, none⟩)) (.pointer (some ⟨r, 0, none⟩)) := hc.still oX
 have z0 : wx.cell? ⟨P, 0, none⟩ = some (.pointer (some ⟨p, 0, none⟩)) := hcx.pc 0 _ rfl
 have z1 : wx.cell? ⟨P, 1, none⟩ = some (.pointer (some ⟨q, 0, none⟩)) := hcx.pc 1 _ rfl
 have z2 : wx.cell? ⟨P, 2, none⟩ = some (.pointer (some ⟨s, 0, none⟩)) := hcx.pc 2 _ rfl
 have z3 : wx.cell? ⟨P, 3, none⟩ = some (.pointer (some ⟨r, 0, none⟩)) := hcx.pc 3 _ rfl
 have O0 : Hid (Only (fun _ => False) w0 wx) := h0.trans oX (fun _ _ g => g)
 have OX : Hid (Only (fun _ => False) w wx) := oX
 have HW : Hid (wx = w.alloc (.cells #[.int .i64 4, .int .i64 i, .int .i64 n, .int .i64 cut, vb, vk] 40)) := hwx
 have HX : Hid (Bx = w.heap.size) := hBx
 have oD : Only (fun _ => False) w wx.drew := oX.drew
 clear hwx bX hc
 have HC0 := hops.roll wx.drew oD
 rw [← hBx] at HC0
 obtain ⟨Y, HC⟩ := HC0
 have HC1 : Hid _ := HC
 clear HC
 clear hcx oX oD h0 hB hops hBx x1 x2 x3 x4 x5 z0 z1
 go_enter Tryz.func7, Tryz.ntmps7
 go_upto_region 3 with fail
 rw [← HW.out, ← HX.out]
 go_wp2_with fail
 go_region_held3 (fun w' => w'.cell? ⟨P, 2, none⟩ = some (.pointer (some ⟨s, 0, none⟩)) ∧ w'.cell? ⟨P, 3, none⟩ = some (.pointer (some ⟨r, 0, none⟩))) (first | exact ⟨HK3.out P (.inl rfl) 2 _ z2, HK3.out P (.inl rfl) 3 _ z3⟩ | exact ⟨HK2.out P (.inl rfl) 2 _ z2, HK2.out P (.inl rfl) 3 _ z3⟩ | exact ⟨HK1.out P (.inl rfl) 2 _ z2, HK1.out P (.inl rfl) 3 _ z3⟩ | go_keep)
  (first
   | (go_at_call 23; refine (show Calls Tryz.prog 23 _ _ _ from HC1.out).mono ?_; rintro e w1 ⟨rfl, HK1, HC2⟩)
   | (go_at_call 24; refine (show Calls Tryz.prog 24 _ _ _ from HC2.out).mono ?_; rintro e w2 ⟨rfl, HK2, HC3⟩)
   | (go_at_call 16; refine (show Calls Tryz.prog 16 _ _ _ from HC3.out).mono ?_; rintro e w3 ⟨rfl, HK3, HN⟩))
 clear HC1 HC2 HC3 HK1 HK2 HK3
 go_wp2
 go_ret
 exact ⟨rfl, HN.out.1, (OX.out.drew.mono (fun _ _ g => g.elim)).trans HN.out.2 (fun _ _ g => g)⟩
theorem step_put_lo {w0 w : World} {B P p S q K N m : Nat} {s r : Nat} {pv d rv rs} (hc : PlC w B P p S q K pv d rv rs d (.pointer (some ⟨s, 0, none⟩)) (.pointer (some ⟨r, 0, none⟩))) (h0 : Only (fun _ => False) w0 w) (hB : B = w0.heap.size) (hops : OpsOk w B P p S q K N (m + 4000) w.heap.size s r) (i n cut : Int) (k : Int) (k1 : ¬ k = 1) (k2 : ¬ k = 2) (k3 : ¬ k = 3) (k4 : ¬ k = 4) (hk5 : ¬ 5 ≤ k) (ab : Option Addr) (mb cb : Nat) (b : List Nat) (hb : BytesAt w0 (.slice ab mb cb) b) (vk : Value) :
  Calls Tryz.prog 7 #[.pointer (some ⟨P, 0, none⟩), .agg #[.int .i64 k, .int .i64 i, .int .i64 n, .int .i64 cut, .slice ab mb cb, vk]] w fun e w' => e = .returned (.bool true) ∧ Hid (PlOk w' B P p S q K N (m + 4000) ∧ Only (fun k => B ≤ k) w w') := by
 obtain ⟨wx, hwx⟩ : ∃ z, z = w.alloc (.cells #[.int .i64 k, .int .i64 i, .int .i64 n, .int .i64 cut, .slice ab mb cb, vk] 40) := ⟨_, rfl⟩
 obtain ⟨Bx, hBx⟩ : ∃ z, z = w.heap.size := ⟨_, rfl⟩
 have oX : Only (fun _ => False) w wx := by rw [hwx]; exact (Only.refl _ w).alloc _
 have bX : wx.heap[Bx]? = some (.cells #[.int .i64 k, .int .i64 i, .int .i64 n, .int .i64 cut, .slice ab mb cb, vk] 40 (0, 0)) := by rw [hwx, hBx]; exact heap_alloc_new w _
 have x0 : wx.cell? ⟨Bx, 0, none⟩ = some (.int .i64 k) := by rw [cell_of_row _ _ _ _ _ _ bX]; rfl
 have x1 : wx.cell? ⟨Bx, 1, none⟩ = some (.int .i64 i) := by rw [cell_of_row _ _ _ _ _ _ bX]; rfl
 have x2 : wx.cell? ⟨Bx, 2, none⟩ = some (.int .i64 n) := by rw [cell_of_row _ _ _ _ _ _ bX]; rfl
 have x3 : wx.cell? ⟨Bx, 3, none⟩ = some (.int .i64 cut) := by rw [cell_of_row _ _ _ _ _ _ bX]; rfl
 have x4 : wx.cell? ⟨Bx, 4, none⟩ = some (.slice ab mb cb) := by rw [cell_of_row _ _ _ _ _ _ bX]; rfl
 have x5 : wx.cell? ⟨Bx, 5, none⟩ = some (vk) := by rw [cell_of_row _ _ _ _ _ _ bX]; rfl
 have hcx : PlC wx B P p S q K pv d rv rs d (.pointer (some ⟨s, 0, none⟩)) (.pointer (some ⟨r, 0, none⟩)) := hc.still oX
 have z0 : wx.cell? ⟨P, 0, none⟩ = some (.pointer (some ⟨p, 0, none⟩)) := hcx.pc 0 _ rfl
 have z1 : wx.cell? ⟨P, 1, none⟩ = some (.pointer (some ⟨q, 0, none⟩)) := hcx.pc 1 _ rfl
 have z2 : wx.cell? ⟨P, 2, none⟩ = some (.pointer (some ⟨s, 0, none⟩)) := hcx.pc 2 _ rfl
 have z3 : wx.cell? ⟨P, 3, none⟩ = some (.pointer (some ⟨r, 0, none⟩)) := hcx.pc 3 _ rfl
 have O0 : Hid (Only (fun _ => False) w0 wx) := h0.trans oX (fun _ _ g => g)
 have OX : Hid (Only (fun _ => False) w wx) := oX
 have HW : Hid (wx = w.alloc (.cells #[.int .i64 k, .int .i64 i, .int .i64 n, .int .i64 cut, .slice ab mb cb, vk] 40)) := hwx
 have HX : Hid (Bx = w.heap.size) := hBx
 have oD : Only (fun _ => False) w wx.drew := oX.drew
 clear hwx bX hc
 have hbx : BytesAt wx.drew (.slice ab mb cb) b := hb.frame (h0.trans oD (fun _ _ g => g))
 have HC : Hid (Calls Tryz.prog 25 #[.slice ab mb cb] wx.drew fun e w1 => ∃ a nn c, ∃ y : Int, e = .returned (.slice a nn c) ∧ Hid (KeepC P Bx wx.drew w1) ∧ Hid (Calls Tryz.prog 12 #[.pointer (some ⟨s, 0, none⟩), .int .i64 i, .slice a nn c] w1 fun e w2 => e = .returned (.int .i64 y) ∧ Hid (KeepC P Bx wx.drew w2) ∧ Hid (Calls Tryz.prog 26 #[.pointer (some ⟨r, 0, none⟩), .int .i64 i, .slice ab mb cb] w2 fun e w3 => e = .returned (.int .i64 y) ∧ Hid (KeepC P Bx wx.drew w3) ∧ Hid (Calls Tryz.prog 16 #[.pointer (some ⟨P, 0, none⟩)] w3 fun e w4 => e = .returned (.bool true) ∧ Hid (KeepC P Bx wx.drew w4) ∧ Hid (PlOk w4 B P p S q K N (m + 4000) ∧ Only (fun k => B ≤ k) wx.drew w4))))) := by
  refine (own_any _ b wx.drew hbx).mono ?_
  rintro e w1 ⟨u, rfl, hfr, ho1⟩
  obtain ⟨a, c, rfl⟩ := hfr.form
  have ow : Only (fun _ => False) w w1 := oD.trans ho1 (fun _ _ g => g)
  have k1 : KeepC P Bx wx.drew w1 := KeepC.of ho1 (fun g => g) (fun g => g)
  have hT := hops.put w1 ow i _ (.slice ab mb cb) b hfr.bytes (fun w2 ho2 => hb.frame ((h0.trans ow (fun _ _ g => g)).trans ho2 (fun k hk g => by omega)))
  rw [← hBx] at hT
  obtain ⟨y, hT⟩ := hT
  refine ⟨a, _, c, y, rfl, k1, hT.mono ?_⟩
  rintro e w2 ⟨rfl, HK2, HC2⟩
  refine ⟨rfl, k1.trans HK2.out, HC2.out.mono ?_⟩
  rintro e w3 ⟨rfl, HK3, HC3⟩
  refine ⟨rfl, k1.trans HK3.out, Calls.mono HC3.out ?_⟩
  rintro e w4 ⟨rfl, HK4, HN4⟩
  exact ⟨rfl, k1.trans HK4.out, HN4.out.1, (ho1.mono (fun _ _ g => g.elim)).trans HN4.out.2 (fun _ _ g => g)⟩
 clear hbx
 clear hcx oX oD h0 hB hops hBx x2 x3 x5 z0 z1 hb
 go_enter Tryz.func7, Tryz.ntmps7
 go_upto_region 3 with fail
 rw [← HW.out, ← HX.out]
 go_wp2_with fail
 go_region_held3 (fun w' => w'.cell? ⟨P, 2, none⟩ = some (.pointer (some ⟨s, 0, none⟩)) ∧ w'.cell? ⟨P, 3, none⟩ = some (.pointer (some ⟨r, 0, none⟩)) ∧ w'.cell? ⟨Bx, 1, none⟩ = some (.int .i64 i) ∧ w'.cell? ⟨Bx, 4, none⟩ = some (.slice ab mb cb)) (first | exact ⟨HK4.out P (.inl rfl) 2 _ z2, HK4.out P (.inl rfl) 3 _ z3, HK4.out Bx (.inr rfl) 1 _ x1, HK4.out Bx (.inr rfl) 4 _ x4⟩ | exact ⟨HK3.out P (.inl rfl) 2 _ z2, HK3.out P (.inl rfl) 3 _ z3, HK3.out Bx (.inr rfl) 1 _ x1, HK3.out Bx (.inr rfl) 4 _ x4⟩ | exact ⟨HK2.out P (.inl rfl) 2 _ z2, HK2.out P (.inl rfl) 3 _ z3, HK2.out Bx (.inr rfl) 1 _ x1, HK2.out Bx (.inr rfl) 4 _ x4⟩ | exact ⟨HK1.out P (.inl rfl) 2 _ z2, HK1.out P (.inl rfl) 3 _ z3, HK1.out Bx (.inr rfl) 1 _ x1, HK1.out Bx (.inr rfl) 4 _ x4⟩ | go_keep)
  (first
   | (go_at_call 25; refine (show Calls Tryz.prog 25 _ _ _ from HC.out).mono ?_; rintro e w1 ⟨a1, n1, c1, Y, rfl, HK1, HC1⟩)
   | (go_at_call 12; refine (show Calls Tryz.prog 12 _ _ _ from HC1.out).mono ?_; rintro e w2 ⟨rfl, HK2, HC2⟩)
   | (go_at_call 26; refine (show Calls Tryz.prog 26 _ _ _ from HC2.out).mono ?_; rintro e w3 ⟨rfl, HK3, HC3⟩)
   | (go_at_call 16; refine (show Calls Tryz.prog 16 _ _ _ from HC3.out).mono ?_; rintro e w4 ⟨rfl, HK4, HN⟩))
 clear HC HC1 HC2 HC3 HK1 HK2 HK3 HK4
 go_wp2
 go_ret
 exact ⟨rfl, HN.out.1, (OX.out.drew.mono (fun _ _ g => g.elim)).trans HN.out.2 (fun _ _ g => g)⟩
theorem step_put_hi {w0 w : World} {B P p S q K N m : Nat} {s r : Nat} {pv d rv rs} (hc : PlC w B P p S q K pv d rv rs d (.pointer (some ⟨s, 0, none⟩)) (.pointer (some ⟨r, 0, none⟩))) (h0 : Only (fun _ => False) w0 w) (hB : B = w0.heap.size) (hops : OpsOk w B P p S q K N (m + 4000) w.heap.size s r) (i n cut : Int) (k : Int) (k1 : ¬ k = 1) (k2 : ¬ k = 2) (k3 : ¬ k = 3) (k4 : ¬ k = 4) (hk5 : 5 ≤ k) (hk9 : ¬ k ≤ 9) (ab : Option Addr) (mb cb : Nat) (b : List Nat) (hb : BytesAt w0 (.slice ab mb cb) b) (vk : Value) :
  Calls Tryz.prog 7 #[.pointer (some ⟨P, 0, none⟩), .agg #[.int .i64 k, .int .i64 i, .int .i64 n, .int .i64 cut, .slice ab mb cb, vk]] w fun e w' => e = .returned (.bool true) ∧ Hid (PlOk w' B P p S q K N (m + 4000) ∧ Only (fun k => B ≤ k) w w') := by
 obtain ⟨wx, hwx⟩ : ∃ z, z = w.alloc (.cells #[.int .i64 k, .int .i64 i, .int .i64 n, .int .i64 cut, .slice ab mb cb, vk] 40) := ⟨_, rfl⟩
 obtain ⟨Bx, hBx⟩ : ∃ z, z = w.heap.size := ⟨_, rfl⟩
 have oX : Only (fun _ => False) w wx := by rw [hwx]; exact (Only.refl _ w).alloc _
 have bX : wx.heap[Bx]? = some (.cells #[.int .i64 k, .int .i64 i, .int .i64 n, .int .i64 cut, .slice ab mb cb, vk] 40 (0, 0)) := by rw [hwx, hBx]; exact heap_alloc_new w _
 have x0 : wx.cell? ⟨Bx, 0, none⟩ = some (.int .i64 k) := by rw [cell_of_row _ _ _ _ _ _ bX]; rfl
 have x1 : wx.cell? ⟨Bx, 1, none⟩ = some (.int .i64 i) := by rw [cell_of_row _ _ _ _ _ _ bX]; rfl
 have x2 : wx.cell? ⟨Bx, 2, none⟩ = some (.int .i64 n) := by rw [cell_of_row _ _ _ _ _ _ bX]; rfl
 have x3 : wx.cell? ⟨Bx, 3, none⟩ = some (.int .i64 cut) := by rw [cell_of_row _ _ _ _ _ _ bX]; rfl
 have x4 : wx.cell? ⟨Bx, 4, none⟩ = some (.slice ab mb cb) := by rw [cell_of_row _ _ _ _ _ _ bX]; rfl
 have x5 : wx.cell? ⟨Bx, 5, none⟩ = some (vk) := by rw [cell_of_row _ _ _ _ _ _ bX]; rfl
 have hcx : PlC wx B P p S q K pv d rv rs d (.pointer (some ⟨s, 0, none⟩)) (.pointer (some ⟨r, 0, none⟩)) := hc.still oX
 have z0 : wx.cell? ⟨P, 0, none⟩ = some (.pointer (some ⟨p, 0, none⟩)) := hcx.pc 0 _ rfl
 have z1 : wx.cell? ⟨P, 1, none⟩ = some (.pointer (some ⟨q, 0, none⟩)) := hcx.pc 1 _ rfl
 have z2 : wx.cell? ⟨P, 2, none⟩ = some (.pointer (some ⟨s, 0, none⟩)) := hcx.pc 2 _ rfl
 have z3 : wx.cell? ⟨P, 3, none⟩ = some (.pointer (some ⟨r, 0, none⟩)) := hcx.pc 3 _ rfl
 have O0 : Hid (Only (fun _ => False) w0 wx) := h0.trans oX (fun _ _ g => g)
 have OX : Hid (Only (fun _ => False) w wx) := oX
 have HW : Hid (wx = w.alloc (.cells #[.int .i64 k, .int .i64 i, .int .i64 n, .int .i64 cut, .slice ab mb cb, vk] 40)) := hwx
 have HX : Hid (Bx = w.heap.size) := hBx
 have oD : Only (fun _ => False) w wx.drew := oX.drew
 clear hwx bX hc
 have hbx : BytesAt wx.drew (.slice ab mb cb) b := hb.frame (h0.trans oD (fun _ _ g => g))
 have HC : Hid (Calls Tryz.prog 25 #[.slice ab mb cb] wx.drew fun e w1 => ∃ a nn c, ∃ y : Int, e = .returned (.slice a nn c) ∧ Hid (KeepC P Bx wx.drew w1) ∧ Hid (Calls Tryz.prog 12 #[.pointer (some ⟨s, 0, none⟩), .int .i64 i, .slice a nn c] w1 fun e w2 => e = .returned (.int .i64 y) ∧ Hid (KeepC P Bx wx.drew w2) ∧ Hid (Calls Tryz.prog 26 #[.pointer (some ⟨r, 0, none⟩), .int .i64 i, .slice ab mb cb] w2 fun e w3 => e = .returned (.int .i64 y) ∧ Hid (KeepC P Bx wx.drew w3) ∧ Hid (Calls Tryz.prog 16 #[.pointer (some ⟨P, 0, none⟩)] w3 fun e w4 => e = .returned (.bool true) ∧ Hid (KeepC P Bx wx.drew w4) ∧ Hid (PlOk w4 B P p S q K N (m + 4000) ∧ Only (fun k => B ≤ k) wx.drew w4))))) := by
  refine (own_any _ b wx.drew hbx).mono ?_
  rintro e w1 ⟨u, rfl, hfr, ho1⟩
  obtain ⟨a, c, rfl⟩ := hfr.form
  have ow : Only (fun _ => False) w w1 := oD.trans ho1 (fun _ _ g => g)
  have k1 : KeepC P Bx wx.drew w1 := KeepC.of ho1 (fun g => g) (fun g => g)
  have hT := hops.put w1 ow i _ (.slice ab mb cb) b hfr.bytes (fun w2 ho2 => hb.frame ((h0.trans ow (fun _ _ g => g)).trans ho2 (fun k hk g => by omega)))
  rw [← hBx] at hT
  obtain ⟨y, hT⟩ := hT
  refine ⟨a, _, c, y, rfl, k1, hT.mono ?_⟩
  rintro e w2 ⟨rfl, HK2, HC2⟩
  refine ⟨rfl, k1.trans HK2.out, HC2.out.mono ?_⟩
  rintro e w3 ⟨rfl, HK3, HC3⟩
  refine ⟨rfl, k1.trans HK3.out, Calls.mono HC3.out ?_⟩
  rintro e w4 ⟨rfl, HK4, HN4⟩
  exact ⟨rfl, k1.trans HK4.out, HN4.out.1, (ho1.mono (fun _ _ g => g.elim)).trans HN4.out.2 (fun _ _ g => g)⟩
 clear hbx
 clear hcx oX oD h0 hB hops hBx x2 x3 x5 z0 z1 hb
 go_enter Tryz.func7, Tryz.ntmps7
 go_upto_region 3 with fail
 rw [← HW.out, ← HX.out]
 go_wp2_with fail
 go_region_held3 (fun w' => w'.cell? ⟨P, 2, none⟩ = some (.pointer (some ⟨s, 0, none⟩)) ∧ w'.cell? ⟨P, 3, none⟩ = some (.pointer (some ⟨r, 0, none⟩)) ∧ w'.cell? ⟨Bx, 1, none⟩ = some (.int .i64 i) ∧ w'.cell? ⟨Bx, 4, none⟩ = some (.slice ab mb cb)) (first | exact ⟨HK4.out P (.inl rfl) 2 _ z2, HK4.out P (.inl rfl) 3 _ z3, HK4.out Bx (.inr rfl) 1 _ x1, HK4.out Bx (.inr rfl) 4 _ x4⟩ | exact ⟨HK3.out P (.inl rfl) 2 _ z2, HK3.out P (.inl rfl) 3 _ z3, HK3.out Bx (.inr rfl) 1 _ x1, HK3.out Bx (.inr rfl) 4 _ x4⟩ | exact ⟨HK2.out P (.inl rfl) 2 _ z2, HK2.out P (.inl rfl) 3 _ z3, HK2.out Bx (.inr rfl) 1 _ x1, HK2.out Bx (.inr rfl) 4 _ x4⟩ | exact ⟨HK1.out P (.inl rfl) 2 _ z2, HK1.out P (.inl rfl) 3 _ z3, HK1.out Bx (.inr rfl) 1 _ x1, HK1.out Bx (.inr rfl) 4 _ x4⟩ | go_keep)
  (first
   | (go_at_call 25; refine (show Calls Tryz.prog 25 _ _ _ from HC.out).mono ?_; rintro e w1 ⟨a1, n1, c1, Y, rfl, HK1, HC1⟩)
   | (go_at_call 12; refine (show Calls Tryz.prog 12 _ _ _ from HC1.out).mono ?_; rintro e w2 ⟨rfl, HK2, HC2⟩)
   | (go_at_call 26; refine (show Calls Tryz.prog 26 _ _ _ from HC2.out).mono ?_; rintro e w3 ⟨rfl, HK3, HC3⟩)
   | (go_at_call 16; refine (show Calls Tryz.prog 16 _ _ _ from HC3.out).mono ?_; rintro e w4 ⟨rfl, HK4, HN⟩))
 clear HC HC1 HC2 HC3 HK1 HK2 HK3 HK4
 go_wp2
 go_ret
 exact ⟨rfl, HN.out.1, (OX.out.drew.mono (fun _ _ g => g.elim)).trans HN.out.2 (fun _ _ g => g)⟩
theorem step_get {w0 w : World} {B P p S q K N m : Nat} {s r : Nat} {pv d rv rs} (hc : PlC w B P p S q K pv d rv rs d (.pointer (some ⟨s, 0, none⟩)) (.pointer (some ⟨r, 0, none⟩))) (h0 : Only (fun _ => False) w0 w) (hB : B = w0.heap.size) (hops : OpsOk w B P p S q K N (m + 4000) w.heap.size s r) (i n cut : Int) (vb vk : Value) :
  Calls Tryz.prog 7 #[.pointer (some ⟨P, 0, none⟩), .agg #[.int .i64 1, .int .i64 i, .int .i64 n, .int .i64 cut, vb, vk]] w fun e w' => e = .returned (.bool true) ∧ Hid (PlOk w' B P p S q K N (m + 4000) ∧ Only (fun k => B ≤ k) w w') := by
 obtain ⟨wx, hwx⟩ : ∃ z, z = w.alloc (.cells #[.int .i64 1, .int .i64 i, .int .i64 n, .int .i64 cut, vb, vk] 40) := ⟨_, rfl⟩
 obtain ⟨Bx, hBx⟩ : ∃ z, z = w.heap.size := ⟨_, rfl⟩
 have oX : Only (fun _ => False) w wx := by rw [hwx]; exact (Only.refl _ w).alloc _
 have bX : wx.heap[Bx]? = some (.cells #[.int .i64 1, .int .i64 i, .int .i64 n, .int .i64 cut, vb, vk] 40 (0, 0)) := by rw [hwx, hBx]; exact heap_alloc_new w _
 have x0 : wx.cell? ⟨Bx, 0, none⟩ = some (.int .i64 1) := by rw [cell_of_row _ _ _ _ _ _ bX]; rfl
 have x1 : wx.cell? ⟨Bx, 1, none⟩ = some (.int .i64 i) := by rw [cell_of_row _ _ _ _ _ _ bX]; rfl
 have x2 : wx.cell? ⟨Bx, 2, none⟩ = some (.int .i64 n) := by rw [cell_of_row _ _ _ _ _ _ bX]; rfl
 have x3 : wx.cell? ⟨Bx, 3, none⟩ = some (.int .i64 cut) := by rw [cell_of_row _ _ _ _ _ _ bX]; rfl
 have x4 : wx.cell? ⟨Bx, 4, none⟩ = some (vb) := by rw [cell_of_row _ _ _ _ _ _ bX]; rfl
 have x5 : wx.cell? ⟨Bx, 5, none⟩ = some (vk) := by rw [cell_of_row _ _ _ _ _ _ bX]; rfl
 have hcx : PlC wx B P p S q K pv d rv rs d (.pointer (some ⟨s, 0, none⟩)) (.pointer (some ⟨r, 0, none⟩)) := hc.still oX
 have z0 : wx.cell? ⟨P, 0, none⟩ = some (.pointer (some ⟨p, 0, none⟩)) := hcx.pc 0 _ rfl
 have z1 : wx.cell? ⟨P, 1, none⟩ = some (.pointer (some ⟨q, 0, none⟩)) := hcx.pc 1 _ rfl
 have z2 : wx.cell? ⟨P, 2, none⟩ = some (.pointer (some ⟨s, 0, none⟩)) := hcx.pc 2 _ rfl
 have z3 : wx.cell? ⟨P, 3, none⟩ = some (.pointer (some ⟨r, 0, none⟩)) := hcx.pc 3 _ rfl
 have O0 : Hid (Only (fun _ => False) w0 wx) := h0.trans oX (fun _ _ g => g)
 have OX : Hid (Only (fun _ => False) w wx) := oX
 have HW : Hid (wx = w.alloc (.cells #[.int .i64 1, .int .i64 i, .int .i64 n, .int .i64 cut, vb, vk] 40)) := hwx
 have HX : Hid (Bx = w.heap.size) := hBx
 have oD : Only (fun _ => False) w wx.drew := oX.drew
 clear hwx bX hc
 have HC0 := hops.get wx.drew oD i
 rw [← hBx] at HC0
 obtain ⟨Y, HC⟩ := HC0
 have HC1 : Hid _ := HC
 clear HC
 clear hcx oX oD h0 hB hops hBx x2 x3 x4 x5 z0 z1
 go_enter Tryz.func7, Tryz.ntmps7
 go_upto_region 3 with fail
 rw [← HW.out, ← HX.out]
 go_wp2_with fail
 go_region_held3 (fun w' => w'.cell? ⟨P, 2, none⟩ = some (.pointer (some ⟨s, 0, none⟩)) ∧ w'.cell? ⟨P, 3, none⟩ = some (.pointer (some ⟨r, 0, none⟩)) ∧ w'.cell? ⟨Bx, 1, none⟩ = some (.int .i64 i)) (first | exact ⟨HK1.out P (.inl rfl) 2 _ z2, HK1.out P (.inl rfl) 3 _ z3, HK1.out Bx (.inr rfl) 1 _ x1⟩ | go_keep)
  (first
   | (go_at_call 13; refine (show Calls Tryz.prog 13 _ _ _ from HC1.out).mono ?_; rintro e w1 ⟨u, rfl, HK1, HC2⟩))
 have y3 : w1.cell? ⟨P, 3, none⟩ = some (.pointer (some ⟨r, 0, none⟩)) := HK1.out P (.inl rfl) 3 _ z3
 have y1 : w1.cell? ⟨Bx, 1, none⟩ = some (.int .i64 i) := HK1.out Bx (.inr rfl) 1 _ x1
 have HC3 : Hid (Calls Tryz.prog 17 _ _ _) := HC2.out w1.drew ((Only.refl _ w1).drew)
 have HB0 : Hid (wx.drew.cell? ⟨P, 3, none⟩ = some (.pointer (some ⟨r, 0, none⟩)) ∧ wx.drew.cell? ⟨Bx, 1, none⟩ = some (.int .i64 i)) := ⟨z3, x1⟩
 clear HC1 HC2 z2 z3 x0 x1
 go_wp2_with fail
 go_region_held3 (fun w' => w'.cell? ⟨P, 3, none⟩ = some (.pointer (some ⟨r, 0, none⟩)) ∧ w'.cell? ⟨Bx, 1, none⟩ = some (.int .i64 i)) (first | exact ⟨HK2.out P (.inl rfl) 3 _ HB0.out.1, HK2.out Bx (.inr rfl) 1 _ HB0.out.2⟩ | go_keep)
  (first
   | (go_at_call 17; refine (show Calls Tryz.prog 17 _ _ _ from HC3.out).mono ?_; rintro e w2 ⟨v, rfl, HK2, HC4⟩))
 clear HC3 HK1 HK2 HB0 y1 y3
 go_wp2_with fail
 refine (show Calls Tryz.prog 10 _ _ _ from HC4.out).mono ?_
 rintro e w3 ⟨rfl, HN⟩
 clear HC4
 go_wp2
 go_ret
 exact ⟨rfl, HN.out.1, (OX.out.drew.mono (fun _ _ g => g.elim)).trans HN.out.2 (fun _ _ g => g)⟩
theorem wpAnyH_weak {P : Program} {md : Region.Mode} {ops : Array Oper} {Q : Exit → Act → World → Prop} {S S' : World → Prop} (h : ∀ w, S' w → S w) : ∀ (fuel : Nat) (listed : Array Bool) (a : Act) (w : World), wpAnyH P md ops Q S' fuel listed a w → wpAnyH P md ops Q S fuel listed a w
 | 0, _, _, _, g => g
 | fuel + 1, _, _, _, g => ⟨g.1, fun i hi => wpOp_mono (fun a' w' g' => ⟨h w' g'.1, wpAnyH_weak h fuel _ a' w' g'.2⟩) (g.2 i hi)⟩
theorem PlOk.pend {w : World} {B P p S q K n m : Nat} (h : PlOk w B P p S q K n m) : ∃ a k c a' c', w.cell? ⟨p, 1, none⟩ = some (.slice a k c) ∧ w.cell? ⟨q, 2, none⟩ = some (.slice a' k c') := by
 obtain ⟨pv, d, rv, rs, sv, rp, hc, hk, hf⟩ := h
 obtain ⟨a, c, rfl⟩ := ownsRow_slice hc.dk.own
 obtain ⟨a', c', rfl⟩ := ownsRow_slice hc.rf.own
 have e : rs.length = d.pend.length := by rw [← hc.rf.tie]; simp
 rw [e] at hc
 exact ⟨a, _, c, a', c', hc.dk.c1, hc.rf.c2⟩
theorem step_commit {w0 w : World} {B P p S q K N m : Nat} {s r : Nat} {pv d rv rs} (hc : PlC w B P p S q K pv d rv rs d (.pointer (some ⟨s, 0, none⟩)) (.pointer (some ⟨r, 0, none⟩))) (h0 : Only (fun _ => False) w0 w) (hB : B = w0.heap.size) (hops : OpsOk w B P p S q K N (m + 4000) w.heap.size s r) (i n cut : Int) (vb vk : Value) :
  Calls Tryz.prog 7 #[.pointer (some ⟨P, 0, none⟩), .agg #[.int .i64 3, .int .i64 i, .int .i64 n, .int .i64 cut, vb, vk]] w fun e w' => e = .returned (.bool true) ∧ Hid (PlOk w' B P p S q K N (m + 4000) ∧ Only (fun k => B ≤ k) w w') := by
 obtain ⟨wx, hwx⟩ : ∃ z, z = w.alloc (.cells #[.int .i64 3, .int .i64 i, .int .i64 n, .int .i64 cut, vb, vk] 40) := ⟨_, rfl⟩
 obtain ⟨Bx, hBx⟩ : ∃ z, z = w.heap.size := ⟨_, rfl⟩
 have oX : Only (fun _ => False) w wx := by rw [hwx]; exact (Only.refl _ w).alloc _
 have bX : wx.heap[Bx]? = some (.cells #[.int .i64 3, .int .i64 i, .int .i64 n, .int .i64 cut, vb, vk] 40 (0, 0)) := by rw [hwx, hBx]; exact heap_alloc_new w _
 have x0 : wx.cell? ⟨Bx, 0, none⟩ = some (.int .i64 3) := by rw [cell_of_row _ _ _ _ _ _ bX]; rfl
 have x1 : wx.cell? ⟨Bx, 1, none⟩ = some (.int .i64 i) := by rw [cell_of_row _ _ _ _ _ _ bX]; rfl
 have x2 : wx.cell? ⟨Bx, 2, none⟩ = some (.int .i64 n) := by rw [cell_of_row _ _ _ _ _ _ bX]; rfl
 have x3 : wx.cell? ⟨Bx, 3, none⟩ = some (.int .i64 cut) := by rw [cell_of_row _ _ _ _ _ _ bX]; rfl
 have x4 : wx.cell? ⟨Bx, 4, none⟩ = some (vb) := by rw [cell_of_row _ _ _ _ _ _ bX]; rfl
 have x5 : wx.cell? ⟨Bx, 5, none⟩ = some (vk) := by rw [cell_of_row _ _ _ _ _ _ bX]; rfl
 have hcx : PlC wx B P p S q K pv d rv rs d (.pointer (some ⟨s, 0, none⟩)) (.pointer (some ⟨r, 0, none⟩)) := hc.still oX
 have z0 : wx.cell? ⟨P, 0, none⟩ = some (.pointer (some ⟨p, 0, none⟩)) := hcx.pc 0 _ rfl
 have z1 : wx.cell? ⟨P, 1, none⟩ = some (.pointer (some ⟨q, 0, none⟩)) := hcx.pc 1 _ rfl
 have z2 : wx.cell? ⟨P, 2, none⟩ = some (.pointer (some ⟨s, 0, none⟩)) := hcx.pc 2 _ rfl
 have z3 : wx.cell? ⟨P, 3, none⟩ = some (.pointer (some ⟨r, 0, none⟩)) := hcx.pc 3 _ rfl
 have O0 : Hid (Only (fun _ => False) w0 wx) := h0.trans oX (fun _ _ g => g)
 have OX : Hid (Only (fun _ => False) w wx) := oX
 have HW : Hid (wx = w.alloc (.cells #[.int .i64 3, .int .i64 i, .int .i64 n, .int .i64 cut, vb, vk] 40)) := hwx
 have HX : Hid (Bx = w.heap.size) := hBx
 have oD : Only (fun _ => False) w wx.drew := oX.drew
 clear hwx bX hc
 have HC0 := hops.commit wx.drew oD
 rw [← hBx] at HC0
 obtain ⟨Y, HC⟩ := HC0
 have HC1 : Hid _ := HC
 clear HC
 clear hcx oX oD h0 hB hops hBx x1 x2 x3 x4 x5
 go_enter Tryz.func7, Tryz.ntmps7
 go_upto_region 3 with fail
 rw [← HW.out, ← HX.out]
 go_wp2_with fail
 refine wp_region_held_drew (S := (fun w' => w'.cell? ⟨P, 0, none⟩ = some (.pointer (some ⟨p, 0, none⟩)) ∧ w'.cell? ⟨P, 1, none⟩ = some (.pointer (some ⟨q, 0, none⟩)) ∧ w'.cell? ⟨P, 2, none⟩ = some (.pointer (some ⟨s, 0, none⟩)) ∧ w'.cell? ⟨P, 3, none⟩ = some (.pointer (some ⟨r, 0, none⟩)))) (by kernel_rfl) ⟨z0, z1, z2, z3⟩ (fun hHeld => ?_)
 refine t8 (i := 0) (v := .pointer (some ⟨P, 0, none⟩)) rfl hHeld ?_
 simp only [Act.put, z9]
 refine t8 (i := 1) (v := .pointer (some ⟨P, 0, none⟩)) rfl hHeld ?_
 simp only [Act.put, z9]
 refine t8 (i := 2) (v := .pointer (some ⟨P, 2, none⟩)) rfl hHeld ?_
 simp only [Act.put, z9]
 refine t8 (i := 3) (v := .pointer (some ⟨s, 0, none⟩)) rfl hHeld ?_ (Or.inl ⟨by rfl, fun wx hSw => by have hc := hSw.2.2.1; go_simp⟩)
 simp only [Act.put, z9]
 refine t8 (i := 5) (v := .pointer (some ⟨P, 0, none⟩)) rfl hHeld ?_
 simp only [Act.put, z9]
 refine t8 (i := 6) (v := .pointer (some ⟨P, 0, none⟩)) rfl hHeld ?_
 simp only [Act.put, z9]
 refine t8 (i := 7) (v := .pointer (some ⟨P, 3, none⟩)) rfl hHeld ?_
 simp only [Act.put, z9]
 refine t8 (i := 8) (v := .pointer (some ⟨r, 0, none⟩)) rfl hHeld ?_ (Or.inl ⟨by rfl, fun wx hSw => by have hc := hSw.2.2.2; go_simp⟩)
 simp only [Act.put, z9]
 refine wpAnyH_ready (rs := [4]) (by kernel_rfl) (by simp) ?_
 refine AllReadyH.cons rfl (fun K9 hK => ?_) AllReadyH.nil
 rw [if_pos (by rfl)]
 refine wp_call_func #[.tmp 87] #[32] rfl #[.pointer (some ⟨s, 0, none⟩)] (by simp [Act.eval]) (enters_of Tryz.func20 (by kernel_rfl) rfl) (show Calls Tryz.prog 20 _ _ _ from HC1.out) (fun e w1 he4 => ?_)
 obtain ⟨rfl, HK1, HC2⟩ := he4
 have hS9 : (fun w' => w'.cell? ⟨P, 0, none⟩ = some (.pointer (some ⟨p, 0, none⟩)) ∧ w'.cell? ⟨P, 1, none⟩ = some (.pointer (some ⟨q, 0, none⟩)) ∧ w'.cell? ⟨P, 2, none⟩ = some (.pointer (some ⟨s, 0, none⟩)) ∧ w'.cell? ⟨P, 3, none⟩ = some (.pointer (some ⟨r, 0, none⟩))) w1 := ⟨HK1.out P (.inl rfl) 0 _ z0, HK1.out P (.inl rfl) 1 _ z1, HK1.out P (.inl rfl) 2 _ z2, HK1.out P (.inl rfl) 3 _ z3⟩
 refine ⟨_, rfl, hK _ _ hS9 (fun hHeld => ?_)⟩
 clear hK K9 hS9
 simp only [Act.put, z9]
 refine wpAnyH_ready (rs := [9]) (by kernel_rfl) (by simp) ?_
 refine AllReadyH.cons rfl (fun K9 hK => ?_) AllReadyH.nil
 rw [if_pos (by rfl)]
 refine wp_call_func #[.tmp 92] #[33] rfl #[.pointer (some ⟨r, 0, none⟩)] (by simp [Act.eval]) (enters_of Tryz.func21 (by kernel_rfl) rfl) (show Calls Tryz.prog 21 _ _ _ from HC2.out) (fun e w2 he4 => ?_)
 obtain ⟨rfl, HK2, HC3⟩ := he4
 have hS9 : (fun w' => w'.cell? ⟨P, 0, none⟩ = some (.pointer (some ⟨p, 0, none⟩)) ∧ w'.cell? ⟨P, 1, none⟩ = some (.pointer (some ⟨q, 0, none⟩)) ∧ w'.cell? ⟨P, 2, none⟩ = some (.pointer (some ⟨s, 0, none⟩)) ∧ w'.cell? ⟨P, 3, none⟩ = some (.pointer (some ⟨r, 0, none⟩))) w2 := ⟨HK2.out P (.inl rfl) 0 _ z0, HK2.out P (.inl rfl) 1 _ z1, HK2.out P (.inl rfl) 2 _ z2, HK2.out P (.inl rfl) 3 _ z3⟩
 refine ⟨_, rfl, hK _ _ hS9 (fun hHeld => ?_)⟩
 clear hK K9 hS9
 simp only [Act.put, z9]
 refine t8 (i := 10) (v := .bool true) rfl hHeld ?_
 simp only [Act.put, z9]
 refine t8 (i := 11) (v := .bool true) rfl hHeld ?_
 simp only [Act.put, z9]
 refine t8 (i := 12) (v := .pointer (some ⟨P, 0, none⟩)) rfl hHeld ?_
 simp only [Act.put, z9]
 refine wpAnyH_ready (rs := [13]) (by kernel_rfl) (by simp) ?_
 refine AllReadyH.cons rfl (fun K9 hK => ?_) AllReadyH.nil
 rw [if_pos (by rfl)]
 refine wp_call_func #[.tmp 96] #[31] rfl #[.pointer (some ⟨P, 0, none⟩)] (by simp [Act.eval]) (enters_of Tryz.func16 (by kernel_rfl) rfl) (show Calls Tryz.prog 16 _ _ _ from HC3.out) (fun e w3 he4 => ?_)
 obtain ⟨rfl, HK3, HN⟩ := he4
 have hS9 : (fun w' => w'.cell? ⟨P, 0, none⟩ = some (.pointer (some ⟨p, 0, none⟩)) ∧ w'.cell? ⟨P, 1, none⟩ = some (.pointer (some ⟨q, 0, none⟩)) ∧ w'.cell? ⟨P, 2, none⟩ = some (.pointer (some ⟨s, 0, none⟩)) ∧ w'.cell? ⟨P, 3, none⟩ = some (.pointer (some ⟨r, 0, none⟩))) w3 := ⟨HK3.out P (.inl rfl) 0 _ z0, HK3.out P (.inl rfl) 1 _ z1, HK3.out P (.inl rfl) 2 _ z2, HK3.out P (.inl rfl) 3 _ z3⟩
 refine ⟨_, rfl, hK _ _ hS9 (fun hHeld => ?_)⟩
 clear hK K9 hS9
 simp only [Act.put, z9]
 obtain ⟨pa, pk, pc, qa, qc, hp1, hq2⟩ := HN.out.1.pend
 refine wpAnyH_weak (S' := fun wy => (fun w' => w'.cell? ⟨P, 0, none⟩ = some (.pointer (some ⟨p, 0, none⟩)) ∧ w'.cell? ⟨P, 1, none⟩ = some (.pointer (some ⟨q, 0, none⟩)) ∧ w'.cell? ⟨P, 2, none⟩ = some (.pointer (some ⟨s, 0, none⟩)) ∧ w'.cell? ⟨P, 3, none⟩ = some (.pointer (some ⟨r, 0, none⟩))) wy ∧ wy.cell? ⟨q, 2, none⟩ = some (.slice qa pk qc)) (fun _ g => g.1) _ _ _ _ ?_
 have hHeld : ((fun w' => w'.cell? ⟨P, 0, none⟩ = some (.pointer (some ⟨p, 0, none⟩)) ∧ w'.cell? ⟨P, 1, none⟩ = some (.pointer (some ⟨q, 0, none⟩)) ∧ w'.cell? ⟨P, 2, none⟩ = some (.pointer (some ⟨s, 0, none⟩)) ∧ w'.cell? ⟨P, 3, none⟩ = some (.pointer (some ⟨r, 0, none⟩))) w3) ∧ w3.cell? ⟨q, 2, none⟩ = some (.slice qa pk qc) := ⟨hHeld, hq2⟩
 have HPd := pending_any p pa pk pc w3 hp1
 refine t8 (i := 14) (v := .bool true) rfl hHeld ?_
 simp only [Act.put, z9]
 refine t8 (i := 15) (v := .bool true) rfl hHeld ?_
 simp only [Act.put, z9]
 refine t8 (i := 16) (v := .pointer (some ⟨P, 0, none⟩)) rfl hHeld ?_
 simp only [Act.put, z9]
 refine t8 (i := 17) (v := .pointer (some ⟨P, 0, none⟩)) rfl hHeld ?_
 simp only [Act.put, z9]
 refine t8 (i := 18) (v := .pointer (some ⟨P, 0, none⟩)) rfl hHeld ?_
 simp only [Act.put, z9]
 refine t8 (i := 19) (v := .pointer (some ⟨p, 0, none⟩)) rfl hHeld ?_ (Or.inl ⟨by rfl, fun wx hSw => by have hc := hSw.1.1; go_simp⟩)
 simp only [Act.put, z9]
 refine t8 (i := 21) (v := .pointer (some ⟨P, 0, none⟩)) rfl hHeld ?_
 simp only [Act.put, z9]
 refine t8 (i := 22) (v := .pointer (some ⟨P, 0, none⟩)) rfl hHeld ?_
 simp only [Act.put, z9]
 refine t8 (i := 23) (v := .pointer (some ⟨P, 1, none⟩)) rfl hHeld ?_
 simp only [Act.put, z9]
 refine t8 (i := 24) (v := .pointer (some ⟨q, 0, none⟩)) rfl hHeld ?_ (Or.inl ⟨by rfl, fun wx hSw => by have hc := hSw.1.2.1; go_simp⟩)
 simp only [Act.put, z9]
 refine t8 (i := 25) (v := .pointer (some ⟨q, 0, none⟩)) rfl hHeld ?_
 simp only [Act.put, z9]
 refine t8 (i := 26) (v := .pointer (some ⟨q, 2, none⟩)) rfl hHeld ?_
 simp only [Act.put, z9]
 refine t8 (i := 27) (v := .slice qa pk qc) rfl hHeld ?_ (Or.inl ⟨by rfl, fun wx hSw => by have hc := hSw.2; go_simp⟩)
 simp only [Act.put, z9]
 refine t8 (i := 28) (v := .int .i64 (pk : Nat)) rfl hHeld ?_
 simp only [Act.put, z9]
 refine wpAnyH_ready (rs := [20]) (by kernel_rfl) (by simp) ?_
 refine AllReadyH.cons rfl (fun K9 hK => ?_) AllReadyH.nil
 rw [if_pos (by rfl)]
 refine wp_call_func #[.tmp 103] #[24] rfl #[.pointer (some ⟨p, 0, none⟩)] (by simp [Act.eval]) (enters_of Tryz.func22 (by kernel_rfl) rfl) (show Calls Tryz.prog 22 _ _ _ from HPd) (fun e w4 he4 => ?_)
 obtain ⟨rfl, rfl⟩ := he4
 have hS9 := hHeld
 refine ⟨_, rfl, hK _ _ hS9 (fun hHeld => ?_)⟩
 clear hK K9 hS9
 simp only [Act.put, z9]
 refine t8 (i := 29) (v := .bool true) rfl hHeld ?_
 simp only [Act.put, z9]
 refine t8 (i := 30) (v := .bool true) rfl hHeld ?_
 simp only [Act.put, z9]
 refine t8 (i := 31) (v := .bool true) rfl hHeld ?_
 simp only [Act.put, z9]
 refine wpAnyH_done (by kernel_rfl) ?_ _
 clear hHeld HC1 HC2 HC3 HK1 HK2 HK3 HPd hp1 hq2
 go_wp2
 go_ret
 exact ⟨rfl, HN.out.1, (OX.out.drew.mono (fun _ _ g => g.elim)).trans HN.out.2 (fun _ _ g => g)⟩
end Go.Proofs.YtlcglapcmdpkfaaGreat
namespace Go.Proofs.YtlcglapcmdpkfaaGreat
open Go.RowKit Go.ChangeShapes Go.WideShapes
set_option linter.unusedSimpArgs false
set_option linter.unusedVariables false
set_option maxRecDepth 100000
set_option maxHeartbeats 16000000
structure OpK where
 kind : Int
 i : Int
 n : Int
 cut : Int
 b : List Nat
 ks : List Bool
 vb : Value
 vk : Value
def OpK.cells (o : OpK) : List Value := [.int .i64 o.kind, .int .i64 o.i, .int .i64 o.n, .int .i64 o.cut, o.vb, o.vk]
def OpK.ok (W : World) (o : OpK) : Prop := BytesAt W o.vb o.b ∧ FlagsIn W o.vk o.ks ∧ o.n ≤ 9223372036854775807
theorem OpK.ok.frame {W W' : World} {o : OpK} (h : o.ok W) (ho : Only (fun _ => False) W W') : o.ok W' := ⟨h.1.frame ho, ⟨h.2.1.1.frame ho (fun _ g => g.elim), h.2.1.2⟩, h.2.2⟩
def ScriptK (W : World) (v : Value) (os : List OpK) : Prop :=
 ((v = .slice none 0 0 ∧ os = []) ∨ ∃ ad c, v = .slice (some ad) os.length c ∧ os.length ≤ c ∧ ∀ i (h : i < os.length) j v, (os[i]).cells[j]? = some v → W.cell? (ad.add (i * 6 + j)) = some v) ∧ os.length ≤ 140737488351232 ∧ ∀ o ∈ os, o.ok W
theorem ScriptK.get {W : World} {v : Value} {os : List OpK} (h : ScriptK W v os) (i : Nat) (hi : i < os.length) : ∃ g o c, v = .slice (some ⟨g, o, none⟩) os.length c ∧ W.rangeAt g (o + i * 6) (os[i]).cells ∧ os.length ≤ c := by
 rcases h.1 with ⟨_, h0⟩ | ⟨ad, c, hv, hc⟩
 ·subst h0; simp at hi
 ·obtain ⟨hcap, hc⟩ := hc
  have h0 := hc i hi 0 _ rfl
  have hsp := World.cell?_spot h0
  obtain ⟨g, o, spot⟩ := ad
  have hs : spot = none := by
   by_cases e : i * 6 + 0 = 0
   ·simpa [Addr.add, e] using hsp
   ·have := hc 0 (by omega) 0 _ rfl
    have h2 := World.cell?_spot this
    simpa [Addr.add] using h2
  subst hs
  exact ⟨g, o, c, hv, fun j u hu => by have := hc i hi j u hu; rw [Addr.add_mid] at this; rw [Nat.add_assoc]; exact this, hcap⟩
theorem ScriptK.form {W : World} {v : Value} {os : List OpK} (h : ScriptK W v os) : ∃ a c, v = .slice a os.length c := by
 rcases h.1 with ⟨h1, h2⟩ | ⟨ad, c, hv, _⟩
 ·exact ⟨none, 0, by rw [h1, h2]; rfl⟩
 ·exact ⟨_, _, hv⟩
section
variable {H : Type} {enc : TypeId × Value → H} {w : World} {base fuel : Nat} {held : Bool}
theorem bulk_pos (d : DataW H) : 0 < Rows.uptoBulk d := by
 rcases d with l | _ | _ | _ | _ | _ | _ | _ <;> try simp [Rows.uptoBulk]
 cases l <;> simp [Rows.uptoBulk]
theorem bulk_len : ∀ (l : List (DataW H)), l.length ≤ Rows.uptoBulkAll l
 | [] => by simp [Rows.uptoBulkAll]
 | d :: r => by
   have := bulk_len r
   have := bulk_pos d
   simp only [Rows.uptoBulkAll, List.length_cons]
   omega
theorem cells4 : Tryz.prog.cellsOf 4 = 1 := by kernel_rfl
theorem bytes4 : Tryz.prog.bytesOf 4 = 1 := by kernel_rfl
theorem read_flags {v : Value} {x : DataW H × List MemPlace} (h : DataW.trod enc Tryz.prog w base (fun _ => true) held fuel 38 [v] = some x) (hw : ∀ n ∈ x.1.weights Tryz.prog 38, n ≤ reachBytes) : ∃ ks, FlagsIn w v ks := by
 rcases Deep.open_bools Tryz.underlying38 Tryz.underlying4 cells4 h with ⟨hcs, _⟩ | ⟨a, len, cap, B, hcs, _, hl, hm, hx, hcell⟩
 ·simp at hcs
  exact ⟨[], .inl ⟨hcs, rfl⟩, Nat.zero_le _⟩
 ·simp at hcs
  have hb := hw _ (by rw [hx]; simp only [Deep.boolRow, DataW.weights, Tryz.underlying38]; exact List.mem_cons_self ..)
  rw [bytes4] at hb
  simp only [List.length_map, List.length_range, reachBytes] at hb
  refine ⟨(List.range len).map B, .inr ⟨a, cap, by simpa using hcs, by simpa using hl, fun j hj => ?_⟩, by simp; omega⟩
  simp at hj
  rw [hcell j (by omega)]
  simp [hj]
theorem read_opK {cs : List Value} {x : DataW H × List MemPlace} (h : DataW.trod enc Tryz.prog w base (fun _ => true) held fuel 40 cs = some x) (hw : ∀ n ∈ x.1.weights Tryz.prog 40, n ≤ reachBytes) : ∃ o : OpK, o.cells = cs ∧ o.ok w := by
 obtain ⟨xs, n, _, rfl, hl, hxl, hf⟩ := DataW.trod_struct Tryz.underlying40 h
 rw [cellsO] at hl
 obtain ⟨c0, c1, c2, c3, c4, c5, rfl⟩ := six cs hl
 obtain ⟨y0, y1, y2, y3, y4, y5, rfl⟩ := six xs hxl
 have g0 : DataW.trod enc Tryz.prog w base (fun _ => true) held n 3 (([c0, c1, c2, c3, c4, c5].drop 0).take (Tryz.prog.cellsOf 3)) = some y0 := hf 0 _ rfl
 rw [cellsI] at g0
 have g1 : DataW.trod enc Tryz.prog w base (fun _ => true) held n 3 (([c0, c1, c2, c3, c4, c5].drop 1).take (Tryz.prog.cellsOf 3)) = some y1 := hf 1 _ rfl
 rw [cellsI] at g1
 have g2 : DataW.trod enc Tryz.prog w base (fun _ => true) held n 3 (([c0, c1, c2, c3, c4, c5].drop 2).take (Tryz.prog.cellsOf 3)) = some y2 := hf 2 _ rfl
 rw [cellsI] at g2
 have g3 : DataW.trod enc Tryz.prog w base (fun _ => true) held n 3 (([c0, c1, c2, c3, c4, c5].drop 3).take (Tryz.prog.cellsOf 3)) = some y3 := hf 3 _ rfl
 rw [cellsI] at g3
 have g4 : DataW.trod enc Tryz.prog w base (fun _ => true) held n 37 (([c0, c1, c2, c3, c4, c5].drop 4).take (Tryz.prog.cellsOf 37)) = some y4 := hf 4 _ rfl
 rw [cellsB] at g4
 have g5 : DataW.trod enc Tryz.prog w base (fun _ => true) held n 38 (([c0, c1, c2, c3, c4, c5].drop 5).take (Tryz.prog.cellsOf 38)) = some y5 := hf 5 _ rfl
 rw [cellsF] at g5
 simp only [List.drop_succ_cons, List.drop_zero, List.take_succ_cons, List.take_zero] at g0 g1 g2 g3 g4 g5
 obtain ⟨n0, e0, _, w0⟩ := DataW.trod_int Tryz.underlying3 g0
 obtain ⟨n1, e1, _, w1⟩ := DataW.trod_int Tryz.underlying3 g1
 obtain ⟨n2, e2, _, w2⟩ := DataW.trod_int Tryz.underlying3 g2
 obtain ⟨n3, e3, _, w3⟩ := DataW.trod_int Tryz.underlying3 g3
 have hmem : ∀ (j : Nat) (t : TypeId) (d : DataW H), [3, 3, 3, 3, 37, 38][j]? = some t → [y0.1, y1.1, y2.1, y3.1, y4.1, y5.1][j]? = some d → ∀ n ∈ d.weights Tryz.prog t, n ≤ reachBytes := fun j t d ht hd n hn => by
  refine hw n ?_
  simp only [DataW.weights, Tryz.underlying40]
  exact DataW.weights_mem_each ht hd n hn
 obtain ⟨zs, hzs⟩ := read_bytes g4 (hmem 4 37 y4.1 rfl rfl)
 obtain ⟨ks, hks⟩ := read_flags g5 (hmem 5 38 y5.1 rfl rfl)
 have hb2 := (bounds_i64 w2).2
 simp at e0 e1 e2 e3
 subst e0 e1 e2 e3
 exact ⟨⟨n0, n1, n2, n3, zs, ks, c4, c5⟩, rfl, hzs.1, hks, hb2⟩
theorem read_scriptB {v : Value} {x : DataW H × List MemPlace} (h : DataW.trod enc Tryz.prog w base (fun _ => true) held fuel 22 [v] = some x) (hw : ∀ n ∈ x.1.weights Tryz.prog 22, n ≤ reachBytes) : ∃ os, ScriptK w v os ∧ os.length + 1 ≤ Rows.uptoBulk x.1 := by
 rcases Deep.open_slice Tryz.underlying22 h with ⟨hcs, _⟩ | ⟨a, len, cap, m, n, D, Pl, hcs, _, hl, hm, hmm, hx, hel⟩
 ·simp at hcs
  exact ⟨[], ⟨.inl ⟨hcs, rfl⟩, by simp, fun o ho => by cases ho⟩, bulk_pos x.1⟩
 ·simp at hcs
  rw [if_pos rfl] at hmm
  subst hmm
  have hb := hw _ (by rw [hx]; simp only [DataW.weights, Tryz.underlying22]; exact List.mem_cons_self ..)
  rw [bytesO] at hb
  simp only [List.length_map, List.length_range, reachBytes] at hb
  obtain ⟨os, hol, hos⟩ := exists_list len (fun i (o : OpK) => (∀ j v, o.cells[j]? = some v → w.cell? (a.add (i * 6 + j)) = some v) ∧ o.ok w) (fun i hi => by
   obtain ⟨cs', h1, h2⟩ := hel i (by omega)
   rw [cellsO] at h1
   obtain ⟨o, ho1, ho2⟩ := read_opK h2 (fun q hq => hw q (by
    rw [hx]
    simp only [DataW.weights, Tryz.underlying22]
    refine List.mem_cons_of_mem _ (List.mem_append_left _ (weightsAll_mem _ (D i) ?_ q hq))
    exact List.mem_map.2 ⟨i, List.mem_range.2 hi, rfl⟩))
   refine ⟨o, fun j v hv => ?_, ho2⟩
   rw [ho1] at hv
   rw [← Deep.add_add]
   exact (cells?_get h1).2 j v hv)
  refine ⟨os, ⟨.inr ⟨a, m, by rw [hol]; exact hcs, by omega, fun i hi => (hos i hi).1⟩, by omega, fun o ho => ?_⟩, ?_⟩
  ·obtain ⟨i, hi, rfl⟩ := List.getElem_of_mem ho
   exact (hos i hi).2
  ·rw [hx, hol]
   simp only [Rows.uptoBulk]
   have e : ∀ l : List (DataW H), l.length = len → len ≤ Rows.uptoBulkAll l := fun l h => h ▸ bulk_len l
   have := e ((List.range len).map D) (by simp)
   omega
end
end Go.Proofs.YtlcglapcmdpkfaaGreat
namespace Go.Proofs.YtlcglapcmdpkfaaGreat
open Go.RowKit Go.Maps
set_option linter.unusedSimpArgs false
set_option linter.unusedVariables false
set_option maxRecDepth 100000
set_option maxHeartbeats 16000000
theorem step_none_lo {w0 w : World} {B P p S q K N m : Nat} {pv d rv rs rp} (hc : PlC w B P p S q K pv d rv rs d (.pointer none) rp) (h0 : Only (fun _ => False) w0 w) (hB : B = w0.heap.size) (hok : PlOk w B P p S q K N (m + 4000)) (i n cut : Int) (k : Int) (hk5 : ¬ 5 ≤ k) (vb vk : Value) :
  Calls Tryz.prog 7 #[.pointer (some ⟨P, 0, none⟩), .agg #[.int .i64 k, .int .i64 i, .int .i64 n, .int .i64 cut, vb, vk]] w fun e w' => e = .returned (.bool true) ∧ Hid (PlOk w' B P p S q K N (m + 4000) ∧ Only (fun k => B ≤ k) w w') := by
 obtain ⟨wx, hwx⟩ : ∃ z, z = w.alloc (.cells #[.int .i64 k, .int .i64 i, .int .i64 n, .int .i64 cut, vb, vk] 40) := ⟨_, rfl⟩
 obtain ⟨Bx, hBx⟩ : ∃ z, z = w.heap.size := ⟨_, rfl⟩
 have oX : Only (fun _ => False) w wx := by rw [hwx]; exact (Only.refl _ w).alloc _
 have bX : wx.heap[Bx]? = some (.cells #[.int .i64 k, .int .i64 i, .int .i64 n, .int .i64 cut, vb, vk] 40 (0, 0)) := by rw [hwx, hBx]; exact heap_alloc_new w _
 have x0 : wx.cell? ⟨Bx, 0, none⟩ = some (.int .i64 k) := by rw [cell_of_row _ _ _ _ _ _ bX]; rfl
 have x1 : wx.cell? ⟨Bx, 1, none⟩ = some (.int .i64 i) := by rw [cell_of_row _ _ _ _ _ _ bX]; rfl
 have x2 : wx.cell? ⟨Bx, 2, none⟩ = some (.int .i64 n) := by rw [cell_of_row _ _ _ _ _ _ bX]; rfl
 have x3 : wx.cell? ⟨Bx, 3, none⟩ = some (.int .i64 cut) := by rw [cell_of_row _ _ _ _ _ _ bX]; rfl
 have x4 : wx.cell? ⟨Bx, 4, none⟩ = some (vb) := by rw [cell_of_row _ _ _ _ _ _ bX]; rfl
 have x5 : wx.cell? ⟨Bx, 5, none⟩ = some (vk) := by rw [cell_of_row _ _ _ _ _ _ bX]; rfl
 have hcx : PlC wx B P p S q K pv d rv rs d (.pointer none) rp := hc.still oX
 have z0 : wx.cell? ⟨P, 0, none⟩ = some (.pointer (some ⟨p, 0, none⟩)) := hcx.pc 0 _ rfl
 have z1 : wx.cell? ⟨P, 1, none⟩ = some (.pointer (some ⟨q, 0, none⟩)) := hcx.pc 1 _ rfl
 have z2 : wx.cell? ⟨P, 2, none⟩ = some (.pointer none) := hcx.pc 2 _ rfl
 have z3 : wx.cell? ⟨P, 3, none⟩ = some rp := hcx.pc 3 _ rfl
 have O0 : Hid (Only (fun _ => False) w0 wx) := h0.trans oX (fun _ _ g => g)
 have OX : Hid (Only (fun _ => False) w wx) := oX
 have HW : Hid (wx = w.alloc (.cells #[.int .i64 k, .int .i64 i, .int .i64 n, .int .i64 cut, vb, vk] 40)) := hwx
 have HX : Hid (Bx = w.heap.size) := hBx
 have oD : Only (fun _ => False) w wx.drew := oX.drew
 clear hwx bX hc
 have HN : Hid (PlOk wx B P p S q K N (m + 4000) ∧ Only (fun k => B ≤ k) wx wx) := ⟨hok.still oX, Only.refl _ _⟩
 clear hcx oX oD h0 hB hBx x1 x2 x3 x4 x5 hok z0 z1 z3
 go_enter Tryz.func7, Tryz.ntmps7
 go_upto_region 3 with fail
 rw [← HW.out, ← HX.out]
 skip
 go_wp2
 go_ret
 exact ⟨rfl, HN.out.1, (OX.out.mono (fun _ _ g => g.elim)).trans HN.out.2 (fun _ _ g => g)⟩
theorem step_none_hi {w0 w : World} {B P p S q K N m : Nat} {pv d rv rs rp} (hc : PlC w B P p S q K pv d rv rs d (.pointer none) rp) (h0 : Only (fun _ => False) w0 w) (hB : B = w0.heap.size) (hok : PlOk w B P p S q K N (m + 4000)) (i n cut : Int) (k : Int) (hk5 : 5 ≤ k) (hk9 : ¬ k ≤ 9) (vb vk : Value) :
  Calls Tryz.prog 7 #[.pointer (some ⟨P, 0, none⟩), .agg #[.int .i64 k, .int .i64 i, .int .i64 n, .int .i64 cut, vb, vk]] w fun e w' => e = .returned (.bool true) ∧ Hid (PlOk w' B P p S q K N (m + 4000) ∧ Only (fun k => B ≤ k) w w') := by
 obtain ⟨wx, hwx⟩ : ∃ z, z = w.alloc (.cells #[.int .i64 k, .int .i64 i, .int .i64 n, .int .i64 cut, vb, vk] 40) := ⟨_, rfl⟩
 obtain ⟨Bx, hBx⟩ : ∃ z, z = w.heap.size := ⟨_, rfl⟩
 have oX : Only (fun _ => False) w wx := by rw [hwx]; exact (Only.refl _ w).alloc _
 have bX : wx.heap[Bx]? = some (.cells #[.int .i64 k, .int .i64 i, .int .i64 n, .int .i64 cut, vb, vk] 40 (0, 0)) := by rw [hwx, hBx]; exact heap_alloc_new w _
 have x0 : wx.cell? ⟨Bx, 0, none⟩ = some (.int .i64 k) := by rw [cell_of_row _ _ _ _ _ _ bX]; rfl
 have x1 : wx.cell? ⟨Bx, 1, none⟩ = some (.int .i64 i) := by rw [cell_of_row _ _ _ _ _ _ bX]; rfl
 have x2 : wx.cell? ⟨Bx, 2, none⟩ = some (.int .i64 n) := by rw [cell_of_row _ _ _ _ _ _ bX]; rfl
 have x3 : wx.cell? ⟨Bx, 3, none⟩ = some (.int .i64 cut) := by rw [cell_of_row _ _ _ _ _ _ bX]; rfl
 have x4 : wx.cell? ⟨Bx, 4, none⟩ = some (vb) := by rw [cell_of_row _ _ _ _ _ _ bX]; rfl
 have x5 : wx.cell? ⟨Bx, 5, none⟩ = some (vk) := by rw [cell_of_row _ _ _ _ _ _ bX]; rfl
 have hcx : PlC wx B P p S q K pv d rv rs d (.pointer none) rp := hc.still oX
 have z0 : wx.cell? ⟨P, 0, none⟩ = some (.pointer (some ⟨p, 0, none⟩)) := hcx.pc 0 _ rfl
 have z1 : wx.cell? ⟨P, 1, none⟩ = some (.pointer (some ⟨q, 0, none⟩)) := hcx.pc 1 _ rfl
 have z2 : wx.cell? ⟨P, 2, none⟩ = some (.pointer none) := hcx.pc 2 _ rfl
 have z3 : wx.cell? ⟨P, 3, none⟩ = some rp := hcx.pc 3 _ rfl
 have O0 : Hid (Only (fun _ => False) w0 wx) := h0.trans oX (fun _ _ g => g)
 have OX : Hid (Only (fun _ => False) w wx) := oX
 have HW : Hid (wx = w.alloc (.cells #[.int .i64 k, .int .i64 i, .int .i64 n, .int .i64 cut, vb, vk] 40)) := hwx
 have HX : Hid (Bx = w.heap.size) := hBx
 have oD : Only (fun _ => False) w wx.drew := oX.drew
 clear hwx bX hc
 have HN : Hid (PlOk wx B P p S q K N (m + 4000) ∧ Only (fun k => B ≤ k) wx wx) := ⟨hok.still oX, Only.refl _ _⟩
 clear hcx oX oD h0 hB hBx x1 x2 x3 x4 x5 hok z0 z1 z3
 go_enter Tryz.func7, Tryz.ntmps7
 go_upto_region 3 with fail
 rw [← HW.out, ← HX.out]
 skip
 go_wp2
 go_ret
 exact ⟨rfl, HN.out.1, (OX.out.mono (fun _ _ g => g.elim)).trans HN.out.2 (fun _ _ g => g)⟩
theorem step_disk {w0 w : World} {B P p S q K N m : Nat} {pv d rv rs sv rp} (hc : PlC w B P p S q K pv d rv rs d sv rp) (h0 : Only (fun _ => False) w0 w) (hB : B = w0.heap.size) (i n cut k : Int) (vb vk : Value) (hd : ∀ W, Only (fun _ => False) w W → Calls Tryz.prog 15 #[.pointer (some ⟨P, 0, none⟩), .agg #[.int .i64 k, .int .i64 i, .int .i64 n, .int .i64 cut, vb, vk]] W fun e w1 => e = .returned (.bool true) ∧ Hid (PlOk w1 B P p S q K N (m + 4000) ∧ Only (fun k => B ≤ k) W w1)) (hk5 : 5 ≤ k) (hk9 : k ≤ 9) :
  Calls Tryz.prog 7 #[.pointer (some ⟨P, 0, none⟩), .agg #[.int .i64 k, .int .i64 i, .int .i64 n, .int .i64 cut, vb, vk]] w fun e w' => e = .returned (.bool true) ∧ Hid (PlOk w' B P p S q K N (m + 4000) ∧ Only (fun k => B ≤ k) w w') := by
 obtain ⟨wx, hwx⟩ : ∃ z, z = w.alloc (.cells #[.int .i64 k, .int .i64 i, .int .i64 n, .int .i64 cut, vb, vk] 40) := ⟨_, rfl⟩
 obtain ⟨Bx, hBx⟩ : ∃ z, z = w.heap.size := ⟨_, rfl⟩
 have oX : Only (fun _ => False) w wx := by rw [hwx]; exact (Only.refl _ w).alloc _
 have bX : wx.heap[Bx]? = some (.cells #[.int .i64 k, .int .i64 i, .int .i64 n, .int .i64 cut, vb, vk] 40 (0, 0)) := by rw [hwx, hBx]; exact heap_alloc_new w _
 have x0 : wx.cell? ⟨Bx, 0, none⟩ = some (.int .i64 k) := by rw [cell_of_row _ _ _ _ _ _ bX]; rfl
 have x1 : wx.cell? ⟨Bx, 1, none⟩ = some (.int .i64 i) := by rw [cell_of_row _ _ _ _ _ _ bX]; rfl
 have x2 : wx.cell? ⟨Bx, 2, none⟩ = some (.int .i64 n) := by rw [cell_of_row _ _ _ _ _ _ bX]; rfl
 have x3 : wx.cell? ⟨Bx, 3, none⟩ = some (.int .i64 cut) := by rw [cell_of_row _ _ _ _ _ _ bX]; rfl
 have x4 : wx.cell? ⟨Bx, 4, none⟩ = some (vb) := by rw [cell_of_row _ _ _ _ _ _ bX]; rfl
 have x5 : wx.cell? ⟨Bx, 5, none⟩ = some (vk) := by rw [cell_of_row _ _ _ _ _ _ bX]; rfl
 have hcx : PlC wx B P p S q K pv d rv rs d sv rp := hc.still oX
 have z0 : wx.cell? ⟨P, 0, none⟩ = some (.pointer (some ⟨p, 0, none⟩)) := hcx.pc 0 _ rfl
 have z1 : wx.cell? ⟨P, 1, none⟩ = some (.pointer (some ⟨q, 0, none⟩)) := hcx.pc 1 _ rfl
 have z2 : wx.cell? ⟨P, 2, none⟩ = some sv := hcx.pc 2 _ rfl
 have z3 : wx.cell? ⟨P, 3, none⟩ = some rp := hcx.pc 3 _ rfl
 have O0 : Hid (Only (fun _ => False) w0 wx) := h0.trans oX (fun _ _ g => g)
 have OX : Hid (Only (fun _ => False) w wx) := oX
 have HW : Hid (wx = w.alloc (.cells #[.int .i64 k, .int .i64 i, .int .i64 n, .int .i64 cut, vb, vk] 40)) := hwx
 have HX : Hid (Bx = w.heap.size) := hBx
 have oD : Only (fun _ => False) w wx.drew := oX.drew
 clear hwx bX hc
 have HD : Hid (Calls Tryz.prog 15 _ _ _) := hd wx oX
 clear hcx oX oD h0 hB hBx z0 z1 z2 z3 hd
 go_enter Tryz.func7, Tryz.ntmps7
 go_upto_region 2 with fail
 rw [← HW.out, ← HX.out]
 go_wp2_with fail
 refine (show Calls Tryz.prog 15 _ _ _ from HD.out).mono ?_
 rintro e w1 ⟨rfl, H1⟩
 have HA : Hid (Calls Tryz.prog 16 _ _ _) := H1.out.1.alike
 clear HD x0 x1 x2 x3 x4 x5
 go_wp2_with fail
 refine (show Calls Tryz.prog 16 _ _ _ from HA.out).mono ?_
 rintro e w2 ⟨rfl, o2⟩
 have HN : Hid (PlOk w2 B P p S q K N (m + 4000) ∧ Only (fun k => B ≤ k) wx w2) := ⟨H1.out.1.still o2, H1.out.2.trans (o2.mono (fun _ _ g => g.elim)) (fun _ _ g => g)⟩
 clear HA o2 H1
 go_wp2
 go_ret
 exact ⟨rfl, HN.out.1, (OX.out.mono (fun _ _ g => g.elim)).trans HN.out.2 (fun _ _ g => g)⟩
theorem step_any {w0 w : World} {B P p S q K N m : Nat} (h : PlOk w B P p S q K N m) (h0 : Only (fun _ => False) w0 w) (hB : B = w0.heap.size) (hm : m ≤ 8589934592) (o : OpK) (ho : o.ok w0) :
  Calls Tryz.prog 7 #[.pointer (some ⟨P, 0, none⟩), .agg o.cells.toArray] w fun e w' => e = .returned (.bool true) ∧ Hid (PlOk w' B P p S q K N (m + 4000) ∧ Only (fun k => B ≤ k) w w') := by
 obtain ⟨k, i, n, cut, b, ks, vb, vk⟩ := o
 obtain ⟨hb, hk, hn⟩ := ho
 simp only at hb hk hn
 obtain ⟨ab, cb, rfl, _⟩ := hb.form
 have hkf : ∃ ak mk ck, vk = .slice ak mk ck := by
  rcases hk.1 with ⟨g, _⟩ | ⟨ad, c, g, _⟩
  ·exact ⟨_, _, _, g⟩
  ·exact ⟨_, _, _, g⟩
 obtain ⟨ak, mk, ck, rfl⟩ := hkf
 obtain ⟨pv, d, rv, rs, sv, rp, hc, hs, hf⟩ := id h
 show Calls Tryz.prog 7 #[.pointer (some ⟨P, 0, none⟩), .agg #[.int .i64 k, .int .i64 i, .int .i64 n, .int .i64 cut, .slice ab b.length cb, .slice ak mk ck]] w _
 by_cases hr : 5 ≤ k ∧ k ≤ 9
 ·refine step_disk hc h0 hB i n cut k _ _ (fun W oW => ?_) hr.1 hr.2
  have hW := h.still oW
  have h0W : Only (fun _ => False) w0 W := h0.trans oW (fun _ _ g => g)
  have : k = 5 ∨ k = 6 ∨ k = 7 ∨ k = 8 ∨ k = 9 := by omega
  rcases this with rfl | rfl | rfl | rfl | rfl
  ·exact disk_open hW h0W hB hm i n cut _ _
  ·exact disk_crash hW h0W hB hm i n cut _ ak mk ck ks hk
  ·exact disk_live hW h0W hB hm i n cut _ _ hn
  ·exact disk_sector hW h0W hB hm i n cut ab b.length cb b hb _
  ·exact disk_format hW h0W hB hm i n cut _ _
 ·have hok : PlOk w B P p S q K N (m + 4000) := ⟨pv, d, rv, rs, sv, rp, hc, hs, hf.mono (by omega)⟩
  rcases hc.ops hs hf hm (Nat.le_refl _) with ⟨rfl, rfl⟩ | ⟨s, r, rfl, rfl, hops⟩
  ·by_cases h5 : 5 ≤ k
   ·exact step_none_hi hc h0 hB hok i n cut k h5 (fun g => hr ⟨h5, g⟩) _ _
   ·exact step_none_lo hc h0 hB hok i n cut k h5 _ _
  ·by_cases k1 : k = 1
   ·subst k1; exact step_get hc h0 hB hops i n cut _ _
   ·by_cases k2 : k = 2
    ·subst k2; exact step_drop hc h0 hB hops i n cut _ _
    ·by_cases k3 : k = 3
     ·subst k3; exact step_commit hc h0 hB hops i n cut _ _
     ·by_cases k4 : k = 4
      ·subst k4; exact step_roll hc h0 hB hops i n cut _ _
      ·by_cases h5 : 5 ≤ k
       ·exact step_put_hi hc h0 hB hops i n cut k k1 k2 k3 k4 h5 (fun g => hr ⟨h5, g⟩) ab b.length cb b hb _
       ·exact step_put_lo hc h0 hB hops i n cut k k1 k2 k3 k4 h5 ab b.length cb b hb _
end Go.Proofs.YtlcglapcmdpkfaaGreat
