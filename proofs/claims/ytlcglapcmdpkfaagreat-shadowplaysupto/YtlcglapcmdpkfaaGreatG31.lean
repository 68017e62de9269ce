import Derived.Test.YtlcglapcmdpkfaaGreatG30
import Derived.BigQuiet
import Derived.OpenShut
import Derived.Deep.RegionHeld3
namespace Go.Proofs.YtlcglapcmdpkfaaGreat
open Go.RowKit Go.Maps
set_option linter.unusedSimpArgs false
set_option linter.unusedVariables false
def FlagsIn (W : World) (v : Value) (ks : List Bool) : Prop := RowAt W v ks.length 1 (fun j => .bool (ks.getD j false)) ∧ ks.length ≤ 140737488351232
theorem emptyF (w : World) : (Instr.buildSlice 38 0 #[]).run Tryz.prog w = .ok (.slice (some ⟨w.heap.size, 0, none⟩) 0 0) (w.alloc (.cells #[] 4)) := by kernel_rfl
theorem app_flags (w : World) (v : Value) (ks : List Bool) (hv : FlagsIn w v ks) (S : Nat) (hS : S < w.heap.size) : ∃ a cap w', (∀ ty, (Builtin.append_ #[38, 38] ty #[.slice (some ⟨w.heap.size, 0, none⟩) 0 0, v]).run Tryz.prog (w.alloc (.cells #[] 4)) = .ok (.slice a ks.length cap) w') ∧ DFlags w' (.slice a ks.length cap) ks.length (fun j => ks.getD j false) S ∧ Only (fun _ => False) w w' := by
 obtain ⟨i4, hi4, hz0, hz1, hz2⟩ := info_parts info4
 obtain ⟨a, cap, w', hr, own, o⟩ := app_copy 38 4 i4 _ 1 Tryz.underlying38 hi4 hz0 hz1 hz2 rfl rfl w v ks.length _ hv.1 (fun j => rfl) (by have := hv.2; omega)
 exact ⟨a, cap, w', hr, flags_own own (by have := hv.2; unfold maxLen; omega) hS, o⟩
theorem FlagsIn.df {w0 w : World} {v : Value} {ks : List Bool} (h : FlagsIn w0 v ks) (ho : Only (fun _ => False) w0 w) {K : Nat} (hK : w0.heap.size ≤ K) : DFlags w v ks.length (fun j => ks.getD j false) K := by
 rcases h.1 with ⟨rfl, h0⟩ | ⟨ad, c, rfl, hkc, hc⟩
 ·exact ⟨none, 0, by rw [h0], by unfold maxLen; omega, fun i hi => by omega⟩
 ·refine ⟨some ad, c, rfl, by have := h.2; unfold maxLen; omega, fun i hi => ?_⟩
  have h1 := hc i (by omega)
  have h2 := hc 0 (by omega)
  obtain ⟨g, o, sp⟩ := ad
  have hs := World.cell?_spot h2
  have hs' : sp = none := by simpa [Addr.add] using hs
  subst hs'
  rw [Addr.add_mid] at h1
  have hl := World.block_lt_of_cell? _ _ h1
  exact ⟨g, o, rfl, by simp only at hl; omega, ho.cell h1 (fun g => g)⟩
theorem sec_row {w : World} {f : Nat → Int} {g : Nat} (h : w.heap[g]? = some (.cells (secL f).toArray 5 (0, 0))) : RowAt w (.slice (some ⟨g, 0, none⟩) 32 32) 32 1 (fun j => .int .u8 (f j)) := by
 refine .inr ⟨_, _, rfl, by omega, fun j hj => ?_⟩
 rw [Addr.add_mid, cell_of_row _ _ _ _ _ _ h, Nat.zero_add]
 have : j < 32 := by omega
 simp [secL, this]
theorem PlC.pair4 {w w0 : World} {B P p S q K X n m : Nat} {pv rv sv rp vb : Value} {rs : List RW} {d : DS} {b : List Nat} (hc : PlC w B P p S q K pv d rv rs d sv rp) (hk : StK w B P p S q K pv rv rs n sv rp) (hf : Fd d n m) (hm : m ≤ 8589934592)
  (hX : X < w.heap.size ∧ ¬ diskB p S pv X ∧ ¬ refB q K rv rs X) (h0 : Only (fun _ => False) w0 w) (hB : B = w0.heap.size) (hb : BytesAt w0 vb b) (i : Int) :
  Calls Tryz.prog 41 #[vb] w fun e w1 => ∃ a1, e = .returned (.slice a1 32 32) ∧ Hid (KeepC P X w w1) ∧ Hid (Calls Tryz.prog 40 #[.pointer (some ⟨p, 0, none⟩), .int .i64 i, .slice a1 32 32] w1 fun e w2 => e = .returned (.int .i64 (d.write i (fillF b) 32).1) ∧ Hid (KeepC P X w w2) ∧
   Hid (Calls Tryz.prog 41 #[vb] w2 fun e w3 => ∃ a3, e = .returned (.slice a3 32 32) ∧ Hid (KeepC P X w w3) ∧ Hid (Calls Tryz.prog 42 #[.pointer (some ⟨q, 0, none⟩), .int .i64 i, .slice a3 32 32] w3 fun e w4 => e = .returned (.int .i64 (d.write i (fillF b) 32).1) ∧ Hid (KeepC P X w w4) ∧ Hid (PlOk w4 B P p S q K n (m + 4000) ∧ Only (fun k => B ≤ k) w w4)))) := by
 have hpd := hf.pd
 have hpB := hc.pB
 have hPl := hc.lt
 have hBl : B ≤ w.heap.size := by omega
 refine (sector_any vb b w (hb.frame h0)).mono ?_
 rintro e w1 ⟨rfl, rfl⟩
 have o1 : Only (fun _ => False) w (w.alloc (.cells (secL (fillF b)).toArray 5)) := (Only.refl _ w).alloc _
 have c1 := hc.still o1
 have r1 := sec_row (f := fillF b) (heap_alloc_new w (.cells (secL (fillF b)).toArray 5))
 have k1 : KeepC P X w (w.alloc (.cells (secL (fillF b)).toArray 5)) := KeepC.of o1 (fun g => g) (fun g => g)
 have hs1 := o1.size
 refine ⟨_, rfl, k1, (write_all p S 32 32 B _ pv d i (fillF b) _ c1.dk r1 (by omega) (by omega) (by omega)).mono ?_⟩
 rintro e w2 ⟨rfl, pv', g1, g2, g3⟩
 have c2 : PlC w2 B P p S q K pv' (d.write i (fillF b) 32).2 rv rs d sv rp := c1.prog (X := fun _ => False) g1 (g2.mono (fun _ _ g => .inl g)) (fun _ g => g.elim) g3
 have k2 := k1.trans (KeepC.of g2 hc.a1 hX.2.1)
 have hs2 := g2.size
 have o02 : Only (fun _ => False) w0 w2 := (h0.trans o1 (fun _ _ g => g)).trans g2 (fun k hk g => by have := (hc.dk.lt k g).1; omega)
 refine ⟨rfl, k2, (sector_any vb b w2 (hb.frame o02)).mono ?_⟩
 rintro e w3 ⟨rfl, rfl⟩
 have o3 : Only (fun _ => False) w2 (w2.alloc (.cells (secL (fillF b)).toArray 5)) := (Only.refl _ w2).alloc _
 have c3 := c2.still o3
 have r3 := sec_row (f := fillF b) (heap_alloc_new w2 (.cells (secL (fillF b)).toArray 5))
 have k3 := k2.trans (KeepC.of o3 (fun g => g) (fun g => g))
 have hs3 := o3.size
 refine ⟨_, rfl, k3, (rput_all c3.rf _ 32 32 i (fillF b) r3 (by omega) (by omega) (by omega)).mono ?_⟩
 rintro e w4 ⟨rfl, rv', rs', i1, i2, i3⟩
 have c4 : PlC w4 B P p S q K pv' (d.write i (fillF b) 32).2 rv' rs' (d.write i (fillF b) 32).2 sv rp := c3.doc (X := fun _ => False) i1 (i2.mono (fun _ _ g => .inl g)) (fun _ g => g.elim) i3
 have oo : Only (fun k => k = P ∨ diskB p S pv k ∨ refB q K rv rs k) w w4 := (((o1.mono (fun _ _ g => g.elim)).trans (g2.mono (fun _ _ g => .inr (.inl g))) (fun _ _ g => g)).trans (o3.mono (fun _ _ g => g.elim)) (fun _ _ g => g)).trans (i2.mono (fun _ _ g => .inr (.inr g))) (fun _ _ g => g)
 refine ⟨rfl, k3.trans (KeepC.of i2 hc.a2 hX.2.2), ⟨pv', _, rv', rs', sv, rp, c4, hk.disks oo (fun b g => ?_) (fun b g => ?_), (hf.write i (fillF b) 32 (fillF_byt hb.2.2)).mono (by omega)⟩, oo.mono (fun k hk g => hc.low k g)⟩
 ·rcases g3 b g with g | g
  ·exact .inl g
  ·exact .inr (by omega)
 ·rcases i3 b g with g | g
  ·exact .inl g
  ·exact .inr (by omega)
set_option maxRecDepth 100000 in
set_option maxHeartbeats 4000000 in
theorem disk_live {w0 w : World} {B P p S q K N m : Nat} (h : PlOk w B P p S q K N m) (h0 : Only (fun _ => False) w0 w) (hB : B = w0.heap.size) (hm : m ≤ 8589934592) (i n cut : Int) (vb vk : Value) (hn : n ≤ 9223372036854775807) :
  Calls Tryz.prog 15 #[.pointer (some ⟨P, 0, none⟩), .agg #[.int .i64 7, .int .i64 i, .int .i64 n, .int .i64 cut, vb, vk]] w fun e w' => e = .returned (.bool true) ∧ Hid (PlOk w' B P p S q K N (m + 4000) ∧ Only (fun k => B ≤ k) w w') := by
 obtain ⟨pv, d, rv, rs, sv, rp, hc, hk, hf⟩ := h
 obtain ⟨wx, hwx⟩ : ∃ z, z = w.alloc (.cells #[.int .i64 7, .int .i64 i, .int .i64 n, .int .i64 cut, vb, vk] 40) := ⟨_, rfl⟩
 obtain ⟨Bx, hBx⟩ : ∃ z, z = w.heap.size := ⟨_, rfl⟩
 have oX : Only (fun _ => False) w wx := by rw [hwx]; exact (Only.refl _ w).alloc _
 have bX : wx.heap[Bx]? = some (.cells #[.int .i64 7, .int .i64 i, .int .i64 n, .int .i64 cut, vb, vk] 40 (0, 0)) := by rw [hwx, hBx]; exact heap_alloc_new w _
 have x0 : wx.cell? ⟨Bx, 0, none⟩ = some (.int .i64 7) := by rw [cell_of_row _ _ _ _ _ _ bX]; rfl
 have x1 : wx.cell? ⟨Bx, 1, none⟩ = some (.int .i64 i) := by rw [cell_of_row _ _ _ _ _ _ bX]; rfl
 have x2 : wx.cell? ⟨Bx, 2, none⟩ = some (.int .i64 n) := by rw [cell_of_row _ _ _ _ _ _ bX]; rfl
 have x3 : wx.cell? ⟨Bx, 3, none⟩ = some (.int .i64 cut) := by rw [cell_of_row _ _ _ _ _ _ bX]; rfl
 have x4 : wx.cell? ⟨Bx, 4, none⟩ = some (vb) := by rw [cell_of_row _ _ _ _ _ _ bX]; rfl
 have x5 : wx.cell? ⟨Bx, 5, none⟩ = some (vk) := by rw [cell_of_row _ _ _ _ _ _ bX]; rfl
 have hcx : PlC wx B P p S q K pv d rv rs d sv rp := hc.still oX
 have hkx : StK wx B P p S q K pv rv rs N sv rp := hk.disks (oX.mono (fun _ _ g => g.elim)) (fun b g => .inl g) (fun b g => .inl g)
 have hX : Bx < wx.heap.size ∧ ¬ diskB p S pv Bx ∧ ¬ refB q K rv rs Bx := ⟨by rw [hwx, hBx]; simp, fun g => by have := (hc.dk.lt _ g).2; omega, fun g => by have := (hc.rf.lt _ g).2; omega⟩
 have z0 : wx.cell? ⟨P, 0, none⟩ = some (.pointer (some ⟨p, 0, none⟩)) := hcx.pc 0 _ rfl
 have z1 : wx.cell? ⟨P, 1, none⟩ = some (.pointer (some ⟨q, 0, none⟩)) := hcx.pc 1 _ rfl
 have z2 : wx.cell? ⟨P, 2, none⟩ = some sv := hcx.pc 2 _ rfl
 have z3 : wx.cell? ⟨P, 3, none⟩ = some rp := hcx.pc 3 _ rfl
 have O0 : Hid (Only (fun _ => False) w0 wx) := h0.trans oX (fun _ _ g => g)
 have OX : Hid (Only (fun _ => False) w wx) := oX
 have HW : Hid (wx = w.alloc (.cells #[.int .i64 7, .int .i64 i, .int .i64 n, .int .i64 cut, vb, vk] 40)) := hwx
 have HX : Hid (Bx = w.heap.size) := hBx
 have oD : Only (fun _ => False) wx wx.drew := (Only.refl _ wx).drew
 have hkd : StK wx.drew B P p S q K pv rv rs N sv rp := hkx.disks (oD.mono (fun _ _ g => g.elim)) (fun b g => .inl g) (fun b g => .inl g)
 have hcd : PlC wx.drew B P p S q K pv d rv rs d sv rp := hcx.still oD
 have hpd := hf.pd
 have zw0 : w.cell? ⟨P, 0, none⟩ = some (.pointer (some ⟨p, 0, none⟩)) := hc.pc 0 _ rfl
 clear hwx hBx bX hc hk
 have HC : Hid (Calls Tryz.prog 38 #[.pointer (some ⟨p, 0, none⟩), .int .i64 n] wx.drew fun e w1 => e = .returned (.int .i64 (d.live n).1) ∧ Hid (KeepC P Bx wx.drew w1) ∧ Hid (Calls Tryz.prog 39 #[.pointer (some ⟨q, 0, none⟩), .int .i64 n] w1 fun e w2 => e = .returned (.int .i64 (d.live n).1) ∧ Hid (KeepC P Bx wx.drew w2) ∧ Hid (PlOk w2 B P p S q K N (m + 4000) ∧ Only (fun k => B ≤ k) wx.drew w2))) :=
  hcd.pair hkd ((hf.live n).mono (by omega)) hX (live_all hcd.dk n hn) (fun w1 _ hr => rlive_all hr n hn)
 obtain ⟨Y, hY⟩ : ∃ Y, Y = (d.live n).1 := ⟨_, rfl⟩
 rw [← hY] at HC
 clear hY
 clear hcx hkx hX O0 oD hkd hcd hpd oX h0 hf hB zw0 x1 x3 x4 x5 z2 z3
 go_enter Tryz.func15, Tryz.ntmps15
 go_wp2_with fail
 rw [← HW.out, ← HX.out]
 go_region_held3 (fun w' => w'.cell? ⟨P, 0, none⟩ = some (.pointer (some ⟨p, 0, none⟩)) ∧ w'.cell? ⟨P, 1, none⟩ = some (.pointer (some ⟨q, 0, none⟩)) ∧ w'.cell? ⟨Bx, 2, none⟩ = some (.int .i64 n)) (first | exact ⟨HK2.out P (.inl rfl) 0 _ z0, HK2.out P (.inl rfl) 1 _ z1, HK2.out Bx (.inr rfl) 2 _ x2⟩ | exact ⟨HK1.out P (.inl rfl) 0 _ z0, HK1.out P (.inl rfl) 1 _ z1, HK1.out Bx (.inr rfl) 2 _ x2⟩ | go_keep)
  (first
   | (go_at_call 38; refine (show Calls Tryz.prog 38 _ _ _ from HC.out).mono ?_; rintro e w1 ⟨rfl, HK1, HC1⟩)
   | (go_at_call 39; refine (show Calls Tryz.prog 39 _ _ _ from HC1.out).mono ?_; rintro e w2 ⟨rfl, HK2, HN⟩))
 clear HC HC1 HK1 HK2 z0 z1 x2
 go_wp2
 go_ret
 exact ⟨rfl, HN.out.1, (OX.out.drew.mono (fun _ _ g => g.elim)).trans HN.out.2 (fun _ _ g => g)⟩
set_option maxRecDepth 100000 in
set_option maxHeartbeats 4000000 in
theorem disk_crash {w0 w : World} {B P p S q K N m : Nat} (h : PlOk w B P p S q K N m) (h0 : Only (fun _ => False) w0 w) (hB : B = w0.heap.size) (hm : m ≤ 8589934592) (i n cut : Int) (vb : Value) (ak : Option Addr) (mk ck : Nat) (ks : List Bool) (hks : FlagsIn w0 (.slice ak mk ck) ks) :
  Calls Tryz.prog 15 #[.pointer (some ⟨P, 0, none⟩), .agg #[.int .i64 6, .int .i64 i, .int .i64 n, .int .i64 cut, vb, .slice ak mk ck]] w fun e w' => e = .returned (.bool true) ∧ Hid (PlOk w' B P p S q K N (m + 4000) ∧ Only (fun k => B ≤ k) w w') := by
 obtain ⟨pv, d, rv, rs, sv, rp, hc, hk, hf⟩ := h
 obtain ⟨wx, hwx⟩ : ∃ z, z = w.alloc (.cells #[.int .i64 6, .int .i64 i, .int .i64 n, .int .i64 cut, vb, .slice ak mk ck] 40) := ⟨_, rfl⟩
 obtain ⟨Bx, hBx⟩ : ∃ z, z = w.heap.size := ⟨_, rfl⟩
 have oX : Only (fun _ => False) w wx := by rw [hwx]; exact (Only.refl _ w).alloc _
 have bX : wx.heap[Bx]? = some (.cells #[.int .i64 6, .int .i64 i, .int .i64 n, .int .i64 cut, vb, .slice ak mk ck] 40 (0, 0)) := by rw [hwx, hBx]; exact heap_alloc_new w _
 have x0 : wx.cell? ⟨Bx, 0, none⟩ = some (.int .i64 6) := by rw [cell_of_row _ _ _ _ _ _ bX]; rfl
 have x1 : wx.cell? ⟨Bx, 1, none⟩ = some (.int .i64 i) := by rw [cell_of_row _ _ _ _ _ _ bX]; rfl
 have x2 : wx.cell? ⟨Bx, 2, none⟩ = some (.int .i64 n) := by rw [cell_of_row _ _ _ _ _ _ bX]; rfl
 have x3 : wx.cell? ⟨Bx, 3, none⟩ = some (.int .i64 cut) := by rw [cell_of_row _ _ _ _ _ _ bX]; rfl
 have x4 : wx.cell? ⟨Bx, 4, none⟩ = some (vb) := by rw [cell_of_row _ _ _ _ _ _ bX]; rfl
 have x5 : wx.cell? ⟨Bx, 5, none⟩ = some (.slice ak mk ck) := by rw [cell_of_row _ _ _ _ _ _ bX]; rfl
 have hcx : PlC wx B P p S q K pv d rv rs d sv rp := hc.still oX
 have hkx : StK wx B P p S q K pv rv rs N sv rp := hk.disks (oX.mono (fun _ _ g => g.elim)) (fun b g => .inl g) (fun b g => .inl g)
 have hX : Bx < wx.heap.size ∧ ¬ diskB p S pv Bx ∧ ¬ refB q K rv rs Bx := ⟨by rw [hwx, hBx]; simp, fun g => by have := (hc.dk.lt _ g).2; omega, fun g => by have := (hc.rf.lt _ g).2; omega⟩
 have z0 : wx.cell? ⟨P, 0, none⟩ = some (.pointer (some ⟨p, 0, none⟩)) := hcx.pc 0 _ rfl
 have z1 : wx.cell? ⟨P, 1, none⟩ = some (.pointer (some ⟨q, 0, none⟩)) := hcx.pc 1 _ rfl
 have z2 : wx.cell? ⟨P, 2, none⟩ = some sv := hcx.pc 2 _ rfl
 have z3 : wx.cell? ⟨P, 3, none⟩ = some rp := hcx.pc 3 _ rfl
 have O0 : Hid (Only (fun _ => False) w0 wx) := h0.trans oX (fun _ _ g => g)
 have OX : Hid (Only (fun _ => False) w wx) := oX
 have HW : Hid (wx = w.alloc (.cells #[.int .i64 6, .int .i64 i, .int .i64 n, .int .i64 cut, vb, .slice ak mk ck] 40)) := hwx
 have HX : Hid (Bx = w.heap.size) := hBx
 have oD : Only (fun _ => False) wx wx.drew := (Only.refl _ wx).drew
 have hkd : StK wx.drew B P p S q K pv rv rs N sv rp := hkx.disks (oD.mono (fun _ _ g => g.elim)) (fun b g => .inl g) (fun b g => .inl g)
 have hcd : PlC wx.drew B P p S q K pv d rv rs d sv rp := hcx.still oD
 have hpd := hf.pd
 have zw0 : w.cell? ⟨P, 0, none⟩ = some (.pointer (some ⟨p, 0, none⟩)) := hc.pc 0 _ rfl
 clear hwx hBx bX hc hk
 have hfx : FlagsIn wx.drew (.slice ak mk ck) ks := ⟨hks.1.frame (O0.out.trans oD (fun _ _ g => g)) (fun _ g => g.elim), hks.2⟩
 obtain ⟨aF, capF, w2, hrF, hdf, o2⟩ := app_flags wx.drew (.slice ak mk ck) ks hfx S (hcd.dk.lt S (.inr (.inl rfl))).2
 have o02 : Only (fun _ => False) w0 w2 := (O0.out.trans oD (fun _ _ g => g)).trans o2 (fun _ _ g => g)
 have hc2 := hcd.still o2
 have hk2 : StK w2 B P p S q K pv rv rs N sv rp := hkd.disks (o2.mono (fun _ _ g => g.elim)) (fun b g => .inl g) (fun b g => .inl g)
 have hX2 : Bx < w2.heap.size ∧ ¬ diskB p S pv Bx ∧ ¬ refB q K rv rs Bx := ⟨Nat.lt_of_lt_of_le hX.1 o2.size, hX.2⟩
 have HC : Hid (Calls Tryz.prog 36 #[.pointer (some ⟨p, 0, none⟩), .slice aF ks.length capF, .int .i64 n, .int .i64 cut] w2 fun e w1 => e = .returned (.int .i64 (d.crash ks n cut).1) ∧ Hid (KeepC P Bx w2 w1) ∧ Hid (Calls Tryz.prog 37 #[.pointer (some ⟨q, 0, none⟩), .slice ak mk ck, .int .i64 n, .int .i64 cut] w1 fun e w2' => e = .returned (.int .i64 (d.crash ks n cut).1) ∧ Hid (KeepC P Bx w2 w2') ∧ Hid (PlOk w2' B P p S q K N (m + 4000) ∧ Only (fun k => B ≤ k) w2 w2'))) :=
  hc2.pair hk2 ((hf.crash ks n cut).mono (by omega)) hX2 (crash_alls hc2.dk ks n cut hdf) (fun w1 ho hr => rcrash_alls hr (by omega) ks n cut (hks.df (o02.trans ho (fun k hk g => by have := (hc2.dk.lt k g).1; omega)) (by have := hr.KB; omega)))
 have HY : Hid (w2.cell? ⟨P, 0, none⟩ = some (.pointer (some ⟨p, 0, none⟩)) ∧ w2.cell? ⟨P, 1, none⟩ = some (.pointer (some ⟨q, 0, none⟩)) ∧ w2.cell? ⟨Bx, 2, none⟩ = some (.int .i64 n) ∧ w2.cell? ⟨Bx, 3, none⟩ = some (.int .i64 cut) ∧ w2.cell? ⟨Bx, 5, none⟩ = some (.slice ak mk ck)) := ⟨hc2.pc 0 _ rfl, hc2.pc 1 _ rfl, o2.cell x2 (fun g => g), o2.cell x3 (fun g => g), o2.cell x5 (fun g => g)⟩
 have HRF : Hid _ := hrF
 have hem := emptyF
 have O2 : Hid (Only (fun _ => False) w w2) := (OX.out.trans oD (fun _ _ g => g)).trans o2 (fun _ _ g => g)
 obtain ⟨Y, hY⟩ : ∃ Y, Y = (d.crash ks n cut).1 := ⟨_, rfl⟩
 rw [← hY] at HC
 clear hY hfx hrF hdf o2 o02 hc2 hk2 hX2
 clear hcx hkx hX O0 oD hkd hcd hpd oX h0 hf hB zw0 x1 x4 z2 z3
 go_enter Tryz.func15, Tryz.ntmps15
 go_wp2_with fail
 rw [← HW.out, ← HX.out]
 go_region_held3 (fun w' => w'.cell? ⟨P, 0, none⟩ = some (.pointer (some ⟨p, 0, none⟩)) ∧ w'.cell? ⟨P, 1, none⟩ = some (.pointer (some ⟨q, 0, none⟩)) ∧ w'.cell? ⟨Bx, 2, none⟩ = some (.int .i64 n) ∧ w'.cell? ⟨Bx, 3, none⟩ = some (.int .i64 cut) ∧ w'.cell? ⟨Bx, 5, none⟩ = some (.slice ak mk ck)) (first | exact ⟨HK4.out P (.inl rfl) 0 _ HY.out.1, HK4.out P (.inl rfl) 1 _ HY.out.2.1, HK4.out Bx (.inr rfl) 2 _ HY.out.2.2.1, HK4.out Bx (.inr rfl) 3 _ HY.out.2.2.2.1, HK4.out Bx (.inr rfl) 5 _ HY.out.2.2.2.2⟩ | exact ⟨HK3.out P (.inl rfl) 0 _ HY.out.1, HK3.out P (.inl rfl) 1 _ HY.out.2.1, HK3.out Bx (.inr rfl) 2 _ HY.out.2.2.1, HK3.out Bx (.inr rfl) 3 _ HY.out.2.2.2.1, HK3.out Bx (.inr rfl) 5 _ HY.out.2.2.2.2⟩ | exact HY.out | go_keep)
  (first
   | (refine step_append_run (by rfl) _ _ 38 (by rfl) _ _ (.slice aF ks.length capF) (by rfl) (by rfl) HRF.out ?_)
   | (go_at_call 36; refine (show Calls Tryz.prog 36 _ _ _ from HC.out).mono ?_; rintro e w3 ⟨rfl, HK3, HC3⟩)
   | (go_at_call 37; refine (show Calls Tryz.prog 37 _ _ _ from HC3.out).mono ?_; rintro e w4 ⟨rfl, HK4, HN⟩))
 clear HC HC3 HK3 HK4 HY HRF z0 z1 x2 x3 x5
 go_wp2
 go_ret
 exact ⟨rfl, HN.out.1, (O2.out.mono (fun _ _ g => g.elim)).trans HN.out.2 (fun _ _ g => g)⟩
set_option maxRecDepth 100000 in
set_option maxHeartbeats 4000000 in
theorem disk_sector {w0 w : World} {B P p S q K N m : Nat} (h : PlOk w B P p S q K N m) (h0 : Only (fun _ => False) w0 w) (hB : B = w0.heap.size) (hm : m ≤ 8589934592) (i n cut : Int) (ab : Option Addr) (mb cb : Nat) (b : List Nat) (hb : BytesAt w0 (.slice ab mb cb) b) (vk : Value) :
  Calls Tryz.prog 15 #[.pointer (some ⟨P, 0, none⟩), .agg #[.int .i64 8, .int .i64 i, .int .i64 n, .int .i64 cut, .slice ab mb cb, vk]] w fun e w' => e = .returned (.bool true) ∧ Hid (PlOk w' B P p S q K N (m + 4000) ∧ Only (fun k => B ≤ k) w w') := by
 obtain ⟨pv, d, rv, rs, sv, rp, hc, hk, hf⟩ := h
 obtain ⟨wx, hwx⟩ : ∃ z, z = w.alloc (.cells #[.int .i64 8, .int .i64 i, .int .i64 n, .int .i64 cut, .slice ab mb cb, vk] 40) := ⟨_, rfl⟩
 obtain ⟨Bx, hBx⟩ : ∃ z, z = w.heap.size := ⟨_, rfl⟩
 have oX : Only (fun _ => False) w wx := by rw [hwx]; exact (Only.refl _ w).alloc _
 have bX : wx.heap[Bx]? = some (.cells #[.int .i64 8, .int .i64 i, .int .i64 n, .int .i64 cut, .slice ab mb cb, vk] 40 (0, 0)) := by rw [hwx, hBx]; exact heap_alloc_new w _
 have x0 : wx.cell? ⟨Bx, 0, none⟩ = some (.int .i64 8) := by rw [cell_of_row _ _ _ _ _ _ bX]; rfl
 have x1 : wx.cell? ⟨Bx, 1, none⟩ = some (.int .i64 i) := by rw [cell_of_row _ _ _ _ _ _ bX]; rfl
 have x2 : wx.cell? ⟨Bx, 2, none⟩ = some (.int .i64 n) := by rw [cell_of_row _ _ _ _ _ _ bX]; rfl
 have x3 : wx.cell? ⟨Bx, 3, none⟩ = some (.int .i64 cut) := by rw [cell_of_row _ _ _ _ _ _ bX]; rfl
 have x4 : wx.cell? ⟨Bx, 4, none⟩ = some (.slice ab mb cb) := by rw [cell_of_row _ _ _ _ _ _ bX]; rfl
 have x5 : wx.cell? ⟨Bx, 5, none⟩ = some (vk) := by rw [cell_of_row _ _ _ _ _ _ bX]; rfl
 have hcx : PlC wx B P p S q K pv d rv rs d sv rp := hc.still oX
 have hkx : StK wx B P p S q K pv rv rs N sv rp := hk.disks (oX.mono (fun _ _ g => g.elim)) (fun b g => .inl g) (fun b g => .inl g)
 have hX : Bx < wx.heap.size ∧ ¬ diskB p S pv Bx ∧ ¬ refB q K rv rs Bx := ⟨by rw [hwx, hBx]; simp, fun g => by have := (hc.dk.lt _ g).2; omega, fun g => by have := (hc.rf.lt _ g).2; omega⟩
 have z0 : wx.cell? ⟨P, 0, none⟩ = some (.pointer (some ⟨p, 0, none⟩)) := hcx.pc 0 _ rfl
 have z1 : wx.cell? ⟨P, 1, none⟩ = some (.pointer (some ⟨q, 0, none⟩)) := hcx.pc 1 _ rfl
 have z2 : wx.cell? ⟨P, 2, none⟩ = some sv := hcx.pc 2 _ rfl
 have z3 : wx.cell? ⟨P, 3, none⟩ = some rp := hcx.pc 3 _ rfl
 have O0 : Hid (Only (fun _ => False) w0 wx) := h0.trans oX (fun _ _ g => g)
 have OX : Hid (Only (fun _ => False) w wx) := oX
 have HW : Hid (wx = w.alloc (.cells #[.int .i64 8, .int .i64 i, .int .i64 n, .int .i64 cut, .slice ab mb cb, vk] 40)) := hwx
 have HX : Hid (Bx = w.heap.size) := hBx
 have oD : Only (fun _ => False) wx wx.drew := (Only.refl _ wx).drew
 have hkd : StK wx.drew B P p S q K pv rv rs N sv rp := hkx.disks (oD.mono (fun _ _ g => g.elim)) (fun b g => .inl g) (fun b g => .inl g)
 have hcd : PlC wx.drew B P p S q K pv d rv rs d sv rp := hcx.still oD
 have hpd := hf.pd
 have zw0 : w.cell? ⟨P, 0, none⟩ = some (.pointer (some ⟨p, 0, none⟩)) := hc.pc 0 _ rfl
 clear hwx hBx bX hc hk
 have HC := hcd.pair4 hkd hf hm hX (O0.out.trans oD (fun _ _ g => g)) hB hb i
 have HC0 : Hid _ := HC
 obtain ⟨Y, hY⟩ : ∃ Y, Y = (d.write i (fillF b) 32).1 := ⟨_, rfl⟩
 rw [← hY] at HC0
 clear hY HC
 clear hcx hkx hX O0 oD hkd hcd hpd oX h0 hf hB zw0 x2 x3 x5 z2 z3
 go_enter Tryz.func15, Tryz.ntmps15
 go_wp2_with fail
 rw [← HW.out, ← HX.out]
 go_region_held3 (fun w' => w'.cell? ⟨P, 0, none⟩ = some (.pointer (some ⟨p, 0, none⟩)) ∧ w'.cell? ⟨P, 1, none⟩ = some (.pointer (some ⟨q, 0, none⟩)) ∧ w'.cell? ⟨Bx, 1, none⟩ = some (.int .i64 i) ∧ w'.cell? ⟨Bx, 4, none⟩ = some (.slice ab mb cb)) (first | exact ⟨HK4.out P (.inl rfl) 0 _ z0, HK4.out P (.inl rfl) 1 _ z1, HK4.out Bx (.inr rfl) 1 _ x1, HK4.out Bx (.inr rfl) 4 _ x4⟩ | exact ⟨HK3.out P (.inl rfl) 0 _ z0, HK3.out P (.inl rfl) 1 _ z1, HK3.out Bx (.inr rfl) 1 _ x1, HK3.out Bx (.inr rfl) 4 _ x4⟩ | exact ⟨HK2.out P (.inl rfl) 0 _ z0, HK2.out P (.inl rfl) 1 _ z1, HK2.out Bx (.inr rfl) 1 _ x1, HK2.out Bx (.inr rfl) 4 _ x4⟩ | exact ⟨HK1.out P (.inl rfl) 0 _ z0, HK1.out P (.inl rfl) 1 _ z1, HK1.out Bx (.inr rfl) 1 _ x1, HK1.out Bx (.inr rfl) 4 _ x4⟩ | go_keep)
  (first
   | (go_at_call 41; refine (show Calls Tryz.prog 41 _ _ _ from HC2.out).mono ?_; rintro e w3 ⟨a3, rfl, HK3, HC3⟩)
   | (go_at_call 41; refine (show Calls Tryz.prog 41 _ _ _ from HC0.out).mono ?_; rintro e w1 ⟨a1, rfl, HK1, HC1⟩)
   | (go_at_call 40; refine (show Calls Tryz.prog 40 _ _ _ from HC1.out).mono ?_; rintro e w2 ⟨rfl, HK2, HC2⟩)
   | (go_at_call 42; refine (show Calls Tryz.prog 42 _ _ _ from HC3.out).mono ?_; rintro e w4 ⟨rfl, HK4, HN⟩))
 clear HC0 HC1 HC2 HC3 HK1 HK2 HK3 HK4 z0 z1 x1 x4
 go_wp2
 go_ret
 exact ⟨rfl, HN.out.1, (OX.out.drew.mono (fun _ _ g => g.elim)).trans HN.out.2 (fun _ _ g => g)⟩
end Go.Proofs.YtlcglapcmdpkfaaGreat
