/- The walk of PagesApart. -/
import Derived.Test.YtdcflnfdaijpdaaA1
import Derived.Deep.RegionWith
namespace Go.Proofs.Ytdcflnfdaijpdaa
open Go.RowKit
set_option linter.unusedSimpArgs false
set_option linter.unusedVariables false

/-- make of q numbers. -/
theorem make_ints (q : Nat) (hq : q ≤ 2048) : ∃ M : Array Value, (∀ w, (Instr.makeSlice 32 (.int .i64 q) (.int .i64 q)).run Try.prog w = .ok (.slice (some ⟨w.heap.size, 0, none⟩) q q) (w.alloc (.cells M 3))) ∧
    ∀ w : World, Whole (w.alloc (.cells M 3)) (.slice (some ⟨w.heap.size, 0, none⟩) q q) q (fun _ => .int .i64 ((0 : Nat) : Int)) := by
  obtain ⟨i0, hi0, hz0, hz1, hz2⟩ := info_parts info3
  refine ⟨madeCells (Value.int .i64 0).cells q, fun w => ?_, fun w => ?_⟩
  · have := run_make (P := Try.prog) w 32 3 i0 _ Try.underlying32 hi0 hz0 .i64 .i64 (q : Int) (q : Int) (by omega) (Int.le_refl _) (by rw [hz2]; omega) (by omega)
    rw [hz1, show ((q : Int)).toNat = q by omega, Nat.mul_one] at this
    exact this
  · have hS := heap_alloc_new w (.cells (madeCells (Value.int .i64 0).cells q) 3)
    have hcell : ∀ j, j < q → (madeCells (Value.int .i64 0).cells q)[j]? = some (.int .i64 ((0 : Nat) : Int)) := by
      intro j hj
      simp [madeCells, hj, Value.cells, Nat.mod_one]
    refine ⟨_, q, rfl, Nat.le_refl _, by unfold maxLen; omega, fun e => (by cases e), fun hc => ⟨_, 0, rfl, fun j hj => ?_, fun j hj => ?_⟩⟩
    · rw [Nat.zero_add]
      refine ⟨?_, frozen_of_row _ _ _ _ _ hS⟩
      rw [cell_of_row _ _ _ _ _ _ hS, hcell _ hj]; rfl
    · rw [Nat.zero_add, cell_of_row _ _ _ _ _ _ hS, hcell _ hj]
/-- All is new. -/
theorem aps_new {w0 w1 : World} {p S n0 : Nat} {M : Array Value} (os : List OpP) (hd : DiskAt w1 w0.heap.size p S (.slice none 0 0) ⟨n0, fun _ _ => 0, [], -1⟩) (o1 : Only (fun _ => False) w0 w1)
    (hM : Whole (w1.alloc (.cells M 3)) (.slice (some ⟨w1.heap.size, 0, none⟩) (n0 / 4) (n0 / 4)) (n0 / 4) (fun _ => .int .i64 ((0 : Nat) : Int))) : Aps w0 (w1.alloc (.cells M 3)) p w1.heap.size n0 0 os := by
  have o2 : Only (fun _ => False) w1 (w1.alloc (.cells M 3)) := (Only.refl _ _).alloc _
  refine ⟨S, _, _, fun _ => 0, ⟨hd.frame o2 (fun _ _ e => e), rfl, rfl, ByteD.new n0, Good.nil _ _ _, by simp, o1.trans o2 (fun _ _ e => e), ⟨o1.size, by simp⟩, fun e => by have := (hd.lt _ e).2; omega, hM, fun q hq => .inl ⟨rfl, ?_⟩⟩⟩
  rw [pgN_zero]; exact unp_zero
theorem Aps.only {w0 w : World} {p LB n0 i : Nat} {os : List OpP} (h : Aps w0 w p LB n0 i os) : Only (fun _ => False) w0 w := by
  obtain ⟨S, pv, d, lf, h⟩ := h
  exact h.only
theorem Aps.frame {w0 w w' : World} {p LB n0 i : Nat} {os : List OpP} (h : Aps w0 w p LB n0 i os) (ho : Only (fun _ => False) w w') : Aps w0 w' p LB n0 i os := by
  obtain ⟨S, pv, d, lf, h⟩ := h
  exact ⟨S, pv, d, lf, h.frame ho⟩

set_option maxRecDepth 100000 in
set_option maxHeartbeats 4000000 in
theorem apart_mid (n : Nat) (h1 : 4 ≤ n) (h2 : n ≤ 64) (v : Value) (os : List OpP) (w : World) (hs : ScriptAt w v os) (hlen : os.length ≤ 1048576) :
    Calls Try.prog 6 #[.int .i64 n, v] w fun e w' => e = .returned (.bool true) ∧ Below w.heap.size w w' := by
  obtain ⟨a, c, hv⟩ := hs.form
  have HS : Hid (ScriptAt w v os) := hs
  clear hs
  subst hv
  obtain ⟨L, hL⟩ : ∃ L, L = os.length := ⟨_, rfl⟩
  have HL : Hid (L = os.length) := hL
  rw [← hL] at HS hlen
  rw [← hL]
  clear hL
  have s1 : ¬ (n : Int) < 4 := by omega
  have s2 : ¬ (64 : Int) < (n : Int) := by omega
  obtain ⟨q4, hq4⟩ : ∃ q, q = n / 4 := ⟨_, rfl⟩
  obtain ⟨M, hmk, hwhole⟩ := make_ints q4 (by omega)
  have HWHO : Hid _ := hwhole
  have HQ4 : Hid (q4 = n / 4) := hq4
  have hq64 : q4 ≤ 16 := by omega
  clear hwhole
  go_enter Try.func6, Try.ntmps6
  go_wp2_with fail
  refine (awake_any w).mono ?_
  rintro e w1 ⟨rfl, o1⟩
  have O1 : Hid (Only (fun _ => False) w w1) := o1
  clear o1
  go_wp2_with fail
  refine (new_any n w1 (by omega) (by omega)).mono ?_
  rintro e w2 ⟨p, S, rfl, d2, o2⟩
  obtain ⟨c0, hc0⟩ := d2.c0
  have HCT : Hid (Calls Try.prog 22 #[.pointer (some ⟨p, 0, none⟩)] w2 fun e w' => e = .returned (.int .i64 (q4 : Nat)) ∧ w' = w2) := by
    rw [hq4]
    exact count_any p S n c0 w2 d2.n2 hc0
  have HA0 : Hid (Aps w1 (w2.alloc (.cells M 3)) p w2.heap.size n 0 os) := aps_new os d2 o2 (by have := HWHO.out w2; rwa [hq4] at this)
  clear d2 o2 hc0 hq4 HWHO
  go_wp2_with fail
  refine (show Calls Try.prog 22 _ _ _ from HCT.out).mono ?_
  rintro e w3 ⟨rfl, rfl⟩
  clear HCT
  go_wp2_with fail
  clear hmk
  obtain ⟨LB, hLB⟩ : ∃ LB, LB = w3.heap.size := ⟨_, rfl⟩
  obtain ⟨w4, hw4⟩ : ∃ w4, w4 = w3.alloc (.cells M 3) := ⟨_, rfl⟩
  rw [← hLB, ← hw4] at HA0
  rw [← hLB, ← hw4]
  clear hLB hw4
  go_loopw [9] (fun t wr => ∃ i : Nat, i ≤ L ∧ t = .int .i64 i ∧ Aps w1 wr p LB n i os) (fun t _ => L - (intOf t).toNat)
  case atStart => exact ⟨0, Nat.zero_le _, rfl, HA0.out⟩
  case round =>
    clear HA0
    obtain ⟨i, hi, rfl, hP⟩ := hrel
    obtain ⟨w5, rfl⟩ : ∃ w5, w5 = wr := ⟨_, rfl⟩
    have HP : Hid (Aps w1 w5 p LB n i os) := hP
    by_cases hlt : i < L
    · have hlt2 : i < os.length := by have := HL.out; omega
      obtain ⟨g, o, c', hv, hrange⟩ := HS.out.get i hlt2
      simp only [Value.slice.injEq] at hv
      obtain ⟨rfl, hLL, rfl⟩ := hv
      clear hLL
      have hok : (os[i]).ok w1 := (HS.out.2 (os[i]) (List.getElem_mem _)).frame O1.out
      have hrw := hP.only.range (O1.out.range hrange (fun e => e)) (fun e => e)
      have i0 : (0 : Int) ≤ (i : Int) := Int.natCast_nonneg _
      have i1 : (i : Int) < (L : Int) := by omega
      obtain ⟨S5, pv5, d5, lf5, hA5⟩ := hP
      obtain ⟨X, hX⟩ : ∃ X, X = w5.heap.size := ⟨_, rfl⟩
      have hXd : ¬ diskB p S5 pv5 X := fun e => by have := (hA5.disk.lt X e).2; omega
      have HAW : Hid (∀ wz, Only (fun _ => False) w5 wz → Calls Try.prog 11 #[(os[i]).vb] wz fun e w1' => ∃ u, e = .returned u ∧ Hid (KeepX X wz w1') ∧
        Hid (Calls Try.prog 25 #[.pointer (some ⟨p, 0, none⟩), .int .i64 (os[i]).P, .int .u32 (os[i]).id, u] w1' fun e w2 => ∃ q, e = .returned (.int .i64 q) ∧ Hid (KeepX X wz w2) ∧ Hid (ApPost w1 w2 p LB n i os (os[i]).P (os[i]).b.length q))) := fun wz ho => ap_write (hA5.frame ho) hlt2 (by have := HL.out; omega) hok hXd
      obtain ⟨x, hx⟩ : ∃ x, x = os[i] := ⟨_, rfl⟩
      rw [← hx] at hrw hok HAW
      have HXX : Hid (x = os[i]) := hx
      obtain ⟨kind, Px, sx, ix, xb, vb⟩ := x
      obtain ⟨ab, cb, hvb, _, _⟩ := hok.1.form
      simp only at hvb
      subst hvb
      obtain ⟨mb, hmb⟩ : ∃ m, m = xb.length := ⟨_, rfl⟩
      simp only [OpP.cells, ← hmb] at hrw HAW
      have HMB : Hid (mb = xb.length) := hmb
      have hmb2 : mb ≤ 140737488355328 := by rw [hmb]; exact hok.1.2.1
      have y0 : w5.cell? ⟨g, o + i * 5, none⟩ = some (.int .i64 kind) := hrw 0 _ rfl
      have y1 : w5.cell? ⟨g, o + i * 5 + 1, none⟩ = some (.int .i64 Px) := hrw 1 _ rfl
      have y2 : w5.cell? ⟨g, o + i * 5 + 2, none⟩ = some (.int .i64 sx) := hrw 2 _ rfl
      have y3 : w5.cell? ⟨g, o + i * 5 + 3, none⟩ = some (.int .u32 ix) := hrw 3 _ rfl
      have y4 : w5.cell? ⟨g, o + i * 5 + 4, none⟩ = some (.slice ab mb cb) := hrw 4 _ rfl
      clear hx hrange hok hrw hmb hA5 hXd HP
      have oX : Only (fun _ => False) w5 (w5.alloc (.cells #[.int .i64 kind, .int .i64 Px, .int .i64 sx, .int .u32 ix, .slice ab mb cb] 47)) := (Only.refl _ w5).alloc _
      have bX : (w5.alloc (.cells #[.int .i64 kind, .int .i64 Px, .int .i64 sx, .int .u32 ix, .slice ab mb cb] 47)).heap[X]? = some (.cells #[.int .i64 kind, .int .i64 Px, .int .i64 sx, .int .u32 ix, .slice ab mb cb] 47 (0, 0)) := by rw [hX]; exact heap_alloc_new w5 _
      have HW : Hid (Calls Try.prog 11 #[.slice ab mb cb] (w5.alloc (.cells #[.int .i64 kind, .int .i64 Px, .int .i64 sx, .int .u32 ix, .slice ab mb cb] 47)).drew _) := HAW.out (w5.alloc (.cells #[.int .i64 kind, .int .i64 Px, .int .i64 sx, .int .u32 ix, .slice ab mb cb] 47)).drew oX.drew
      obtain ⟨wx, hwx⟩ : ∃ q, q = w5.alloc (.cells #[.int .i64 kind, .int .i64 Px, .int .i64 sx, .int .u32 ix, .slice ab mb cb] 47) := ⟨_, rfl⟩
      rw [← hwx] at bX HW
      have x1 : wx.cell? ⟨X, 1, none⟩ = some (.int .i64 Px) := by rw [cell_of_row _ _ _ _ _ _ bX]; rfl
      have x3 : wx.cell? ⟨X, 3, none⟩ = some (.int .u32 ix) := by rw [cell_of_row _ _ _ _ _ _ bX]; rfl
      have x4 : wx.cell? ⟨X, 4, none⟩ = some (.slice ab mb cb) := by rw [cell_of_row _ _ _ _ _ _ bX]; rfl
      have HWX : Hid (wx = w5.alloc (.cells #[.int .i64 kind, .int .i64 Px, .int .i64 sx, .int .u32 ix, .slice ab mb cb] 47)) := hwx
      have HXE : Hid (X = w5.heap.size) := hX
      clear oX bX hwx hX HAW
      go_wp2_with fail
      rw [← HWX.out, ← HXE.out]
      clear y0 y1 y2 y3 y4
      go_region_held3 (fun w' => w'.cell? ⟨X, 1, none⟩ = some (.int .i64 Px) ∧ w'.cell? ⟨X, 3, none⟩ = some (.int .u32 ix) ∧ w'.cell? ⟨X, 4, none⟩ = some (.slice ab mb cb)) (first | exact ⟨HK2.out 1 _ x1, HK2.out 3 _ x3, HK2.out 4 _ x4⟩ | exact ⟨HK1.out 1 _ x1, HK1.out 3 _ x3, HK1.out 4 _ x4⟩ | go_keep)
        (first
          | (go_at_call 11; refine (show Calls Try.prog 11 _ _ _ from HW.out).mono ?_; rintro e w6 ⟨u1, rfl, HK1, HC1⟩)
          | (go_at_call 25; refine (show Calls Try.prog 25 _ _ _ from HC1.out).mono ?_; rintro e w7 ⟨q, rfl, HK2, HN⟩))
      have z1 := HK2.out 1 _ x1
      have z4 := HK2.out 4 _ x4
      clear HW HC1 HK1 HK2 x1 x3 x4 HWX
      rcases HN.out with ⟨hq0, hno, hA⟩ | ⟨hq0, Q, hPQ, hQ1, hm1, ⟨cv, hcv⟩, hfr, hA⟩
      · have he : (q == 0) = false := by simp [hq0]
        have HA : Hid (Aps w1 w7 p LB n (i + 1) os) := hA
        rw [← HQ4.out] at hno
        clear HN hA hq0
        by_cases e1 : Px < 0
        · have e1' : ¬ 0 ≤ Px := by omega
          clear hno
          go_wp2
          go_roundw
          case rel => exact ⟨i + 1, by omega, by go_num, HA.out⟩
          case measure => simp [intOf]; omega
        · by_cases e2 : Px < (q4 : Int)
          · have e3 : ¬ (mb : Int) ≤ 116 := by omega
            clear hno
            go_wp2
            go_roundw
            case rel => exact ⟨i + 1, by omega, by go_num, HA.out⟩
            case measure => simp [intOf]; omega
          · have e2' : (q4 : Int) ≤ Px := by omega
            clear hno
            go_wp2
            go_roundw
            case rel => exact ⟨i + 1, by omega, by go_num, HA.out⟩
            case measure => simp [intOf]; omega
      · subst hq0
        subst hPQ
        have HA : Hid (Aps w1 (w7.setCell ⟨LB, Q, none⟩ (.int .i64 ((i + 1 : Nat) : Int))) p LB n (i + 1) os) := hA
        rw [← HQ4.out] at hQ1
        have q0 : (0 : Int) ≤ (Q : Int) := by omega
        have q1 : (Q : Int) < (q4 : Int) := by omega
        have q2 : (mb : Int) ≤ 116 := by omega
        have hcast : ((i + 1 : Nat) : Int) = (i : Int) + 1 := by omega
        rw [hcast] at HA
        clear HN hA hcast
        go_wp2
        go_roundw
        case rel => exact ⟨i + 1, by omega, by go_num, HA.out⟩
        case measure => simp [intOf]; omega
    · obtain rfl : i = L := by omega
      clear hP
      go_wp2_with fail
      go_loopw [13] (fun t wr => ∃ q : Nat, q ≤ q4 ∧ t = .int .i64 q ∧ Aps w1 wr p LB n i os) (fun t _ => q4 - (intOf t).toNat)
      case atStart => exact ⟨0, Nat.zero_le _, rfl, HP.out⟩
      case round =>
        obtain ⟨q, hq, rfl, hQ⟩ := hrel
        obtain ⟨w6, rfl⟩ : ∃ w6, w6 = wr := ⟨_, rfl⟩
        have HQA : Hid (Aps w1 w6 p LB n i os) := hQ
        by_cases hlq : q < q4
        · have k0 : (0 : Int) ≤ (q : Int) := by omega
          have k1 : (q : Int) < (q4 : Int) := by omega
          obtain ⟨S6, pv6, d6, lf6, hA6⟩ := hQ
          have hq2 : q < n / 4 := by have := HQ4.out; omega
          have hrd := pread_in p S6 _ q pv6 d6 w6 hA6.disk (by rw [hA6.n]; exact hq2) (by rw [hA6.life]; decide) hA6.byte
          have hcell : ∀ wz, Only (fun _ => False) w6 wz → wz.cell? ⟨LB, q, none⟩ = some (.int .i64 (lf6 q : Nat)) := fun wz ho => by
            obtain ⟨g', o', c2, hv, hc2, hfr⟩ := (hA6.last.frame ho (fun _ _ e => e)).form (by omega)
            simp only [Value.slice.injEq, Option.some.injEq, Addr.mk.injEq, and_true, true_and] at hv
            obtain ⟨⟨rfl, rfl⟩, _⟩ := hv
            have := hc2 q hq2
            rwa [Nat.zero_add] at this
          have HCL : Hid _ := hcell
          rcases hA6.pg q hq2 with ⟨hl0, hun⟩ | ⟨j, hj, hlj, hji, hpg, hbl⟩
          · rw [hun] at hrd
            rw [hl0] at HCL
            have HRD : Hid (Calls Try.prog 26 #[.pointer (some ⟨p, 0, none⟩), .int .i64 q] w6 fun e w' => e = .returned (.tuple #[.int .u32 0, .slice none 0 0, .int .i64 5]) ∧ Only (fun _ => False) w6 w') := hrd
            clear hA6 hrd hcell hun hl0
            go_wp2_with fail
            refine (show Calls Try.prog 26 _ _ _ from HRD.out).mono ?_
            rintro e w7 ⟨rfl, ho7⟩
            have y := HCL.out w7 ho7
            have HA7 : Hid (Aps w1 w7 p LB n i os) := HQA.out.frame ho7
            clear HRD ho7 HCL
            go_wp2
            go_roundw
            case rel => exact ⟨q + 1, by omega, by go_num, HA7.out⟩
            case measure => simp [intOf]; omega
          · obtain ⟨g, o, c', hv, hrange⟩ := HS.out.get j hj
            simp only [Value.slice.injEq] at hv
            obtain ⟨rfl, hLL, rfl⟩ := hv
            clear hLL
            have hok : (os[j]).ok w1 := (HS.out.2 (os[j]) (List.getElem_mem _)).frame O1.out
            have hrw : ∀ wz, Only (fun _ => False) w6 wz → wz.rangeAt g (o + j * 5) (os[j]).cells := fun wz ho => ho.range (HQA.out.only.range (O1.out.range hrange (fun e => e)) (fun e => e)) (fun e => e)
            have hib := u32_bounds hok.2.2.2.2
            have hun : unp (pgN d6 q 4) = some ((os[j]).id.toNat, (os[j]).b) := by rw [hpg]; exact unp_page _ _ hbl (by omega) hok.1.2.2
            rw [hun] at hrd
            rw [hlj] at HCL
            obtain ⟨x, hx⟩ : ∃ x, x = os[j] := ⟨_, rfl⟩
            rw [← hx] at hrw hok hrd hib
            obtain ⟨kind, Px, sx, ix, xb, vb⟩ := x
            obtain ⟨I, hI⟩ : ∃ I : Nat, ix = I := ⟨ix.toNat, by have h : 0 ≤ ix := hib.1; omega⟩
            subst hI
            have HRD : Hid (Calls Try.prog 26 #[.pointer (some ⟨p, 0, none⟩), .int .i64 q] w6 fun e w' => ∃ u, e = .returned (.tuple #[.int .u32 (I : Nat), u, .int .i64 0]) ∧ Fresh w' w6.heap.size u xb ∧ Only (fun _ => False) w6 w') := hrd
            obtain ⟨ab, cb, hvb, _, _⟩ := hok.1.form
            simp only at hvb
            subst hvb
            obtain ⟨mb, hmb⟩ : ∃ m, m = xb.length := ⟨_, rfl⟩
            simp only [OpP.cells, ← hmb] at hrw
            have hby : BytesAt w1 (.slice ab mb cb) xb := by rw [hmb]; exact hok.1
            have HBY : Hid (BytesAt w1 (.slice ab mb cb) xb) := hby
            have HRW : Hid _ := hrw
            have j0 : (0 : Int) ≤ (j : Int) := by omega
            have j1 : (j : Int) < (i : Int) := by omega
            have jw : IntKind.i64.wrap (((j + 1 : Nat) : Int) - 1) = (j : Int) := by rw [IntKind.wrap_i64]; omega
            have jn : (((j + 1 : Nat) : Int) == 0) = false := by simp; omega
            have HJC : Hid (((j + 1 : Nat) : Int) = (j : Int) + 1) := (by omega : _ = _)
            rw [HJC.out] at jw jn
            clear hA6 hrd hcell hun hlj hrange hok hib hx hpg hbl hrw hby hmb
            go_wp2_with fail
            refine (show Calls Try.prog 26 _ _ _ from HRD.out).mono ?_
            rintro e w7 ⟨u, rfl, hf7, ho7⟩
            have y := HCL.out w7 ho7
            rw [HJC.out] at y
            have hr7 := HRW.out w7 ho7
            have y0 : w7.cell? ⟨g, o + j * 5, none⟩ = some (.int .i64 kind) := hr7 0 _ rfl
            have y1 : w7.cell? ⟨g, o + j * 5 + 1, none⟩ = some (.int .i64 Px) := hr7 1 _ rfl
            have y2 : w7.cell? ⟨g, o + j * 5 + 2, none⟩ = some (.int .i64 sx) := hr7 2 _ rfl
            have y3 : w7.cell? ⟨g, o + j * 5 + 3, none⟩ = some (.int .u32 (I : Int)) := hr7 3 _ rfl
            have y4 : w7.cell? ⟨g, o + j * 5 + 4, none⟩ = some (.slice ab mb cb) := hr7 4 _ rfl
            have HA7 : Hid (Aps w1 w7 p LB n i os) := HQA.out.frame ho7
            have hsame := fun wz (hz : Only (fun _ => False) w7 wz) => same_any u (.slice ab mb cb) xb wz (hf7.bytes.frame hz) (HBY.out.frame (HA7.out.only.trans hz (fun _ _ e => e)))
            have HSM : Hid _ := hsame
            clear HRD ho7 HCL HRW hr7 hf7 hsame
            go_wp2_with fail
            refine (show Calls Try.prog 17 _ _ _ from HSM.out _ ((Only.refl _ w7).alloc _)).mono ?_
            rintro e w8 ⟨rfl, ho8⟩
            have HA8 : Hid (Aps w1 w8 p LB n i os) := HA7.out.frame (((Only.refl _ w7).alloc _).trans ho8 (fun _ _ e => e))
            clear ho8 HSM y y0 y1 y2 y3 y4
            go_wp2
            go_roundw
            case rel => exact ⟨q + 1, by omega, by go_num, HA8.out⟩
            case measure => simp [intOf]; omega
        · obtain rfl : q = q4 := by omega
          have HE : Hid (Below w.heap.size w w6) := (O1.out.trans hQ.only (fun _ _ e => e)).below (fun _ e => e.elim) (Nat.le_refl _)
          clear hQ HQA
          go_wp2
          go_ret
          exact ⟨rfl, HE.out⟩

set_option maxRecDepth 100000 in
set_option maxHeartbeats 4000000 in
theorem apart_lo (s : Int) (h1 : s < 4) (v : Value) (os : List OpP) (w : World) (hs : ScriptAt w v os) (hlen : os.length ≤ 1048576) :
    Calls Try.prog 6 #[.int .i64 s, v] w fun e w' => e = .returned (.bool true) ∧ Below w.heap.size w w' := by
  obtain ⟨a, c, hv⟩ := hs.form
  have HS : Hid (ScriptAt w v os) := hs
  clear hs
  subst hv
  obtain ⟨L, hL⟩ : ∃ L, L = os.length := ⟨_, rfl⟩
  have HL : Hid (L = os.length) := hL
  rw [← hL] at HS hlen
  rw [← hL]
  clear hL
  obtain ⟨q4, hq4⟩ : ∃ q, q = 16 / 4 := ⟨_, rfl⟩
  obtain ⟨M, hmk, hwhole⟩ := make_ints q4 (by omega)
  have HWHO : Hid _ := hwhole
  have HQ4 : Hid (q4 = 16 / 4) := hq4
  have hq64 : q4 ≤ 16 := by omega
  clear hwhole
  go_enter Try.func6, Try.ntmps6
  go_wp2_with fail
  refine (awake_any w).mono ?_
  rintro e w1 ⟨rfl, o1⟩
  have O1 : Hid (Only (fun _ => False) w w1) := o1
  clear o1
  go_wp2_with fail
  refine (new_any 16 w1 (by omega) (by omega)).mono ?_
  rintro e w2 ⟨p, S, rfl, d2, o2⟩
  obtain ⟨c0, hc0⟩ := d2.c0
  have HCT : Hid (Calls Try.prog 22 #[.pointer (some ⟨p, 0, none⟩)] w2 fun e w' => e = .returned (.int .i64 (q4 : Nat)) ∧ w' = w2) := by
    rw [hq4]
    exact count_any p S 16 c0 w2 d2.n2 hc0
  have HA0 : Hid (Aps w1 (w2.alloc (.cells M 3)) p w2.heap.size 16 0 os) := aps_new os d2 o2 (by have := HWHO.out w2; rwa [hq4] at this)
  clear d2 o2 hc0 hq4 HWHO
  go_wp2_with fail
  refine (show Calls Try.prog 22 _ _ _ from HCT.out).mono ?_
  rintro e w3 ⟨rfl, rfl⟩
  clear HCT
  go_wp2_with fail
  clear hmk
  obtain ⟨LB, hLB⟩ : ∃ LB, LB = w3.heap.size := ⟨_, rfl⟩
  obtain ⟨w4, hw4⟩ : ∃ w4, w4 = w3.alloc (.cells M 3) := ⟨_, rfl⟩
  rw [← hLB, ← hw4] at HA0
  rw [← hLB, ← hw4]
  clear hLB hw4
  go_loopw [9] (fun t wr => ∃ i : Nat, i ≤ L ∧ t = .int .i64 i ∧ Aps w1 wr p LB 16 i os) (fun t _ => L - (intOf t).toNat)
  case atStart => exact ⟨0, Nat.zero_le _, rfl, HA0.out⟩
  case round =>
    clear HA0
    obtain ⟨i, hi, rfl, hP⟩ := hrel
    obtain ⟨w5, rfl⟩ : ∃ w5, w5 = wr := ⟨_, rfl⟩
    have HP : Hid (Aps w1 w5 p LB 16 i os) := hP
    by_cases hlt : i < L
    · have hlt2 : i < os.length := by have := HL.out; omega
      obtain ⟨g, o, c', hv, hrange⟩ := HS.out.get i hlt2
      simp only [Value.slice.injEq] at hv
      obtain ⟨rfl, hLL, rfl⟩ := hv
      clear hLL
      have hok : (os[i]).ok w1 := (HS.out.2 (os[i]) (List.getElem_mem _)).frame O1.out
      have hrw := hP.only.range (O1.out.range hrange (fun e => e)) (fun e => e)
      have i0 : (0 : Int) ≤ (i : Int) := Int.natCast_nonneg _
      have i1 : (i : Int) < (L : Int) := by omega
      obtain ⟨S5, pv5, d5, lf5, hA5⟩ := hP
      obtain ⟨X, hX⟩ : ∃ X, X = w5.heap.size := ⟨_, rfl⟩
      have hXd : ¬ diskB p S5 pv5 X := fun e => by have := (hA5.disk.lt X e).2; omega
      have HAW : Hid (∀ wz, Only (fun _ => False) w5 wz → Calls Try.prog 11 #[(os[i]).vb] wz fun e w1' => ∃ u, e = .returned u ∧ Hid (KeepX X wz w1') ∧
        Hid (Calls Try.prog 25 #[.pointer (some ⟨p, 0, none⟩), .int .i64 (os[i]).P, .int .u32 (os[i]).id, u] w1' fun e w2 => ∃ q, e = .returned (.int .i64 q) ∧ Hid (KeepX X wz w2) ∧ Hid (ApPost w1 w2 p LB 16 i os (os[i]).P (os[i]).b.length q))) := fun wz ho => ap_write (hA5.frame ho) hlt2 (by have := HL.out; omega) hok hXd
      obtain ⟨x, hx⟩ : ∃ x, x = os[i] := ⟨_, rfl⟩
      rw [← hx] at hrw hok HAW
      have HXX : Hid (x = os[i]) := hx
      obtain ⟨kind, Px, sx, ix, xb, vb⟩ := x
      obtain ⟨ab, cb, hvb, _, _⟩ := hok.1.form
      simp only at hvb
      subst hvb
      obtain ⟨mb, hmb⟩ : ∃ m, m = xb.length := ⟨_, rfl⟩
      simp only [OpP.cells, ← hmb] at hrw HAW
      have HMB : Hid (mb = xb.length) := hmb
      have hmb2 : mb ≤ 140737488355328 := by rw [hmb]; exact hok.1.2.1
      have y0 : w5.cell? ⟨g, o + i * 5, none⟩ = some (.int .i64 kind) := hrw 0 _ rfl
      have y1 : w5.cell? ⟨g, o + i * 5 + 1, none⟩ = some (.int .i64 Px) := hrw 1 _ rfl
      have y2 : w5.cell? ⟨g, o + i * 5 + 2, none⟩ = some (.int .i64 sx) := hrw 2 _ rfl
      have y3 : w5.cell? ⟨g, o + i * 5 + 3, none⟩ = some (.int .u32 ix) := hrw 3 _ rfl
      have y4 : w5.cell? ⟨g, o + i * 5 + 4, none⟩ = some (.slice ab mb cb) := hrw 4 _ rfl
      clear hx hrange hok hrw hmb hA5 hXd HP
      have oX : Only (fun _ => False) w5 (w5.alloc (.cells #[.int .i64 kind, .int .i64 Px, .int .i64 sx, .int .u32 ix, .slice ab mb cb] 47)) := (Only.refl _ w5).alloc _
      have bX : (w5.alloc (.cells #[.int .i64 kind, .int .i64 Px, .int .i64 sx, .int .u32 ix, .slice ab mb cb] 47)).heap[X]? = some (.cells #[.int .i64 kind, .int .i64 Px, .int .i64 sx, .int .u32 ix, .slice ab mb cb] 47 (0, 0)) := by rw [hX]; exact heap_alloc_new w5 _
      have HW : Hid (Calls Try.prog 11 #[.slice ab mb cb] (w5.alloc (.cells #[.int .i64 kind, .int .i64 Px, .int .i64 sx, .int .u32 ix, .slice ab mb cb] 47)).drew _) := HAW.out (w5.alloc (.cells #[.int .i64 kind, .int .i64 Px, .int .i64 sx, .int .u32 ix, .slice ab mb cb] 47)).drew oX.drew
      obtain ⟨wx, hwx⟩ : ∃ q, q = w5.alloc (.cells #[.int .i64 kind, .int .i64 Px, .int .i64 sx, .int .u32 ix, .slice ab mb cb] 47) := ⟨_, rfl⟩
      rw [← hwx] at bX HW
      have x1 : wx.cell? ⟨X, 1, none⟩ = some (.int .i64 Px) := by rw [cell_of_row _ _ _ _ _ _ bX]; rfl
      have x3 : wx.cell? ⟨X, 3, none⟩ = some (.int .u32 ix) := by rw [cell_of_row _ _ _ _ _ _ bX]; rfl
      have x4 : wx.cell? ⟨X, 4, none⟩ = some (.slice ab mb cb) := by rw [cell_of_row _ _ _ _ _ _ bX]; rfl
      have HWX : Hid (wx = w5.alloc (.cells #[.int .i64 kind, .int .i64 Px, .int .i64 sx, .int .u32 ix, .slice ab mb cb] 47)) := hwx
      have HXE : Hid (X = w5.heap.size) := hX
      clear oX bX hwx hX HAW
      go_wp2_with fail
      rw [← HWX.out, ← HXE.out]
      clear y0 y1 y2 y3 y4
      go_region_held3 (fun w' => w'.cell? ⟨X, 1, none⟩ = some (.int .i64 Px) ∧ w'.cell? ⟨X, 3, none⟩ = some (.int .u32 ix) ∧ w'.cell? ⟨X, 4, none⟩ = some (.slice ab mb cb)) (first | exact ⟨HK2.out 1 _ x1, HK2.out 3 _ x3, HK2.out 4 _ x4⟩ | exact ⟨HK1.out 1 _ x1, HK1.out 3 _ x3, HK1.out 4 _ x4⟩ | go_keep)
        (first
          | (go_at_call 11; refine (show Calls Try.prog 11 _ _ _ from HW.out).mono ?_; rintro e w6 ⟨u1, rfl, HK1, HC1⟩)
          | (go_at_call 25; refine (show Calls Try.prog 25 _ _ _ from HC1.out).mono ?_; rintro e w7 ⟨q, rfl, HK2, HN⟩))
      have z1 := HK2.out 1 _ x1
      have z4 := HK2.out 4 _ x4
      clear HW HC1 HK1 HK2 x1 x3 x4 HWX
      rcases HN.out with ⟨hq0, hno, hA⟩ | ⟨hq0, Q, hPQ, hQ1, hm1, ⟨cv, hcv⟩, hfr, hA⟩
      · have he : (q == 0) = false := by simp [hq0]
        have HA : Hid (Aps w1 w7 p LB 16 (i + 1) os) := hA
        rw [← HQ4.out] at hno
        clear HN hA hq0
        by_cases e1 : Px < 0
        · have e1' : ¬ 0 ≤ Px := by omega
          clear hno
          go_wp2
          go_roundw
          case rel => exact ⟨i + 1, by omega, by go_num, HA.out⟩
          case measure => simp [intOf]; omega
        · by_cases e2 : Px < (q4 : Int)
          · have e3 : ¬ (mb : Int) ≤ 116 := by omega
            clear hno
            go_wp2
            go_roundw
            case rel => exact ⟨i + 1, by omega, by go_num, HA.out⟩
            case measure => simp [intOf]; omega
          · have e2' : (q4 : Int) ≤ Px := by omega
            clear hno
            go_wp2
            go_roundw
            case rel => exact ⟨i + 1, by omega, by go_num, HA.out⟩
            case measure => simp [intOf]; omega
      · subst hq0
        subst hPQ
        have HA : Hid (Aps w1 (w7.setCell ⟨LB, Q, none⟩ (.int .i64 ((i + 1 : Nat) : Int))) p LB 16 (i + 1) os) := hA
        rw [← HQ4.out] at hQ1
        have q0 : (0 : Int) ≤ (Q : Int) := by omega
        have q1 : (Q : Int) < (q4 : Int) := by omega
        have q2 : (mb : Int) ≤ 116 := by omega
        have hcast : ((i + 1 : Nat) : Int) = (i : Int) + 1 := by omega
        rw [hcast] at HA
        clear HN hA hcast
        go_wp2
        go_roundw
        case rel => exact ⟨i + 1, by omega, by go_num, HA.out⟩
        case measure => simp [intOf]; omega
    · obtain rfl : i = L := by omega
      clear hP
      go_wp2_with fail
      go_loopw [13] (fun t wr => ∃ q : Nat, q ≤ q4 ∧ t = .int .i64 q ∧ Aps w1 wr p LB 16 i os) (fun t _ => q4 - (intOf t).toNat)
      case atStart => exact ⟨0, Nat.zero_le _, rfl, HP.out⟩
      case round =>
        obtain ⟨q, hq, rfl, hQ⟩ := hrel
        obtain ⟨w6, rfl⟩ : ∃ w6, w6 = wr := ⟨_, rfl⟩
        have HQA : Hid (Aps w1 w6 p LB 16 i os) := hQ
        by_cases hlq : q < q4
        · have k0 : (0 : Int) ≤ (q : Int) := by omega
          have k1 : (q : Int) < (q4 : Int) := by omega
          obtain ⟨S6, pv6, d6, lf6, hA6⟩ := hQ
          have hq2 : q < 16 / 4 := by have := HQ4.out; omega
          have hrd := pread_in p S6 _ q pv6 d6 w6 hA6.disk (by rw [hA6.n]; exact hq2) (by rw [hA6.life]; decide) hA6.byte
          have hcell : ∀ wz, Only (fun _ => False) w6 wz → wz.cell? ⟨LB, q, none⟩ = some (.int .i64 (lf6 q : Nat)) := fun wz ho => by
            obtain ⟨g', o', c2, hv, hc2, hfr⟩ := (hA6.last.frame ho (fun _ _ e => e)).form (by omega)
            simp only [Value.slice.injEq, Option.some.injEq, Addr.mk.injEq, and_true, true_and] at hv
            obtain ⟨⟨rfl, rfl⟩, _⟩ := hv
            have := hc2 q hq2
            rwa [Nat.zero_add] at this
          have HCL : Hid _ := hcell
          rcases hA6.pg q hq2 with ⟨hl0, hun⟩ | ⟨j, hj, hlj, hji, hpg, hbl⟩
          · rw [hun] at hrd
            rw [hl0] at HCL
            have HRD : Hid (Calls Try.prog 26 #[.pointer (some ⟨p, 0, none⟩), .int .i64 q] w6 fun e w' => e = .returned (.tuple #[.int .u32 0, .slice none 0 0, .int .i64 5]) ∧ Only (fun _ => False) w6 w') := hrd
            clear hA6 hrd hcell hun hl0
            go_wp2_with fail
            refine (show Calls Try.prog 26 _ _ _ from HRD.out).mono ?_
            rintro e w7 ⟨rfl, ho7⟩
            have y := HCL.out w7 ho7
            have HA7 : Hid (Aps w1 w7 p LB 16 i os) := HQA.out.frame ho7
            clear HRD ho7 HCL
            go_wp2
            go_roundw
            case rel => exact ⟨q + 1, by omega, by go_num, HA7.out⟩
            case measure => simp [intOf]; omega
          · obtain ⟨g, o, c', hv, hrange⟩ := HS.out.get j hj
            simp only [Value.slice.injEq] at hv
            obtain ⟨rfl, hLL, rfl⟩ := hv
            clear hLL
            have hok : (os[j]).ok w1 := (HS.out.2 (os[j]) (List.getElem_mem _)).frame O1.out
            have hrw : ∀ wz, Only (fun _ => False) w6 wz → wz.rangeAt g (o + j * 5) (os[j]).cells := fun wz ho => ho.range (HQA.out.only.range (O1.out.range hrange (fun e => e)) (fun e => e)) (fun e => e)
            have hib := u32_bounds hok.2.2.2.2
            have hun : unp (pgN d6 q 4) = some ((os[j]).id.toNat, (os[j]).b) := by rw [hpg]; exact unp_page _ _ hbl (by omega) hok.1.2.2
            rw [hun] at hrd
            rw [hlj] at HCL
            obtain ⟨x, hx⟩ : ∃ x, x = os[j] := ⟨_, rfl⟩
            rw [← hx] at hrw hok hrd hib
            obtain ⟨kind, Px, sx, ix, xb, vb⟩ := x
            obtain ⟨I, hI⟩ : ∃ I : Nat, ix = I := ⟨ix.toNat, by have h : 0 ≤ ix := hib.1; omega⟩
            subst hI
            have HRD : Hid (Calls Try.prog 26 #[.pointer (some ⟨p, 0, none⟩), .int .i64 q] w6 fun e w' => ∃ u, e = .returned (.tuple #[.int .u32 (I : Nat), u, .int .i64 0]) ∧ Fresh w' w6.heap.size u xb ∧ Only (fun _ => False) w6 w') := hrd
            obtain ⟨ab, cb, hvb, _, _⟩ := hok.1.form
            simp only at hvb
            subst hvb
            obtain ⟨mb, hmb⟩ : ∃ m, m = xb.length := ⟨_, rfl⟩
            simp only [OpP.cells, ← hmb] at hrw
            have hby : BytesAt w1 (.slice ab mb cb) xb := by rw [hmb]; exact hok.1
            have HBY : Hid (BytesAt w1 (.slice ab mb cb) xb) := hby
            have HRW : Hid _ := hrw
            have j0 : (0 : Int) ≤ (j : Int) := by omega
            have j1 : (j : Int) < (i : Int) := by omega
            have jw : IntKind.i64.wrap (((j + 1 : Nat) : Int) - 1) = (j : Int) := by rw [IntKind.wrap_i64]; omega
            have jn : (((j + 1 : Nat) : Int) == 0) = false := by simp; omega
            have HJC : Hid (((j + 1 : Nat) : Int) = (j : Int) + 1) := (by omega : _ = _)
            rw [HJC.out] at jw jn
            clear hA6 hrd hcell hun hlj hrange hok hib hx hpg hbl hrw hby hmb
            go_wp2_with fail
            refine (show Calls Try.prog 26 _ _ _ from HRD.out).mono ?_
            rintro e w7 ⟨u, rfl, hf7, ho7⟩
            have y := HCL.out w7 ho7
            rw [HJC.out] at y
            have hr7 := HRW.out w7 ho7
            have y0 : w7.cell? ⟨g, o + j * 5, none⟩ = some (.int .i64 kind) := hr7 0 _ rfl
            have y1 : w7.cell? ⟨g, o + j * 5 + 1, none⟩ = some (.int .i64 Px) := hr7 1 _ rfl
            have y2 : w7.cell? ⟨g, o + j * 5 + 2, none⟩ = some (.int .i64 sx) := hr7 2 _ rfl
            have y3 : w7.cell? ⟨g, o + j * 5 + 3, none⟩ = some (.int .u32 (I : Int)) := hr7 3 _ rfl
            have y4 : w7.cell? ⟨g, o + j * 5 + 4, none⟩ = some (.slice ab mb cb) := hr7 4 _ rfl
            have HA7 : Hid (Aps w1 w7 p LB 16 i os) := HQA.out.frame ho7
            have hsame := fun wz (hz : Only (fun _ => False) w7 wz) => same_any u (.slice ab mb cb) xb wz (hf7.bytes.frame hz) (HBY.out.frame (HA7.out.only.trans hz (fun _ _ e => e)))
            have HSM : Hid _ := hsame
            clear HRD ho7 HCL HRW hr7 hf7 hsame
            go_wp2_with fail
            refine (show Calls Try.prog 17 _ _ _ from HSM.out _ ((Only.refl _ w7).alloc _)).mono ?_
            rintro e w8 ⟨rfl, ho8⟩
            have HA8 : Hid (Aps w1 w8 p LB 16 i os) := HA7.out.frame (((Only.refl _ w7).alloc _).trans ho8 (fun _ _ e => e))
            clear ho8 HSM y y0 y1 y2 y3 y4
            go_wp2
            go_roundw
            case rel => exact ⟨q + 1, by omega, by go_num, HA8.out⟩
            case measure => simp [intOf]; omega
        · obtain rfl : q = q4 := by omega
          have HE : Hid (Below w.heap.size w w6) := (O1.out.trans hQ.only (fun _ _ e => e)).below (fun _ e => e.elim) (Nat.le_refl _)
          clear hQ HQA
          go_wp2
          go_ret
          exact ⟨rfl, HE.out⟩

set_option maxRecDepth 100000 in
set_option maxHeartbeats 4000000 in
theorem apart_hi (s : Int) (h1 : ¬ s < 4) (h2 : 64 < s) (v : Value) (os : List OpP) (w : World) (hs : ScriptAt w v os) (hlen : os.length ≤ 1048576) :
    Calls Try.prog 6 #[.int .i64 s, v] w fun e w' => e = .returned (.bool true) ∧ Below w.heap.size w w' := by
  obtain ⟨a, c, hv⟩ := hs.form
  have HS : Hid (ScriptAt w v os) := hs
  clear hs
  subst hv
  obtain ⟨L, hL⟩ : ∃ L, L = os.length := ⟨_, rfl⟩
  have HL : Hid (L = os.length) := hL
  rw [← hL] at HS hlen
  rw [← hL]
  clear hL
  obtain ⟨q4, hq4⟩ : ∃ q, q = 16 / 4 := ⟨_, rfl⟩
  obtain ⟨M, hmk, hwhole⟩ := make_ints q4 (by omega)
  have HWHO : Hid _ := hwhole
  have HQ4 : Hid (q4 = 16 / 4) := hq4
  have hq64 : q4 ≤ 16 := by omega
  clear hwhole
  go_enter Try.func6, Try.ntmps6
  go_wp2_with fail
  refine (awake_any w).mono ?_
  rintro e w1 ⟨rfl, o1⟩
  have O1 : Hid (Only (fun _ => False) w w1) := o1
  clear o1
  go_wp2_with fail
  refine (new_any 16 w1 (by omega) (by omega)).mono ?_
  rintro e w2 ⟨p, S, rfl, d2, o2⟩
  obtain ⟨c0, hc0⟩ := d2.c0
  have HCT : Hid (Calls Try.prog 22 #[.pointer (some ⟨p, 0, none⟩)] w2 fun e w' => e = .returned (.int .i64 (q4 : Nat)) ∧ w' = w2) := by
    rw [hq4]
    exact count_any p S 16 c0 w2 d2.n2 hc0
  have HA0 : Hid (Aps w1 (w2.alloc (.cells M 3)) p w2.heap.size 16 0 os) := aps_new os d2 o2 (by have := HWHO.out w2; rwa [hq4] at this)
  clear d2 o2 hc0 hq4 HWHO
  go_wp2_with fail
  refine (show Calls Try.prog 22 _ _ _ from HCT.out).mono ?_
  rintro e w3 ⟨rfl, rfl⟩
  clear HCT
  go_wp2_with fail
  clear hmk
  obtain ⟨LB, hLB⟩ : ∃ LB, LB = w3.heap.size := ⟨_, rfl⟩
  obtain ⟨w4, hw4⟩ : ∃ w4, w4 = w3.alloc (.cells M 3) := ⟨_, rfl⟩
  rw [← hLB, ← hw4] at HA0
  rw [← hLB, ← hw4]
  clear hLB hw4
  go_loopw [9] (fun t wr => ∃ i : Nat, i ≤ L ∧ t = .int .i64 i ∧ Aps w1 wr p LB 16 i os) (fun t _ => L - (intOf t).toNat)
  case atStart => exact ⟨0, Nat.zero_le _, rfl, HA0.out⟩
  case round =>
    clear HA0
    obtain ⟨i, hi, rfl, hP⟩ := hrel
    obtain ⟨w5, rfl⟩ : ∃ w5, w5 = wr := ⟨_, rfl⟩
    have HP : Hid (Aps w1 w5 p LB 16 i os) := hP
    by_cases hlt : i < L
    · have hlt2 : i < os.length := by have := HL.out; omega
      obtain ⟨g, o, c', hv, hrange⟩ := HS.out.get i hlt2
      simp only [Value.slice.injEq] at hv
      obtain ⟨rfl, hLL, rfl⟩ := hv
      clear hLL
      have hok : (os[i]).ok w1 := (HS.out.2 (os[i]) (List.getElem_mem _)).frame O1.out
      have hrw := hP.only.range (O1.out.range hrange (fun e => e)) (fun e => e)
      have i0 : (0 : Int) ≤ (i : Int) := Int.natCast_nonneg _
      have i1 : (i : Int) < (L : Int) := by omega
      obtain ⟨S5, pv5, d5, lf5, hA5⟩ := hP
      obtain ⟨X, hX⟩ : ∃ X, X = w5.heap.size := ⟨_, rfl⟩
      have hXd : ¬ diskB p S5 pv5 X := fun e => by have := (hA5.disk.lt X e).2; omega
      have HAW : Hid (∀ wz, Only (fun _ => False) w5 wz → Calls Try.prog 11 #[(os[i]).vb] wz fun e w1' => ∃ u, e = .returned u ∧ Hid (KeepX X wz w1') ∧
        Hid (Calls Try.prog 25 #[.pointer (some ⟨p, 0, none⟩), .int .i64 (os[i]).P, .int .u32 (os[i]).id, u] w1' fun e w2 => ∃ q, e = .returned (.int .i64 q) ∧ Hid (KeepX X wz w2) ∧ Hid (ApPost w1 w2 p LB 16 i os (os[i]).P (os[i]).b.length q))) := fun wz ho => ap_write (hA5.frame ho) hlt2 (by have := HL.out; omega) hok hXd
      obtain ⟨x, hx⟩ : ∃ x, x = os[i] := ⟨_, rfl⟩
      rw [← hx] at hrw hok HAW
      have HXX : Hid (x = os[i]) := hx
      obtain ⟨kind, Px, sx, ix, xb, vb⟩ := x
      obtain ⟨ab, cb, hvb, _, _⟩ := hok.1.form
      simp only at hvb
      subst hvb
      obtain ⟨mb, hmb⟩ : ∃ m, m = xb.length := ⟨_, rfl⟩
      simp only [OpP.cells, ← hmb] at hrw HAW
      have HMB : Hid (mb = xb.length) := hmb
      have hmb2 : mb ≤ 140737488355328 := by rw [hmb]; exact hok.1.2.1
      have y0 : w5.cell? ⟨g, o + i * 5, none⟩ = some (.int .i64 kind) := hrw 0 _ rfl
      have y1 : w5.cell? ⟨g, o + i * 5 + 1, none⟩ = some (.int .i64 Px) := hrw 1 _ rfl
      have y2 : w5.cell? ⟨g, o + i * 5 + 2, none⟩ = some (.int .i64 sx) := hrw 2 _ rfl
      have y3 : w5.cell? ⟨g, o + i * 5 + 3, none⟩ = some (.int .u32 ix) := hrw 3 _ rfl
      have y4 : w5.cell? ⟨g, o + i * 5 + 4, none⟩ = some (.slice ab mb cb) := hrw 4 _ rfl
      clear hx hrange hok hrw hmb hA5 hXd HP
      have oX : Only (fun _ => False) w5 (w5.alloc (.cells #[.int .i64 kind, .int .i64 Px, .int .i64 sx, .int .u32 ix, .slice ab mb cb] 47)) := (Only.refl _ w5).alloc _
      have bX : (w5.alloc (.cells #[.int .i64 kind, .int .i64 Px, .int .i64 sx, .int .u32 ix, .slice ab mb cb] 47)).heap[X]? = some (.cells #[.int .i64 kind, .int .i64 Px, .int .i64 sx, .int .u32 ix, .slice ab mb cb] 47 (0, 0)) := by rw [hX]; exact heap_alloc_new w5 _
      have HW : Hid (Calls Try.prog 11 #[.slice ab mb cb] (w5.alloc (.cells #[.int .i64 kind, .int .i64 Px, .int .i64 sx, .int .u32 ix, .slice ab mb cb] 47)).drew _) := HAW.out (w5.alloc (.cells #[.int .i64 kind, .int .i64 Px, .int .i64 sx, .int .u32 ix, .slice ab mb cb] 47)).drew oX.drew
      obtain ⟨wx, hwx⟩ : ∃ q, q = w5.alloc (.cells #[.int .i64 kind, .int .i64 Px, .int .i64 sx, .int .u32 ix, .slice ab mb cb] 47) := ⟨_, rfl⟩
      rw [← hwx] at bX HW
      have x1 : wx.cell? ⟨X, 1, none⟩ = some (.int .i64 Px) := by rw [cell_of_row _ _ _ _ _ _ bX]; rfl
      have x3 : wx.cell? ⟨X, 3, none⟩ = some (.int .u32 ix) := by rw [cell_of_row _ _ _ _ _ _ bX]; rfl
      have x4 : wx.cell? ⟨X, 4, none⟩ = some (.slice ab mb cb) := by rw [cell_of_row _ _ _ _ _ _ bX]; rfl
      have HWX : Hid (wx = w5.alloc (.cells #[.int .i64 kind, .int .i64 Px, .int .i64 sx, .int .u32 ix, .slice ab mb cb] 47)) := hwx
      have HXE : Hid (X = w5.heap.size) := hX
      clear oX bX hwx hX HAW
      go_wp2_with fail
      rw [← HWX.out, ← HXE.out]
      clear y0 y1 y2 y3 y4
      go_region_held3 (fun w' => w'.cell? ⟨X, 1, none⟩ = some (.int .i64 Px) ∧ w'.cell? ⟨X, 3, none⟩ = some (.int .u32 ix) ∧ w'.cell? ⟨X, 4, none⟩ = some (.slice ab mb cb)) (first | exact ⟨HK2.out 1 _ x1, HK2.out 3 _ x3, HK2.out 4 _ x4⟩ | exact ⟨HK1.out 1 _ x1, HK1.out 3 _ x3, HK1.out 4 _ x4⟩ | go_keep)
        (first
          | (go_at_call 11; refine (show Calls Try.prog 11 _ _ _ from HW.out).mono ?_; rintro e w6 ⟨u1, rfl, HK1, HC1⟩)
          | (go_at_call 25; refine (show Calls Try.prog 25 _ _ _ from HC1.out).mono ?_; rintro e w7 ⟨q, rfl, HK2, HN⟩))
      have z1 := HK2.out 1 _ x1
      have z4 := HK2.out 4 _ x4
      clear HW HC1 HK1 HK2 x1 x3 x4 HWX
      rcases HN.out with ⟨hq0, hno, hA⟩ | ⟨hq0, Q, hPQ, hQ1, hm1, ⟨cv, hcv⟩, hfr, hA⟩
      · have he : (q == 0) = false := by simp [hq0]
        have HA : Hid (Aps w1 w7 p LB 16 (i + 1) os) := hA
        rw [← HQ4.out] at hno
        clear HN hA hq0
        by_cases e1 : Px < 0
        · have e1' : ¬ 0 ≤ Px := by omega
          clear hno
          go_wp2
          go_roundw
          case rel => exact ⟨i + 1, by omega, by go_num, HA.out⟩
          case measure => simp [intOf]; omega
        · by_cases e2 : Px < (q4 : Int)
          · have e3 : ¬ (mb : Int) ≤ 116 := by omega
            clear hno
            go_wp2
            go_roundw
            case rel => exact ⟨i + 1, by omega, by go_num, HA.out⟩
            case measure => simp [intOf]; omega
          · have e2' : (q4 : Int) ≤ Px := by omega
            clear hno
            go_wp2
            go_roundw
            case rel => exact ⟨i + 1, by omega, by go_num, HA.out⟩
            case measure => simp [intOf]; omega
      · subst hq0
        subst hPQ
        have HA : Hid (Aps w1 (w7.setCell ⟨LB, Q, none⟩ (.int .i64 ((i + 1 : Nat) : Int))) p LB 16 (i + 1) os) := hA
        rw [← HQ4.out] at hQ1
        have q0 : (0 : Int) ≤ (Q : Int) := by omega
        have q1 : (Q : Int) < (q4 : Int) := by omega
        have q2 : (mb : Int) ≤ 116 := by omega
        have hcast : ((i + 1 : Nat) : Int) = (i : Int) + 1 := by omega
        rw [hcast] at HA
        clear HN hA hcast
        go_wp2
        go_roundw
        case rel => exact ⟨i + 1, by omega, by go_num, HA.out⟩
        case measure => simp [intOf]; omega
    · obtain rfl : i = L := by omega
      clear hP
      go_wp2_with fail
      go_loopw [13] (fun t wr => ∃ q : Nat, q ≤ q4 ∧ t = .int .i64 q ∧ Aps w1 wr p LB 16 i os) (fun t _ => q4 - (intOf t).toNat)
      case atStart => exact ⟨0, Nat.zero_le _, rfl, HP.out⟩
      case round =>
        obtain ⟨q, hq, rfl, hQ⟩ := hrel
        obtain ⟨w6, rfl⟩ : ∃ w6, w6 = wr := ⟨_, rfl⟩
        have HQA : Hid (Aps w1 w6 p LB 16 i os) := hQ
        by_cases hlq : q < q4
        · have k0 : (0 : Int) ≤ (q : Int) := by omega
          have k1 : (q : Int) < (q4 : Int) := by omega
          obtain ⟨S6, pv6, d6, lf6, hA6⟩ := hQ
          have hq2 : q < 16 / 4 := by have := HQ4.out; omega
          have hrd := pread_in p S6 _ q pv6 d6 w6 hA6.disk (by rw [hA6.n]; exact hq2) (by rw [hA6.life]; decide) hA6.byte
          have hcell : ∀ wz, Only (fun _ => False) w6 wz → wz.cell? ⟨LB, q, none⟩ = some (.int .i64 (lf6 q : Nat)) := fun wz ho => by
            obtain ⟨g', o', c2, hv, hc2, hfr⟩ := (hA6.last.frame ho (fun _ _ e => e)).form (by omega)
            simp only [Value.slice.injEq, Option.some.injEq, Addr.mk.injEq, and_true, true_and] at hv
            obtain ⟨⟨rfl, rfl⟩, _⟩ := hv
            have := hc2 q hq2
            rwa [Nat.zero_add] at this
          have HCL : Hid _ := hcell
          rcases hA6.pg q hq2 with ⟨hl0, hun⟩ | ⟨j, hj, hlj, hji, hpg, hbl⟩
          · rw [hun] at hrd
            rw [hl0] at HCL
            have HRD : Hid (Calls Try.prog 26 #[.pointer (some ⟨p, 0, none⟩), .int .i64 q] w6 fun e w' => e = .returned (.tuple #[.int .u32 0, .slice none 0 0, .int .i64 5]) ∧ Only (fun _ => False) w6 w') := hrd
            clear hA6 hrd hcell hun hl0
            go_wp2_with fail
            refine (show Calls Try.prog 26 _ _ _ from HRD.out).mono ?_
            rintro e w7 ⟨rfl, ho7⟩
            have y := HCL.out w7 ho7
            have HA7 : Hid (Aps w1 w7 p LB 16 i os) := HQA.out.frame ho7
            clear HRD ho7 HCL
            go_wp2
            go_roundw
            case rel => exact ⟨q + 1, by omega, by go_num, HA7.out⟩
            case measure => simp [intOf]; omega
          · obtain ⟨g, o, c', hv, hrange⟩ := HS.out.get j hj
            simp only [Value.slice.injEq] at hv
            obtain ⟨rfl, hLL, rfl⟩ := hv
            clear hLL
            have hok : (os[j]).ok w1 := (HS.out.2 (os[j]) (List.getElem_mem _)).frame O1.out
            have hrw : ∀ wz, Only (fun _ => False) w6 wz → wz.rangeAt g (o + j * 5) (os[j]).cells := fun wz ho => ho.range (HQA.out.only.range (O1.out.range hrange (fun e => e)) (fun e => e)) (fun e => e)
            have hib := u32_bounds hok.2.2.2.2
            have hun : unp (pgN d6 q 4) = some ((os[j]).id.toNat, (os[j]).b) := by rw [hpg]; exact unp_page _ _ hbl (by omega) hok.1.2.2
            rw [hun] at hrd
            rw [hlj] at HCL
            obtain ⟨x, hx⟩ : ∃ x, x = os[j] := ⟨_, rfl⟩
            rw [← hx] at hrw hok hrd hib
            obtain ⟨kind, Px, sx, ix, xb, vb⟩ := x
            obtain ⟨I, hI⟩ : ∃ I : Nat, ix = I := ⟨ix.toNat, by have h : 0 ≤ ix := hib.1; omega⟩
            subst hI
            have HRD : Hid (Calls Try.prog 26 #[.pointer (some ⟨p, 0, none⟩), .int .i64 q] w6 fun e w' => ∃ u, e = .returned (.tuple #[.int .u32 (I : Nat), u, .int .i64 0]) ∧ Fresh w' w6.heap.size u xb ∧ Only (fun _ => False) w6 w') := hrd
            obtain ⟨ab, cb, hvb, _, _⟩ := hok.1.form
            simp only at hvb
            subst hvb
            obtain ⟨mb, hmb⟩ : ∃ m, m = xb.length := ⟨_, rfl⟩
            simp only [OpP.cells, ← hmb] at hrw
            have hby : BytesAt w1 (.slice ab mb cb) xb := by rw [hmb]; exact hok.1
            have HBY : Hid (BytesAt w1 (.slice ab mb cb) xb) := hby
            have HRW : Hid _ := hrw
            have j0 : (0 : Int) ≤ (j : Int) := by omega
            have j1 : (j : Int) < (i : Int) := by omega
            have jw : IntKind.i64.wrap (((j + 1 : Nat) : Int) - 1) = (j : Int) := by rw [IntKind.wrap_i64]; omega
            have jn : (((j + 1 : Nat) : Int) == 0) = false := by simp; omega
            have HJC : Hid (((j + 1 : Nat) : Int) = (j : Int) + 1) := (by omega : _ = _)
            rw [HJC.out] at jw jn
            clear hA6 hrd hcell hun hlj hrange hok hib hx hpg hbl hrw hby hmb
            go_wp2_with fail
            refine (show Calls Try.prog 26 _ _ _ from HRD.out).mono ?_
            rintro e w7 ⟨u, rfl, hf7, ho7⟩
            have y := HCL.out w7 ho7
            rw [HJC.out] at y
            have hr7 := HRW.out w7 ho7
            have y0 : w7.cell? ⟨g, o + j * 5, none⟩ = some (.int .i64 kind) := hr7 0 _ rfl
            have y1 : w7.cell? ⟨g, o + j * 5 + 1, none⟩ = some (.int .i64 Px) := hr7 1 _ rfl
            have y2 : w7.cell? ⟨g, o + j * 5 + 2, none⟩ = some (.int .i64 sx) := hr7 2 _ rfl
            have y3 : w7.cell? ⟨g, o + j * 5 + 3, none⟩ = some (.int .u32 (I : Int)) := hr7 3 _ rfl
            have y4 : w7.cell? ⟨g, o + j * 5 + 4, none⟩ = some (.slice ab mb cb) := hr7 4 _ rfl
            have HA7 : Hid (Aps w1 w7 p LB 16 i os) := HQA.out.frame ho7
            have hsame := fun wz (hz : Only (fun _ => False) w7 wz) => same_any u (.slice ab mb cb) xb wz (hf7.bytes.frame hz) (HBY.out.frame (HA7.out.only.trans hz (fun _ _ e => e)))
            have HSM : Hid _ := hsame
            clear HRD ho7 HCL HRW hr7 hf7 hsame
            go_wp2_with fail
            refine (show Calls Try.prog 17 _ _ _ from HSM.out _ ((Only.refl _ w7).alloc _)).mono ?_
            rintro e w8 ⟨rfl, ho8⟩
            have HA8 : Hid (Aps w1 w8 p LB 16 i os) := HA7.out.frame (((Only.refl _ w7).alloc _).trans ho8 (fun _ _ e => e))
            clear ho8 HSM y y0 y1 y2 y3 y4
            go_wp2
            go_roundw
            case rel => exact ⟨q + 1, by omega, by go_num, HA8.out⟩
            case measure => simp [intOf]; omega
        · obtain rfl : q = q4 := by omega
          have HE : Hid (Below w.heap.size w w6) := (O1.out.trans hQ.only (fun _ _ e => e)).below (fun _ e => e.elim) (Nat.le_refl _)
          clear hQ HQA
          go_wp2
          go_ret
          exact ⟨rfl, HE.out⟩

/-- PagesApart, whatever it is given. -/
theorem apart_any (s : Int) (v : Value) (os : List OpP) (w : World) (hs : ScriptAt w v os) (hlen : os.length ≤ 1048576) (hw : (Lit.int .i64 s).wf = true) :
    Calls Try.prog 6 #[.int .i64 s, v] w fun e w' => e = .returned (.bool true) ∧ Below w.heap.size w w' := by
  by_cases h1 : s < 4
  · exact apart_lo s h1 v os w hs hlen
  · by_cases h2 : 64 < s
    · exact apart_hi s h1 h2 v os w hs hlen
    · have e : s = (s.toNat : Int) := by omega
      have := apart_mid s.toNat (by omega) (by omega) v os w hs hlen
      rw [← e] at this
      exact this
end Go.Proofs.Ytdcflnfdaijpdaa
