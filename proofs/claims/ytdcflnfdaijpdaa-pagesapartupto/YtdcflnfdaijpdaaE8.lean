/- One call of a script on both disks: a crash that keeps all; any call. -/
import Derived.Test.YtdcflnfdaijpdaaE7
import Derived.Test.YtdcflnfdaijpdaaBack
namespace Go.Proofs.Ytdcflnfdaijpdaa
open Go.RowKit
set_option linter.unusedSimpArgs false
set_option linter.unusedVariables false

set_option maxRecDepth 100000 in
set_option maxHeartbeats 4000000 in
theorem step_crash {w0 w : World} {p S : Nat} {pv : Value} {r K : Nat} {rv : Value} {rs : List RW} {d : DS} {X : Nat} (h : Both w0 w p S pv r K rv rs d X) (hp : d.pend.length ≤ 1048576000) (P s i : Int) (vb : Value) :
    Calls Try.prog 21 #[.pointer (some ⟨p, 0, none⟩), .pointer (some ⟨r, 0, none⟩), .agg #[.int .i64 5, .int .i64 P, .int .i64 s, .int .u32 i, vb]] w fun e w' => e = .returned (.bool true) ∧ Hid (Next w0 w' p S r K d) := by
  obtain ⟨wx, hwx⟩ : ∃ q, q = w.alloc (.cells #[.int .i64 5, .int .i64 P, .int .i64 s, .int .u32 i, vb] 47) := ⟨_, rfl⟩
  obtain ⟨Bx, hBx⟩ : ∃ q, q = w.heap.size := ⟨_, rfl⟩
  have oX : Only (fun _ => False) w wx := by rw [hwx]; exact (Only.refl _ w).alloc _
  have bX : wx.heap[Bx]? = some (.cells #[.int .i64 5, .int .i64 P, .int .i64 s, .int .u32 i, vb] 47 (0, 0)) := by rw [hwx, hBx]; exact heap_alloc_new w _
  have x0 : wx.cell? ⟨Bx, 0, none⟩ = some (.int .i64 5) := by rw [cell_of_row _ _ _ _ _ _ bX]; rfl
  have x1 : wx.cell? ⟨Bx, 1, none⟩ = some (.int .i64 P) := by rw [cell_of_row _ _ _ _ _ _ bX]; rfl
  have x2 : wx.cell? ⟨Bx, 2, none⟩ = some (.int .i64 s) := by rw [cell_of_row _ _ _ _ _ _ bX]; rfl
  have x3 : wx.cell? ⟨Bx, 3, none⟩ = some (.int .u32 i) := by rw [cell_of_row _ _ _ _ _ _ bX]; rfl
  have x4 : wx.cell? ⟨Bx, 4, none⟩ = some (vb) := by rw [cell_of_row _ _ _ _ _ _ bX]; rfl
  have HB : Hid (Both w0 wx p S pv r K rv rs d Bx) := (h.atX Bx (by omega)).frame oX
  have HW : Hid (wx = w.alloc (.cells #[.int .i64 5, .int .i64 P, .int .i64 s, .int .u32 i, vb] 47)) := hwx
  have HX : Hid (Bx = w.heap.size) := hBx
  have hBl : Bx < wx.heap.size := by rw [hwx, hBx]; simp
  clear hwx hBx oX bX h
  obtain ⟨a1, c1, hpv⟩ : ∃ a c, pv = .slice a d.pend.length c := by
    rcases HB.out.disk.own.2 with ⟨e, e0⟩ | ⟨g, cap, cur, e, _⟩
    · exact ⟨none, 0, by rw [e, e0]⟩
    · exact ⟨_, _, e⟩
  have hc1 := HB.out.disk.c1
  rw [hpv] at hc1
  have HPD := pending_any p a1 d.pend.length c1 wx hc1
  obtain ⟨m, hm⟩ : ∃ m, m = d.pend.length := ⟨_, rfl⟩
  rw [← hm] at HPD
  have HM : Hid (m = d.pend.length) := hm
  have hm2 : m ≤ 1048576000 := by omega
  have hmk := make_flags m (by omega) wx
  have HSZ : Hid (∀ k, (trueArr m k).size = m) := trueArr_size m
  have HST : Hid (∀ k, (trueArr m k).setIfInBounds k (.bool true) = trueArr m (k + 1)) := trueArr_set m
  obtain ⟨A, hA⟩ : ∃ A : Nat → Array Value, A = trueArr m := ⟨_, rfl⟩
  rw [← hA] at hmk HSZ HST
  have HA : Hid (A = trueArr m) := hA
  clear hpv hc1 hm hA
  go_enter Try.func21, Try.ntmps21
  go_wp2_with fail
  rw [← HW.out]
  refine HPD.mono ?_
  rintro e w1 ⟨rfl, rfl⟩
  clear HPD HW x0 x1 x2 x3 x4
  go_wp2_with fail
  clear hmk
  go_loopw [14] (fun t wr => ∃ k : Nat, k ≤ m ∧ t = .int .i64 k ∧ wr = w1.alloc (.cells (A k) 4)) (fun t _ => m - (intOf t).toNat)
  case atStart => exact ⟨0, by omega, rfl, rfl⟩
  case round =>
    obtain ⟨k, hk, rfl, rfl⟩ := hrel
    by_cases hlt : k < m
    · have k0 : (0 : Int) ≤ (k : Int) := by omega
      have k1 : (k : Int) < (m : Int) := by omega
      have hsz := HSZ.out k
      go_wp2
      go_roundw
      case rel => exact ⟨k + 1, by omega, by go_num, by rw [HST.out]⟩
      case measure => simp [intOf]; omega
    · obtain rfl : k = m := by omega
      obtain ⟨w2, hw2⟩ : ∃ w2, w2 = w1.alloc (.cells (A k) 4) := ⟨_, rfl⟩
      have o2 : Only (fun _ => False) w1 w2 := by rw [hw2]; exact (Only.refl _ w1).alloc _
      have hb2 := HB.out.frame o2
      have nS : S ≠ w1.heap.size := fun e => by have := (HB.out.disk.lt S (.inr (.inl rfl))).2; omega
      have nK : K ≠ w1.heap.size := fun e => by have := (HB.out.ref.lt K (.inr (.inl rfl))).2; omega
      have flS : DFlags w2 (.slice (some ⟨w1.heap.size, 0, none⟩) k k) k (fun _ => true) S := by rw [hw2, HA.out]; exact flags_true k S w1 (by omega) nS
      have flK : DFlags w2 (.slice (some ⟨w1.heap.size, 0, none⟩) k k) k (fun _ => true) K := by rw [hw2, HA.out]; exact flags_true k K w1 (by omega) nK
      have ecl : (List.replicate k true).length = k := by simp
      have eget : ∀ j, j < k → (List.replicate k true).getD j false = true := fun j hj => by simp [List.getD, hj]
      have conv : ∀ (wz : World) (Q : Nat), DFlags wz (.slice (some ⟨w1.heap.size, 0, none⟩) k k) k (fun _ => true) Q → DFlags wz (.slice (some ⟨w1.heap.size, 0, none⟩) k k) (List.replicate k true).length (fun j => (List.replicate k true).getD j false) Q := by
        rintro wz Q ⟨ka, kc, hv, hmm, hk⟩
        rw [ecl]
        refine ⟨ka, kc, hv, hmm, fun i hi => ?_⟩
        obtain ⟨kb, ko, q1, q2, q3⟩ := hk i hi
        exact ⟨kb, ko, q1, q2, by rw [q3]; show some (Value.bool true) = some (Value.bool ((List.replicate k true).getD i false)); rw [eget i hi]⟩
      have HC : Hid (Calls Try.prog 43 #[.pointer (some ⟨p, 0, none⟩), .slice (some ⟨w1.heap.size, 0, none⟩) k k, .int .i64 (-1), .int .i64 0] w2 fun e w1' => ∃ q, e = .returned (.int .i64 q) ∧ Hid (KeepX Bx w2 w1') ∧ Hid (Calls Try.prog 44 #[.pointer (some ⟨r, 0, none⟩), .slice (some ⟨w1.heap.size, 0, none⟩) k k, .int .i64 (-1), .int .i64 0] w1' fun e w2' => e = .returned (.int .i64 q) ∧ Hid (KeepX Bx w2 w2') ∧ Hid (Next w0 w2' p S r K d))) := by
        refine both_crash hb2 (by have := HM.out; omega) _ _ (List.replicate k true) (-1) 0 (conv _ _ flS) (fun w3 o3 => conv _ _ ?_)
        obtain ⟨ka, kc, hv, hmm, hk⟩ := flK
        refine ⟨ka, kc, hv, hmm, fun i hi => ?_⟩
        obtain ⟨kb, ko, q1, q2, q3⟩ := hk i hi
        simp only [Value.slice.injEq] at hv
        obtain ⟨rfl, _, _⟩ := hv
        simp only [Option.some.injEq, Addr.mk.injEq, and_true] at q1
        obtain ⟨rfl, rfl⟩ := q1
        refine ⟨w1.heap.size, 0, rfl, q2, o3.cell q3 (fun e => ?_)⟩
        have h1 : diskB p S pv w1.heap.size := e
        have := (HB.out.disk.lt _ h1).2
        omega
      have HW2 : Hid (w2 = w1.alloc (.cells (A k) 4)) := hw2
      clear hw2 o2 hb2 nS nK flS flK ecl eget conv HB
      go_wp2_with fail
      rw [← HW2.out]
      refine (show Calls Try.prog 43 _ _ _ from HC.out).mono ?_
      rintro e w3 ⟨q, rfl, HK1, HC1⟩
      clear HC HW2
      go_wp2_with fail
      refine (show Calls Try.prog 44 _ _ _ from HC1.out).mono ?_
      rintro e w4 ⟨rfl, HK2, HN⟩
      clear HC1 HK1 HK2
      go_wp2
      go_ret
      exact ⟨rfl, HN⟩
/-- A call of a script. -/
structure OpP where
  kind : Int
  P : Int
  s : Int
  id : Int
  b : List Nat
  vb : Value
def OpP.cells (o : OpP) : List Value := [.int .i64 o.kind, .int .i64 o.P, .int .i64 o.s, .int .u32 o.id, o.vb]
def OpP.ok (W : World) (o : OpP) : Prop := BytesAt W o.vb o.b ∧ (Lit.int .i64 o.kind).wf = true ∧ (Lit.int .i64 o.P).wf = true ∧ (Lit.int .i64 o.s).wf = true ∧ (Lit.int .u32 o.id).wf = true
theorem OpP.ok.frame {W W' : World} {o : OpP} (h : o.ok W) (ho : Only (fun _ => False) W W') : o.ok W' := ⟨h.1.frame ho, h.2⟩
/-- One call, whatever it is. -/
theorem step_any {w0 w : World} {p S : Nat} {pv : Value} {r K : Nat} {rv : Value} {rs : List RW} {d : DS} {X : Nat} (h : Both w0 w p S pv r K rv rs d X) (hp : d.pend.length ≤ 1048576000) (x : OpP) (hx : x.ok w0) :
    Calls Try.prog 21 #[.pointer (some ⟨p, 0, none⟩), .pointer (some ⟨r, 0, none⟩), .agg x.cells.toArray] w fun e w' => e = .returned (.bool true) ∧ Hid (Next w0 w' p S r K d) := by
  obtain ⟨k, P, s, i, b, vb⟩ := x
  obtain ⟨hb, _, _, hs, hi⟩ := hx
  have hs2 : s ≤ 9223372036854775807 := (i64_bounds hs).2
  have hi2 : 0 ≤ i ∧ i ≤ 4294967295 := u32_bounds hi
  by_cases k1 : k = 1
  · subst k1; exact step_read h hp P s i vb
  by_cases k2 : k = 2
  · subst k2; exact step_sector h hp P s i vb b hb
  by_cases k3 : k = 3
  · subst k3; exact step_barrier h hp P s i vb
  by_cases k4 : k = 4
  · subst k4; exact step_live h hp P s i vb hs2
  by_cases k5 : k = 5
  · subst k5; exact step_crash h hp P s i vb
  have hb' : BytesAt w0 vb b := hb
  obtain ⟨a, c, hvb, _, _⟩ := hb'.form
  subst hvb
  exact step_write h hp k P s i a b.length c i.toNat (by omega) (by omega) b hb k1 k2 k3 k4 k5
end Go.Proofs.Ytdcflnfdaijpdaa
