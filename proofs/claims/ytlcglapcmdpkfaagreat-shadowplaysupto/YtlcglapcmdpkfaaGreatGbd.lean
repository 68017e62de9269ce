/-  -/
import Derived.Test.YtlcglapcmdpkfaaGreatGbc
import Derived.Deep.CutRange
namespace Go.Proofs.YtlcglapcmdpkfaaGreat
open Go.RowKit Go.Maps
set_option linter.unusedSimpArgs false
set_option linter.unusedVariables false
set_option maxRecDepth 100000
set_option maxHeartbeats 16000000
theorem DiskAt.low {w : World} {B B' p S : Nat} {pv : Value} {d : DS} (h : DiskAt w B p S pv d) (hB : B' ≤ B) : DiskAt w B' p S pv d :=
 { h with pB := by have := h.pB; omega, SB := by have := h.SB; omega, own := ownsRow_base h.own hB }
theorem RefAt.low {w : World} {B B' q K : Nat} {rv : Value} {rs : List RW} {d : DS} (h : RefAt w B q K rv d rs) (hB : B' ≤ B) : RefAt w B' q K rv d rs :=
 { h with rB := by have := h.rB; omega, KB := by have := h.KB; omega, own := ownsRow_base h.own hB, at_ := fun x hx => by have := h.at_ x hx; exact ⟨by omega, this.2⟩ }
theorem plOk_new {w0 w1 w2 w3 : World} {p S n : Nat} (o1 : Only (fun _ => False) w0 w1) (d2 : DiskAt w2 w1.heap.size p S (.slice none 0 0) ⟨n, fun _ _ => 0, [], -1⟩) (o2 : Only (fun _ => False) w1 w2) (r3 : RefAt w3 w2.heap.size (w2.heap.size + 1) w2.heap.size (.slice none 0 0) ⟨n, fun _ _ => 0, [], -1⟩ []) (o3 : Only (fun _ => False) w2 w3) :
  PlOk (w3.alloc (.cells #[.pointer (some ⟨p, 0, none⟩), .pointer (some ⟨w2.heap.size + 1, 0, none⟩), .pointer none, .pointer none] 35)) w0.heap.size w3.heap.size p S (w2.heap.size + 1) w2.heap.size n 0 := by
 have oA : Only (fun _ => False) w3 (w3.alloc (.cells #[.pointer (some ⟨p, 0, none⟩), .pointer (some ⟨w2.heap.size + 1, 0, none⟩), .pointer none, .pointer none] 35)) := (Only.refl _ w3).alloc _
 have bA := heap_alloc_new w3 (.cells #[.pointer (some ⟨p, 0, none⟩), .pointer (some ⟨w2.heap.size + 1, 0, none⟩), .pointer none, .pointer none] 35)
 have s1 := o1.size
 have s2 := o2.size
 have s3 := o3.size
 refine ⟨_, _, _, _, .pointer none, .pointer none, { pc := fun j v hv => ?_, pt := fun j hj => ?_, pB := by omega, dk := ((d2.frame o3 (fun _ _ g => g)).frame oA (fun _ _ g => g)).low s1, rf := (r3.frame oA (fun _ _ g => g)).low (by omega), ap := fun b g g' => ?_, a1 := fun g => ?_, a2 := fun g => ?_ }, .inl ⟨rfl, rfl⟩, ⟨ByteD.new n, Good.nil _ _ _, rfl, by simp⟩⟩
 ·rw [cell_of_row _ _ _ _ _ _ bA, Nat.zero_add]
  simpa using hv
 ·refine ⟨?_, frozen_of_row _ _ _ _ _ bA⟩
  rw [cell_of_row _ _ _ _ _ _ bA, Nat.zero_add]
  have : j = 0 ∨ j = 1 ∨ j = 2 ∨ j = 3 := by omega
  rcases this with rfl | rfl | rfl | rfl <;> rfl
 ·have h1 := (d2.lt b g).2
  rcases g' with g' | g' | g' | ⟨x, hx, _⟩
  ·omega
  ·omega
  ·simp [Value.ownBlock] at g'
  ·cases hx
 ·have h1 := (d2.lt _ g).2; omega
 ·have h1 := (r3.lt _ g).2; omega
def SecTwo (w : World) (p q : Nat) (k : Nat) : Prop := ∃ y : Int, Calls Tryz.prog 8 #[.pointer (some ⟨p, 0, none⟩), .int .i64 (k : Nat)] w fun e w1 => ∃ a n c, e = .returned (.tuple #[.slice a n c, .int .i64 y]) ∧
 Hid (Calls Tryz.prog 9 #[.pointer (some ⟨q, 0, none⟩), .int .i64 (k : Nat)] w1 fun e w2 => ∃ a' n' c', e = .returned (.tuple #[.slice a' n' c', .int .i64 y]) ∧ Hid (Calls Tryz.prog 10 #[.slice a n c, .slice a' n' c'] w2 fun e w3 => e = .returned (.bool true) ∧ Hid (Only (fun _ => False) w w3)))
theorem PlOk.sec {w : World} {B P p S q K n m : Nat} (h : PlOk w B P p S q K n m) (hm : m ≤ 8589934592) (k : Nat) (hk : k < n) : SecTwo w p q k := by
 obtain ⟨pv, d, rv, rs, sv, rp, hc, hs, hf⟩ := h
 by_cases hl : d.life = 0
 ·refine ⟨3, (read_dead p k w (by rw [← hl]; exact hc.dk.c2)).mono ?_⟩
  rintro e w1 ⟨rfl, rfl⟩
  refine ⟨none, 0, 0, rfl, (rread_dead q k w1 (by rw [← hl]; exact hc.rf.c3)).mono ?_⟩
  rintro e w2 ⟨rfl, rfl⟩
  refine ⟨none, 0, 0, rfl, (same_any _ _ [] w2 (BytesAt.none _ _ (fun _ => rfl)) (BytesAt.none _ _ (fun _ => rfl))).mono ?_⟩
  rintro e w3 ⟨rfl, o3⟩
  exact ⟨rfl, o3⟩
 ·have hkn : k < d.n := by rw [hf.n_]; exact hk
  refine ⟨0, (read_any p S k B pv d w hc.dk hl hkn).mono ?_⟩
  rintro e w1 ⟨rfl, hw1⟩
  have o1 : Only (fun _ => False) w w1 := by rw [hw1]; exact (Only.refl _ w).alloc _
  have b1 : w1.heap[w.heap.size]? = some (.cells (secL (d.sec k)).toArray 67 (0, 0)) := by rw [hw1]; exact heap_alloc_new w _
  have r1 : w1.rangeAt w.heap.size 0 (secL (d.sec k)) := fun j v hv => by
   rw [cell_of_row _ _ _ _ _ _ b1, Nat.zero_add]
   simpa using hv
  have hby := hf.by_.sec k
  have y1 := sec_part (p := 0) (m := 32) (c := 32) r1 hby (by omega) (by omega)
  refine ⟨_, _, _, rfl, (rread_cap (hc.still o1).rf hf.gd hl (by have := hf.pd; omega) k hkn).mono ?_⟩
  rintro e w2 ⟨g, cap, rfl, r2, o2, hcap⟩
  have y2 := sec_part (p := 0) (m := 32) (c := cap) r2 hby (by omega) hcap
  refine ⟨_, _, _, rfl, (same_any _ _ _ w2 (y1.frame o2) y2).mono ?_⟩
  rintro e w3 ⟨rfl, o3⟩
  exact ⟨rfl, (o1.trans o2 (fun _ _ g => g)).trans o3 (fun _ _ g => g)⟩
theorem plays_bad (n : Int) (v : Value) (w : World) (h : n < 1 ∨ 8192 < n) : Calls Tryz.prog 3 #[.int .i64 n, v] w fun e w' => e = .returned (.bool true) ∧ Below w.heap.size w w' := by
 go_enter Tryz.func3, Tryz.ntmps3
 go_wp2_with fail
 refine (awake_any w).mono ?_
 rintro e w1 ⟨rfl, o1⟩
 have O1 : Hid (Below w.heap.size w w1) := o1.below (fun _ e => e.elim) (Nat.le_refl _)
 clear o1
 go_wp2_with fail
 refine (new_bad n w1 h).mono ?_
 rintro e w2 ⟨rfl, rfl⟩
 go_wp2_with fail
 refine (rnew_bad n w2 h).mono ?_
 rintro e w3 ⟨rfl, rfl⟩
 go_wp2
 go_ret
 exact ⟨rfl, O1.out⟩
theorem plays_walk (n : Nat) (v : Value) (os : List OpK) (w : World) (hs : ScriptK w v os) (hlen : os.length ≤ 1048576) (h1 : 1 ≤ n) (h2 : n ≤ 8192) :
  Calls Tryz.prog 3 #[.int .i64 n, v] w fun e w' => e = .returned (.bool true) ∧ Below w.heap.size w w' := by
 obtain ⟨a, c, hv⟩ := hs.form
 have HS : Hid (ScriptK w v os) := hs
 clear hs
 subst hv
 obtain ⟨L, hL⟩ : ∃ L, L = os.length := ⟨_, rfl⟩
 have HL : Hid (L = os.length) := hL
 rw [← hL] at HS hlen
 rw [← hL]
 clear hL
 obtain ⟨B, hB⟩ : ∃ B, B = w.heap.size := ⟨_, rfl⟩
 have HB : Hid (B = w.heap.size) := hB
 go_enter Tryz.func3, Tryz.ntmps3
 go_wp2_with fail
 refine (awake_any w).mono ?_
 rintro e w1 ⟨rfl, o1⟩
 have O1 : Hid (Only (fun _ => False) w w1) := o1
 clear o1
 go_wp2_with fail
 refine (new_any n w1 h1 h2).mono ?_
 rintro e w2 ⟨p, S, rfl, d2, o2⟩
 have HD : Hid (DiskAt w2 w1.heap.size p S (.slice none 0 0) ⟨n, fun _ _ => 0, [], -1⟩ ∧ Only (fun _ => False) w1 w2) := ⟨d2, o2⟩
 clear d2 o2
 go_wp2_with fail
 refine (rnew_ok n w2 h1 h2).mono ?_
 rintro e w3 ⟨rfl, r3, o3⟩
 have hok0 := plOk_new O1.out HD.out.1 HD.out.2 r3 o3
 rw [← hB] at hok0
 obtain ⟨q, hq⟩ : ∃ q, q = w2.heap.size + 1 := ⟨_, rfl⟩
 obtain ⟨K, hK⟩ : ∃ K, K = w2.heap.size := ⟨_, rfl⟩
 obtain ⟨P, hP⟩ : ∃ P, P = w3.heap.size := ⟨_, rfl⟩
 rw [← hK] at hok0 hq
 rw [← hq, ← hP] at hok0
 obtain ⟨w4, hw4⟩ : ∃ z, z = w3.alloc (.cells #[.pointer (some ⟨p, 0, none⟩), .pointer (some ⟨q, 0, none⟩), .pointer none, .pointer none] 35) := ⟨_, rfl⟩
 rw [← hw4] at hok0
 have HW4 : Hid (w4 = w3.alloc (.cells #[.pointer (some ⟨p, 0, none⟩), .pointer (some ⟨q, 0, none⟩), .pointer none, .pointer none] 35)) := hw4
 have HP4 : Hid (P = w3.heap.size) := hP
 have o4 : Only (fun _ => False) w w4 := ((O1.out.trans HD.out.2 (fun _ _ g => g)).trans o3 (fun _ _ g => g)).trans (by rw [hw4]; exact (Only.refl _ w3).alloc _) (fun _ _ g => g)
 have HQ : Hid (q = w2.heap.size + 1) := by rw [hq, hK]; rfl
 have O4 : Hid (Only (fun _ => False) w w4) := o4
 have HF : Hid (Calls Tryz.prog 7 #[.pointer (some ⟨P, 0, none⟩), .agg #[.int .i64 9, .int .i64 0, .int .i64 0, .int .i64 0, .slice none 0 0, .slice none 0 0]] w4 fun e w' => e = .returned (.bool true) ∧ Hid (PlOk w' B P p S q K n (0 + 4000) ∧ Only (fun k => B ≤ k) w4 w')) := step_any hok0 o4 hB (by omega) ⟨9, 0, 0, 0, [], [], .slice none 0 0, .slice none 0 0⟩ ⟨BytesAt.none _ _ (fun _ => rfl), ⟨.inl ⟨rfl, rfl⟩, by simp⟩, by show (0 : Int) ≤ 9223372036854775807; omega⟩
 clear r3 o3 HD hq hK hP hok0 hw4 o4
 rw [← HQ.out]
 go_upto_region 10 with fail
 rw [← HW4.out, ← HP4.out]
 go_wp2_with fail
 refine (show Calls Tryz.prog 7 _ _ _ from HF.out).mono ?_
 rintro e w5 ⟨rfl, H5⟩
 clear HF
 have HP0 : Hid (PlOk w5 B P p S q K n (4000 * (0 + 1)) ∧ Only (fun _ => False) w w5) := ⟨H5.out.1, O4.out.trans H5.out.2 (fun k hk g => by have := HB.out; omega)⟩
 clear H5 O4 hB
 go_wp2_with fail
 go_loopw [10] (fun t wr => ∃ i : Nat, i ≤ L ∧ t = .int .i64 i ∧ Hid (PlOk wr B P p S q K n (4000 * (i + 1)) ∧ Only (fun _ => False) w wr)) (fun t _ => L - (intOf t).toNat)
 case atStart => exact ⟨0, Nat.zero_le _, rfl, HP0.out⟩
 case round =>
  clear HP0
  obtain ⟨i, hi, rfl, HI⟩ := hrel
  obtain ⟨w6, rfl⟩ : ∃ w4, w4 = wr := ⟨_, rfl⟩
  by_cases hlt : i < L
  ·have hlt2 : i < os.length := by have := HL.out; omega
   obtain ⟨x, hx⟩ : ∃ x, x = os[i] := ⟨_, rfl⟩
   obtain ⟨g, o, c', hv, hrange, _⟩ := HS.out.get i hlt2
   simp only [Value.slice.injEq] at hv
   obtain ⟨rfl, hLL, rfl⟩ := hv
   clear hLL
   rw [← hx] at hrange
   have hok : x.ok w := HS.out.2.2 x (by rw [hx]; exact List.getElem_mem _)
   have hrw := HI.out.2.range hrange (fun e => e)
   have STEP : Hid (Calls Tryz.prog 7 _ _ _) := step_any HI.out.1 HI.out.2 HB.out (by omega) x hok
   have i0 : (0 : Int) ≤ (i : Int) := Int.natCast_nonneg _
   have i1 : (i : Int) < (L : Int) := by omega
   obtain ⟨kind, px, nx, cx, xb, xk, vb, vk⟩ := x
   simp only [OpK.cells] at STEP hrw
   have y0 : w6.cell? ⟨g, o + i * 6, none⟩ = some (.int .i64 kind) := hrw 0 _ rfl
   have y1 : w6.cell? ⟨g, o + i * 6 + 1, none⟩ = some (.int .i64 px) := hrw 1 _ rfl
   have y2 : w6.cell? ⟨g, o + i * 6 + 2, none⟩ = some (.int .i64 nx) := hrw 2 _ rfl
   have y3 : w6.cell? ⟨g, o + i * 6 + 3, none⟩ = some (.int .i64 cx) := hrw 3 _ rfl
   have y4 : w6.cell? ⟨g, o + i * 6 + 4, none⟩ = some vb := hrw 4 _ rfl
   have y5 : w6.cell? ⟨g, o + i * 6 + 5, none⟩ = some vk := hrw 5 _ rfl
   have O6 : Hid (Only (fun _ => False) w w6) := HI.out.2
   clear hx hrange hok hrw HI
   go_wp2_with fail
   refine (show Calls Tryz.prog 7 _ _ _ from STEP.out).mono ?_
   rintro e w7 ⟨rfl, H7⟩
   have HP7 : Hid (PlOk w7 B P p S q K n (4000 * (i + 1 + 1)) ∧ Only (fun _ => False) w w7) := ⟨by have := H7.out.1; rw [show 4000 * (i + 1 + 1) = 4000 * (i + 1) + 4000 by omega]; exact this, O6.out.trans H7.out.2 (fun k hk g => by have := HB.out; omega)⟩
   clear STEP y0 y1 y2 y3 y4 y5 H7
   go_wp2
   go_roundw
   case rel => exact ⟨i + 1, by omega, by go_num, HP7.out⟩
   case measure => simp [intOf]; omega
  ·obtain rfl : i = L := by omega
   have HM : Hid (4000 * (i + 1) ≤ 8589934592) := by show 4000 * (i + 1) ≤ 8589934592; omega
   go_wp2_with fail
   go_loopw [11] (fun t wr => ∃ k : Nat, k ≤ n ∧ t = .int .i64 k ∧ Hid (PlOk wr B P p S q K n (4000 * (i + 1)) ∧ Only (fun _ => False) w wr)) (fun t _ => n - (intOf t).toNat)
   case atStart => exact ⟨0, Nat.zero_le _, rfl, HI.out⟩
   case round =>
    clear HI
    obtain ⟨k, hk, rfl, HI⟩ := hrel
    obtain ⟨w8, rfl⟩ : ∃ w4, w4 = wr := ⟨_, rfl⟩
    by_cases hkn : k < n
    ·have k1 : (k : Int) < (n : Int) := by omega
     obtain ⟨y, hy⟩ := HI.out.1.sec HM.out k hkn
     have HY : Hid (Calls Tryz.prog 8 _ _ _) := hy
     clear hy
     go_wp2_with fail
     refine (show Calls Tryz.prog 8 _ _ _ from HY.out).mono ?_
     rintro e w9 ⟨a9, n9, c9, rfl, HC1⟩
     clear HY
     go_wp2_with fail
     refine (show Calls Tryz.prog 9 _ _ _ from HC1.out).mono ?_
     rintro e w10 ⟨a10, n10, c10, rfl, HC2⟩
     clear HC1
     go_wp2_with fail
     refine (show Calls Tryz.prog 10 _ _ _ from HC2.out).mono ?_
     rintro e w11 ⟨rfl, H11⟩
     have HP11 : Hid (PlOk w11 B P p S q K n (4000 * (i + 1)) ∧ Only (fun _ => False) w w11) := ⟨HI.out.1.still H11.out, HI.out.2.trans H11.out (fun _ _ g => g)⟩
     clear HC2 H11
     go_wp2
     go_roundw
     case rel => exact ⟨k + 1, by omega, by go_num, HP11.out⟩
     case measure => simp [intOf]; omega
    ·have k1 : ¬ (k : Int) < (n : Int) := by omega
     have HE : Hid (Below w.heap.size w w8) := HI.out.2.below (fun _ e => e.elim) (Nat.le_refl _)
     clear HI
     go_wp2
     go_ret
     exact ⟨rfl, HE.out⟩
theorem plays_any (s : Int) (v : Value) (os : List OpK) (w : World) (hs : ScriptK w v os) (hlen : os.length ≤ 1048576) :
  Calls Tryz.prog 3 #[.int .i64 s, v] w fun e w' => e = .returned (.bool true) ∧ Below w.heap.size w w' := by
 by_cases hc : s < 1 ∨ 8192 < s
 ·exact plays_bad s v w hc
 ·have e : s = (s.toNat : Int) := by omega
  have := plays_walk s.toNat v os w hs hlen (by omega) (by omega)
  rw [← e] at this
  exact this
end Go.Proofs.YtlcglapcmdpkfaaGreat
