/- What grown makes, its calls counted. Which number stands at a place. What the closure of Read and 'number' answer. What number of shadow answers. What Unpack answers. What Read of pages answers of a disk, here and in the document. -/
import Derived.Test.YtpoakkdkibameaaGreatGao
import Derived.Test.YtpoakkdkibameaaGreatGaj
import Derived.Test.YtpoakkdkibameaaGreatGac
import Derived.Test.YtpoakkdkibameaaGreatGah
import Derived.Test.YtpoakkdkibameaaGreatGad
namespace Go.Proofs.YtpoakkdkibameaaGreat
open Go.RowKit Go.Maps Go.Shelf
set_option linter.unusedSimpArgs false
set_option linter.unusedVariables false

theorem WkE.idle {cm : Prop} {J : Nat → SS → DS → Prop} (hJ : StableN cm J) {k : Nat} {w : World} {K : Nat → Prop} {s p S n : Nat} {W : World} (h : WkE J k w K s p S n W) : WkE J (k + 1) w K s p S n W := by
  obtain ⟨x, d, h1, h2, h3, h4, h5⟩ := h
  exact ⟨x, d, h1, hJ.idle h2, h3, h4, h5⟩
set_option maxRecDepth 100000 in
set_option maxHeartbeats 2000000 in
theorem grownN {J : Nat → SS → DS → Prop} (hJ : StableN True J) (N : Nat) (hN : 12 ≤ N ∧ N ≤ 400) (hJ0 : J 0 (SS.new (N / 4)) (fmtD N)) (n : Int) (hn : secsN n = N) (v : Value) (os : List OpS) (w : World) (hsc : ScriptAt w v os) :
    Calls Tryz.prog 13 #[.int .i64 n, v] w fun e w' => ∃ p s S, e = .returned (.tuple #[.pointer (some ⟨p, 0, none⟩), .pointer (some ⟨s, 0, none⟩)]) ∧ Hid (WkE J (os.length + 2) w (fun k => w.heap.size ≤ k) s p S N w' ∧ w.heap.size ≤ s) := by
  have hnw := new_ok N w (by omega) (by omega)
  obtain ⟨k1, k2, k3⟩ := fmtD_eq N hN.1
  have HF : Hid (∀ w1, DiskAt w1 w.heap.size (w.heap.size + 1) w.heap.size (.slice none 0 0) ⟨N, fun _ _ => 0, [], -1⟩ → Only (fun _ => False) w w1 → w1.heap.size = w.heap.size + 2 → Calls Tryz.prog 24 #[.pointer (some ⟨w.heap.size + 1, 0, none⟩)] w1 fun e w2 => ∃ s, e = .returned (.tuple #[.pointer (some ⟨s, 0, none⟩), .int .i64 0]) ∧ Hid (WkN J 0 w (fun k => w.heap.size ≤ k) s (w.heap.size + 1) w.heap.size N w2 ∧ w.heap.size ≤ s)) := by
    intro w1 hd ho hs
    refine (format_ok (w.heap.size + 1) w.heap.size w.heap.size (.slice none 0 0) _ w1 hd (by omega) (by simp) (by show 3 ≤ N / 4; omega) k1 k2).mono ?_
    rintro e w2 ⟨s, mc, mn, pv', rfl, hh⟩
    obtain ⟨q1, q2, q3, q4, q5, q6, q7⟩ := hh.out
    have q3s := q3.size
    refine ⟨s, rfl, ⟨SS.new (N / 4), fmtD N, { all := ⟨pv', mc, mn, .slice none 0 0, w.heap.size, q1, by omega, q2, ?_⟩, byte := ?_, good := ?_, pend := ?_, life := ?_, size := ?_ }, hJ0, by rw [k3], (ho.mono (fun _ _ e => e.elim)).trans q3 (fun k hk e => ?_)⟩, by omega⟩
    · rintro k (e | e | e | e | e | e)
      · omega
      · omega
      · omega
      · omega
      · omega
      · rcases q4 k e with e | e
        · cases e
        · omega
    · rw [k3]
      exact ⟨byt_upd (byt_upd (fun _ _ => ⟨by simp, by simp⟩) _ _ (byF_byt zeros32_lt)) _ _ (byF_byt (rootB_lt _ _ _)), by simp, by simp⟩
    · rw [k3]; exact Good.nil _ _ _
    · rw [k3]
    · rw [k3]
    · rw [k3]; rfl
    · rcases e with e | e | e
      · omega
      · omega
      · cases e
  have HWk : Hid (∀ s p S w1, WkN J 0 w (fun k => w.heap.size ≤ k) s p S N w1 → Calls Tryz.prog 15 #[.pointer (some ⟨s, 0, none⟩), v] w1 fun e w2 => e = .returned (.tuple #[]) ∧ Hid (WkN J (0 + os.length) w (fun k => w.heap.size ≤ k) s p S N w2)) := by
    intro s p S w1 h1
    obtain ⟨x, d, hp, hx, hn', ho⟩ := h1
    refine (workN_any hJ v os w hsc (fun k hk e => by omega) (fun k hk => Nat.le_trans ho.size hk) ho ⟨x, d, hp, hx, hn', Only.refl _ _⟩ (by have := hsc.2.1; omega) (fun _ _ _ => trivial)).mono ?_
    rintro e w2 ⟨rfl, x2, d2, hp2, hx2, hn2, ho2⟩
    exact ⟨rfl, x2, d2, hp2, hx2, hn2, ho.trans ho2 (fun _ _ e => e)⟩
  have HNw : Hid (Calls Tryz.prog 7 _ _ _) := hnw
  obtain ⟨B0, hB0⟩ : ∃ B0, B0 = w.heap.size := ⟨_, rfl⟩
  rw [← hB0] at HF HWk HNw ⊢
  have HB : Hid (B0 = w.heap.size) := hB0
  have HSC : Hid (∃ a c, v = .slice a os.length c) := hsc.form
  have HLN : Hid (os.length ≤ 140737488351232) := hsc.2.1
  clear hnw hB0 hsc k1 k2 k3
  obtain ⟨a, c, rfl⟩ := HSC.out
  clear HSC
  by_cases hc : n < 12 ∨ 400 < n
  · have e80 : N = 80 := by rw [← hn]; unfold secsN; rw [if_pos hc]
    subst e80
    rcases hc with hc | hc
    · go_enter Tryz.func13, Tryz.ntmps13
      go_wp2_with fail
      refine (show Calls Tryz.prog 7 _ _ _ from HNw.out).mono ?_
      rintro e w1 ⟨rfl, hd1, ho1, hs1⟩
      clear HNw
      have HFm : Hid (Calls Tryz.prog 24 _ _ _) := HF.out w1 hd1 ho1 hs1
      clear hd1 ho1 hs1 HF
      go_wp2_with fail
      refine (show Calls Tryz.prog 24 _ _ _ from HFm.out).mono ?_
      rintro e w2 ⟨s, rfl, HW2⟩
      clear HFm
      have HWo : Hid (Calls Tryz.prog 15 _ _ _) := HWk.out s _ _ w2 HW2.out.1
      have hs0 := HW2.out.2
      clear HWk HW2
      go_wp2_with fail
      refine (show Calls Tryz.prog 15 _ _ _ from HWo.out).mono ?_
      rintro e w3 ⟨rfl, HW3⟩
      clear HWo
      have HCm : Hid (Calls Tryz.prog 18 #[.pointer (some ⟨s, 0, none⟩)] w3 fun e w4 => ∃ r, e = .returned (.int .i64 r) ∧ Hid (WkN J (0 + os.length + 1) w (fun k => B0 ≤ k) s (B0 + 1) B0 80 w4 ∧ (r = 0 → WkE J (0 + os.length + 1) w (fun k => B0 ≤ k) s (B0 + 1) B0 80 w4))) := by
        obtain ⟨x, d, hp, hx, hn', ho⟩ := HW3.out
        exact commit_we hJ hx trivial (by have := HLN.out; omega) hp (fun k hk => by have := ho.size; have := HB.out; omega) hn' ho
      clear HW3
      go_wp2_with fail
      refine (show Calls Tryz.prog 18 _ _ _ from HCm.out).mono ?_
      rintro e w4 ⟨r, rfl, HW4⟩
      clear HCm
      by_cases hr : r = 0
      · subst hr
        go_wp2
        go_ret2
        exact ⟨_, s, B0, rfl, WkE.idle hJ (by simpa using HW4.out.2 (by first | rfl | trivial)), hs0⟩
      · have hr' : (r == 0) = false := by simpa using hr
        have HRo : Hid (Calls Tryz.prog 23 #[.pointer (some ⟨s, 0, none⟩)] w4 fun e w5 => ∃ r, e = .returned (.int .i64 r) ∧ Hid (WkE J (0 + os.length + 1 + 1) w (fun k => B0 ≤ k) s (B0 + 1) B0 80 w5)) := by
          obtain ⟨x, d, hp, hx, hn', ho⟩ := HW4.out.1
          exact roll_we hJ hx hp (fun k hk => by have := ho.size; have := HB.out; omega) hn' ho
        clear HW4
        go_wp2_with fail
        refine (show Calls Tryz.prog 23 _ _ _ from HRo.out).mono ?_
        rintro e w5 ⟨r5, rfl, HW5⟩
        clear HRo
        go_wp2
        go_ret2
        exact ⟨_, s, B0, rfl, by simpa using HW5.out, hs0⟩
    · have hc0 : ¬ n < 12 := by omega
      go_enter Tryz.func13, Tryz.ntmps13
      go_wp2_with fail
      refine (show Calls Tryz.prog 7 _ _ _ from HNw.out).mono ?_
      rintro e w1 ⟨rfl, hd1, ho1, hs1⟩
      clear HNw
      have HFm : Hid (Calls Tryz.prog 24 _ _ _) := HF.out w1 hd1 ho1 hs1
      clear hd1 ho1 hs1 HF
      go_wp2_with fail
      refine (show Calls Tryz.prog 24 _ _ _ from HFm.out).mono ?_
      rintro e w2 ⟨s, rfl, HW2⟩
      clear HFm
      have HWo : Hid (Calls Tryz.prog 15 _ _ _) := HWk.out s _ _ w2 HW2.out.1
      have hs0 := HW2.out.2
      clear HWk HW2
      go_wp2_with fail
      refine (show Calls Tryz.prog 15 _ _ _ from HWo.out).mono ?_
      rintro e w3 ⟨rfl, HW3⟩
      clear HWo
      have HCm : Hid (Calls Tryz.prog 18 #[.pointer (some ⟨s, 0, none⟩)] w3 fun e w4 => ∃ r, e = .returned (.int .i64 r) ∧ Hid (WkN J (0 + os.length + 1) w (fun k => B0 ≤ k) s (B0 + 1) B0 80 w4 ∧ (r = 0 → WkE J (0 + os.length + 1) w (fun k => B0 ≤ k) s (B0 + 1) B0 80 w4))) := by
        obtain ⟨x, d, hp, hx, hn', ho⟩ := HW3.out
        exact commit_we hJ hx trivial (by have := HLN.out; omega) hp (fun k hk => by have := ho.size; have := HB.out; omega) hn' ho
      clear HW3
      go_wp2_with fail
      refine (show Calls Tryz.prog 18 _ _ _ from HCm.out).mono ?_
      rintro e w4 ⟨r, rfl, HW4⟩
      clear HCm
      by_cases hr : r = 0
      · subst hr
        go_wp2
        go_ret2
        exact ⟨_, s, B0, rfl, WkE.idle hJ (by simpa using HW4.out.2 (by first | rfl | trivial)), hs0⟩
      · have hr' : (r == 0) = false := by simpa using hr
        have HRo : Hid (Calls Tryz.prog 23 #[.pointer (some ⟨s, 0, none⟩)] w4 fun e w5 => ∃ r, e = .returned (.int .i64 r) ∧ Hid (WkE J (0 + os.length + 1 + 1) w (fun k => B0 ≤ k) s (B0 + 1) B0 80 w5)) := by
          obtain ⟨x, d, hp, hx, hn', ho⟩ := HW4.out.1
          exact roll_we hJ hx hp (fun k hk => by have := ho.size; have := HB.out; omega) hn' ho
        clear HW4
        go_wp2_with fail
        refine (show Calls Tryz.prog 23 _ _ _ from HRo.out).mono ?_
        rintro e w5 ⟨r5, rfl, HW5⟩
        clear HRo
        go_wp2
        go_ret2
        exact ⟨_, s, B0, rfl, by simpa using HW5.out, hs0⟩
  · have hc1 : ¬ n < 12 := by omega
    have hc2 : ¬ 400 < n := by omega
    have en : n = (N : Int) := by rw [← hn]; unfold secsN; rw [if_neg hc]; omega
    subst en
    clear hc hn
    go_enter Tryz.func13, Tryz.ntmps13
    go_wp2_with fail
    refine (show Calls Tryz.prog 7 _ _ _ from HNw.out).mono ?_
    rintro e w1 ⟨rfl, hd1, ho1, hs1⟩
    clear HNw
    have HFm : Hid (Calls Tryz.prog 24 _ _ _) := HF.out w1 hd1 ho1 hs1
    clear hd1 ho1 hs1 HF
    go_wp2_with fail
    refine (show Calls Tryz.prog 24 _ _ _ from HFm.out).mono ?_
    rintro e w2 ⟨s, rfl, HW2⟩
    clear HFm
    have HWo : Hid (Calls Tryz.prog 15 _ _ _) := HWk.out s _ _ w2 HW2.out.1
    have hs0 := HW2.out.2
    clear HWk HW2
    go_wp2_with fail
    refine (show Calls Tryz.prog 15 _ _ _ from HWo.out).mono ?_
    rintro e w3 ⟨rfl, HW3⟩
    clear HWo
    have HCm : Hid (Calls Tryz.prog 18 #[.pointer (some ⟨s, 0, none⟩)] w3 fun e w4 => ∃ r, e = .returned (.int .i64 r) ∧ Hid (WkN J (0 + os.length + 1) w (fun k => B0 ≤ k) s (B0 + 1) B0 N w4 ∧ (r = 0 → WkE J (0 + os.length + 1) w (fun k => B0 ≤ k) s (B0 + 1) B0 N w4))) := by
      obtain ⟨x, d, hp, hx, hn', ho⟩ := HW3.out
      exact commit_we hJ hx trivial (by have := HLN.out; omega) hp (fun k hk => by have := ho.size; have := HB.out; omega) hn' ho
    clear HW3
    go_wp2_with fail
    refine (show Calls Tryz.prog 18 _ _ _ from HCm.out).mono ?_
    rintro e w4 ⟨r, rfl, HW4⟩
    clear HCm
    by_cases hr : r = 0
    · subst hr
      go_wp2
      go_ret2
      exact ⟨_, s, B0, rfl, WkE.idle hJ (by simpa using HW4.out.2 (by first | rfl | trivial)), hs0⟩
    · have hr' : (r == 0) = false := by simpa using hr
      have HRo : Hid (Calls Tryz.prog 23 #[.pointer (some ⟨s, 0, none⟩)] w4 fun e w5 => ∃ r, e = .returned (.int .i64 r) ∧ Hid (WkE J (0 + os.length + 1 + 1) w (fun k => B0 ≤ k) s (B0 + 1) B0 N w5)) := by
        obtain ⟨x, d, hp, hx, hn', ho⟩ := HW4.out.1
        exact roll_we hJ hx hp (fun k hk => by have := ho.size; have := HB.out; omega) hn' ho
      clear HW4
      go_wp2_with fail
      refine (show Calls Tryz.prog 23 _ _ _ from HRo.out).mono ?_
      rintro e w5 ⟨r5, rfl, HW5⟩
      clear HRo
      go_wp2
      go_ret2
      exact ⟨_, s, B0, rfl, by simpa using HW5.out, hs0⟩
end Go.Proofs.YtpoakkdkibameaaGreat
namespace Go.Proofs.YtpoakkdkibameaaGreat
set_option linter.unusedVariables false

/-- The number that stands in zs from p on, i of its bytes read: they came to n. -/
def rdF (zs : List Nat) (p : Nat) : Nat → Nat → Nat → Option (Nat × Nat)
  | 0, _, _ => none
  | f + 1, i, n =>
    match zs[p + i]? with
    | none => none
    | some c => if c < 128 then (if c = 0 ∧ 0 < i then none else some (n + c % 128 * 2 ^ (7 * i), p + i + 1)) else rdF zs p f (i + 1) (n + c % 128 * 2 ^ (7 * i))
def rd (zs : List Nat) (p i n : Nat) : Option (Nat × Nat) := rdF zs p (9 - i) i n
theorem rd_open {zs : List Nat} {p i n : Nat} (h : i < 9) : rd zs p i n = match zs[p + i]? with
    | none => none
    | some c => if c < 128 then (if c = 0 ∧ 0 < i then none else some (n + c % 128 * 2 ^ (7 * i), p + i + 1)) else rd zs p (i + 1) (n + c % 128 * 2 ^ (7 * i)) := by
  unfold rd
  rw [show 9 - i = (9 - (i + 1)) + 1 by omega]
  rfl
theorem rd_nine {zs : List Nat} {p i n : Nat} (h : ¬ i < 9) : rd zs p i n = none := by
  unfold rd
  rw [show 9 - i = 0 by omega]
  rfl
theorem rd_end {zs : List Nat} {p i n : Nat} (h : i < 9) (hz : zs.length ≤ p + i) : rd zs p i n = none := by rw [rd_open h, List.getElem?_eq_none hz]
theorem rd_last {zs : List Nat} {p i n c : Nat} (h : i < 9) (hz : p + i < zs.length) (hc : zs.getD (p + i) 0 = c) (hc2 : c < 128) : rd zs p i n = if c = 0 ∧ 0 < i then none else some (n + c % 128 * 2 ^ (7 * i), p + i + 1) := by
  have : zs[p + i]? = some c := by
    rw [← hc]; simp [List.getD, hz]
  rw [rd_open h, this]
  simp only
  rw [if_pos hc2]
theorem rd_more {zs : List Nat} {p i n c : Nat} (h : i < 9) (hz : p + i < zs.length) (hc : zs.getD (p + i) 0 = c) (hc2 : ¬ c < 128) : rd zs p i n = rd zs p (i + 1) (n + c % 128 * 2 ^ (7 * i)) := by
  have : zs[p + i]? = some c := by
    rw [← hc]; simp [List.getD, hz]
  rw [rd_open h, this]
  simp only
  rw [if_neg hc2]
theorem step_lt {n c i : Nat} (h : n < 2 ^ (7 * i)) : n + c % 128 * 2 ^ (7 * i) < 2 ^ (7 * (i + 1)) := by
  have e : 2 ^ (7 * (i + 1)) = 128 * 2 ^ (7 * i) := by rw [show 7 * (i + 1) = 7 * i + 7 by omega, Nat.pow_add]; omega
  have h2 : c % 128 + 1 ≤ 128 := by omega
  have h3 := Nat.mul_le_mul_right (2 ^ (7 * i)) h2
  rw [Nat.add_mul, Nat.one_mul] at h3
  omega
theorem pow_le {i : Nat} (h : i ≤ 9) : 2 ^ (7 * i) ≤ 9223372036854775808 := by
  have : 2 ^ (7 * i) ≤ 2 ^ 63 := Nat.pow_le_pow_right (by decide) (by omega)
  omega
/-- What is read stands within the bytes, and is below 2^63. -/
theorem rd_some {zs : List Nat} {p : Nat} : ∀ (f i n : Nat) {m q : Nat}, f + i = 9 → n < 2 ^ (7 * i) → rd zs p i n = some (m, q) → m < 9223372036854775808 ∧ p < q ∧ q ≤ zs.length
  | 0, i, n, m, q, hf, hn, h => by rw [rd_nine (by omega)] at h; cases h
  | f + 1, i, n, m, q, hf, hn, h => by
    by_cases hz : p + i < zs.length
    · have hs := step_lt (c := zs.getD (p + i) 0) hn
      have hp := pow_le (i := i + 1) (by omega)
      by_cases hc : zs.getD (p + i) 0 < 128
      · rw [rd_last (by omega) hz rfl hc] at h
        split at h
        · cases h
        · simp only [Option.some.injEq, Prod.mk.injEq] at h
          obtain ⟨rfl, rfl⟩ := h
          exact ⟨by omega, by omega, by omega⟩
      · rw [rd_more (by omega) hz rfl hc] at h
        exact rd_some f (i + 1) _ (by omega) hs h
    · rw [rd_end (by omega) (by omega)] at h; cases h
end Go.Proofs.YtpoakkdkibameaaGreat
namespace Go.Proofs.YtpoakkdkibameaaGreat
open Go.RowKit
set_option linter.unusedSimpArgs false
set_option linter.unusedVariables false

theorem bandn8 (c : Nat) (h : c < 256) : bits .andNot .u8 (c : Int) 128 = ((c % 128 : Nat) : Int) := by
  have k : ∀ c : Fin 256, bits .andNot .u8 ((c.val : Nat) : Int) 128 = ((c.val % 128 : Nat) : Int) := by decide +kernel
  exact k ⟨c, h⟩
theorem bor64 (m e s : Nat) (hm : m < 2 ^ s) (hb : m + e * 2 ^ s < 18446744073709551616) : bits .or .u64 (m : Int) ((e * 2 ^ s : Nat) : Int) = ((m + e * 2 ^ s : Nat) : Int) := by
  rw [bits_or_u64_nat m (e * 2 ^ s) (by omega) (by omega)]
  rw [Nat.or_comm, Nat.mul_comm e, ← Nat.two_pow_add_eq_or_of_lt hm, Nat.add_comm]

set_option maxHeartbeats 400000 in
theorem take_end (N Bb : Nat) (a : Option Addr) (n c : Nat) (w : World) (h0 : w.cell? ⟨N, 0, none⟩ = some (.int .i64 n)) (h1 : w.cell? ⟨Bb, 0, none⟩ = some (.slice a n c)) :
    Calls Tryz.prog 135 #[.pointer (some ⟨N, 0, none⟩), .pointer (some ⟨Bb, 0, none⟩)] w fun e w' => e = .returned (.tuple #[.int .u8 0, .bool false]) ∧ w' = w := by
  go_enter Tryz.func135, Tryz.ntmps135
  go_wp2
  go_ret2
  exact ⟨rfl, rfl⟩
set_option maxHeartbeats 400000 in
theorem take_more (N Bb g o n c k : Nat) (z : Int) (w : World) (hk : (k : Int) < n) (hn : n ≤ 140737488355328) (h0 : w.cell? ⟨N, 0, none⟩ = some (.int .i64 k)) (hf : w.frozen? ⟨N, 0, none⟩ = false) (h1 : w.cell? ⟨Bb, 0, none⟩ = some (.slice (some ⟨g, o, none⟩) n c)) (h2 : w.cell? ⟨g, o + k, none⟩ = some (.int .u8 z)) (hN : Bb ≠ N) (hg : g ≠ N) :
    Calls Tryz.prog 135 #[.pointer (some ⟨N, 0, none⟩), .pointer (some ⟨Bb, 0, none⟩)] w fun e w' => e = .returned (.tuple #[.int .u8 z, .bool true]) ∧ w' = w.setCell ⟨N, 0, none⟩ (.int .i64 ((k : Int) + 1)) := by
  have hne : ((k : Int) == (n : Int)) = false := by simp; omega
  have e1 : (w.setCell ⟨N, 0, none⟩ (.int .i64 ((k : Int) + 1))).cell? ⟨N, 0, none⟩ = some (.int .i64 ((k : Int) + 1)) := World.cell?_setCell_same _ _ _ h0
  have e2 : (w.setCell ⟨N, 0, none⟩ (.int .i64 ((k : Int) + 1))).cell? ⟨Bb, 0, none⟩ = some (.slice (some ⟨g, o, none⟩) n c) := by rw [World.cell?_setCell_other _ _ _ _ (by simp [hN])]; exact h1
  have e3 : (w.setCell ⟨N, 0, none⟩ (.int .i64 ((k : Int) + 1))).cell? ⟨g, o + k, none⟩ = some (.int .u8 z) := by rw [World.cell?_setCell_other _ _ _ _ (by simp [hg])]; exact h2
  have k0 : (0 : Int) ≤ (k : Int) := by omega
  clear h2 hN hg
  go_enter Tryz.func135, Tryz.ntmps135
  go_wp2
  go_ret2
  exact ⟨rfl, rfl⟩

/-- What 'number' answers. -/
def NumIs (r : Option (Nat × Nat)) (N : Nat) (e : Ending) (w' : World) : Prop :=
  (∃ m q, r = some (m, q) ∧ e = .returned (.tuple #[.int .u64 (m : Nat), .bool true]) ∧ w'.cell? ⟨N, 0, none⟩ = some (.int .i64 (q : Nat))) ∨
  (∃ x y : Int, r = none ∧ e = .returned (.tuple #[.int .u64 x, .bool false]) ∧ w'.cell? ⟨N, 0, none⟩ = some (.int .i64 y))
theorem frozen_set (w : World) (a b : Addr) (u : Value) : (w.setCell a u).frozen? b = w.frozen? b := by simp

set_option maxRecDepth 100000 in
set_option maxHeartbeats 2000000 in
theorem numb_any (N Bb p : Nat) (v : Value) (zs : List Nat) (w : World) (h : BytesAt w v zs) (hp : p ≤ zs.length) (h0 : w.cell? ⟨N, 0, none⟩ = some (.int .i64 p)) (hf : w.frozen? ⟨N, 0, none⟩ = false) (h1 : w.cell? ⟨Bb, 0, none⟩ = some v) (hN : Bb ≠ N) (hg : 0 < zs.length → ∀ b, v.ownBlock = some b → b ≠ N) :
    Calls Tryz.prog 134 #[.func (.func 135) #[] #[.pointer (some ⟨N, 0, none⟩), .pointer (some ⟨Bb, 0, none⟩)]] w fun e w' => NumIs (rd zs p 0 0) N e w' ∧ w'.frozen? ⟨N, 0, none⟩ = false ∧ Only (fun i => i = N) w w' := by
  obtain ⟨a, c, rfl, hcap, hc⟩ := h.form
  have hlt := h.2.2
  have HL : Hid (∀ z ∈ zs, z < 256) := hlt
  have HC : Hid _ := hc
  obtain ⟨n, hn⟩ : ∃ m, m = zs.length := ⟨_, rfl⟩
  have HM : Hid (n = zs.length) := hn
  have hn2 : n ≤ 140737488355328 := hn ▸ h.2.1
  rw [← hn] at h1 hp
  have HG : Hid (0 < zs.length → ∀ b, (Value.slice a zs.length c).ownBlock = some b → b ≠ N) := hg
  have H1 : Hid (w.cell? ⟨Bb, 0, none⟩ = some (.slice a n c)) := h1
  have H0 : Hid (w.cell? ⟨N, 0, none⟩ = some (.int .i64 p)) := h0
  have HFZ : Hid (w.frozen? ⟨N, 0, none⟩ = false) := hf
  clear h hc hlt hn hcap hg h1 h0 hf
  go_enter Tryz.func134, Tryz.ntmps134
  go_wp2_with fail
  go_loopw [4, 5] (fun r t wr => ∃ i m : Nat, i ≤ 9 ∧ p + i ≤ n ∧ t = .int .i64 ((7 * i : Nat) : Int) ∧ r = .int .u64 (m : Nat) ∧ m < 2 ^ (7 * i) ∧ rd zs p i m = rd zs p 0 0 ∧ wr.cell? ⟨N, 0, none⟩ = some (.int .i64 ((p + i : Nat) : Int)) ∧ wr.frozen? ⟨N, 0, none⟩ = false ∧ Only (fun i => i = N) w wr) (fun _ t _ => 63 - (intOf t).toNat)
  case atStart => exact ⟨0, 0, by omega, by omega, rfl, rfl, by decide, rfl, H0.out, HFZ.out, Only.refl _ _⟩
  case round =>
    obtain ⟨i, m, hi, hpi, rfl, rfl, hm, hrd, hcN, hfN, ho⟩ := hrel
    obtain ⟨w2, rfl⟩ : ∃ w2, w2 = wr := ⟨_, rfl⟩
    have HRD : Hid (rd zs p i m = rd zs p 0 0) := hrd
    have HO : Hid (Only (fun i => i = N) w w2) := ho
    have hcB := ho.cell H1.out (by simpa using hN)
    have HCN : Hid (w2.cell? ⟨N, 0, none⟩ = some (.int .i64 ((p + i : Nat) : Int))) := hcN
    have HFN : Hid (w2.frozen? ⟨N, 0, none⟩ = false) := hfN
    have HMM : Hid (m < 2 ^ (7 * i)) := hm
    obtain ⟨s, hs⟩ : ∃ s, s = 7 * i := ⟨_, rfl⟩
    obtain ⟨k, hk⟩ : ∃ k, k = p + i := ⟨_, rfl⟩
    rw [← hs]
    rw [← hk] at hcN
    have HS : Hid (s = 7 * i) := hs
    have HK : Hid (k = p + i) := hk
    by_cases hi9 : i < 9
    · have s0 : (0 : Int) ≤ (s : Int) := by omega
      have s1 : (s : Int) < 63 := by omega
      by_cases hz : p + i < n
      · obtain ⟨g, o, rfl, hcell⟩ := HC.out k (by have := HM.out; omega)
        have hgN : g ≠ N := HG.out (by have := HM.out; omega) g rfl
        have hcell2 := ho.cell hcell (by simpa using hgN)
        have hc8 := getD_lt HL.out k
        have hkz : zs.getD (p + i) 0 = zs.getD k 0 := by rw [hk]
        obtain ⟨z, hzz⟩ : ∃ z, z = zs.getD k 0 := ⟨_, rfl⟩
        rw [← hzz] at hc8 hcell2 hkz
        have T1 := take_more N Bb g o n c k z w2 (by omega) hn2 hcN hfN hcB hcell2 hN hgN
        have han := bandn8 z hc8
        have hst := step_lt (c := z) hm
        have hpw := pow_le (i := i + 1) (by omega)
        rw [← hs] at hst hm
        obtain ⟨e, he⟩ : ∃ e, e = z % 128 := ⟨_, rfl⟩
        have hbo := bor64 m e s hm (by rw [he]; omega)
        rw [← he] at han hst
        obtain ⟨d, hd⟩ : ∃ d, d = e * 2 ^ s := ⟨_, rfl⟩
        rw [← hd] at hbo hst
        have he8 : e < 128 := by omega
        have hd2 : (e : Int) * 2 ^ s = (d : Int) := by rw [hd]; simp
        have hdlt : d < 9223372036854775808 := by omega
        have hwr : IntKind.u64.wrap (d : Int) = (d : Int) := by simp [IntKind.wrap, IntKind.bits, IntKind.signed]; omega
        have HD : Hid (m + z % 128 * 2 ^ (7 * i) = m + d) := (by rw [hd, he, hs] : m + z % 128 * 2 ^ (7 * i) = m + d)
        have HO2 : Hid (Only (fun i => i = N) w (w2.setCell ⟨N, 0, none⟩ (.int .i64 ((k : Int) + 1)))) := ho.setCell _ _ (fun _ => rfl)
        have HC2 : Hid ((w2.setCell ⟨N, 0, none⟩ (.int .i64 ((k : Int) + 1))).cell? ⟨N, 0, none⟩ = some (.int .i64 ((k : Int) + 1))) := World.cell?_setCell_same _ _ _ hcN
        have HF2 : Hid ((w2.setCell ⟨N, 0, none⟩ (.int .i64 ((k : Int) + 1))).frozen? ⟨N, 0, none⟩ = false) := (frozen_set _ _ _ _).trans hfN
        have HST : Hid (m + d < 2 ^ (7 * (i + 1))) := hst
        have HKZ : Hid (zs.getD (p + i) 0 = z) := hkz
        clear hcell hcell2 hcB hcN hfN ho hrd hzz hd he hst hs hk hkz hpw hm
        by_cases hc1 : z < 128
        · have z1 : (z : Int) < 128 := by omega
          have HL : Hid _ := rd_last (n := m) hi9 (HM.out ▸ hz) HKZ.out hc1
          by_cases hz0 : z = 0
          · have zz : ((z : Int) != 0) = false := by simp [hz0]
            have HZ0 : Hid (z = 0) := hz0
            clear hz0
            by_cases hi0 : i = 0
            · have ss : ((s : Int) == 0) = true := by have := HS.out; simp; omega
              have HI0 : Hid (i = 0) := hi0
              clear hi0
              go_wp2_with (go_at_call 135; refine T1.mono ?_; rintro e' w3 ⟨rfl, rfl⟩)
              go_ret2
              refine ⟨.inl ⟨m + d, p + i + 1, ?_, rfl, ?_⟩, HF2.out, HO2.out⟩
              · rw [← HRD.out, HL.out, if_neg (by have := HI0.out; omega), HD.out]
              · rw [HC2.out, HK.out]; rfl
            · have ss : ((s : Int) == 0) = false := by have := HS.out; simp; omega
              go_wp2_with (go_at_call 135; refine T1.mono ?_; rintro e' w3 ⟨rfl, rfl⟩)
              go_ret2
              refine ⟨.inr ⟨_, _, ?_, rfl, HC2.out⟩, HF2.out, HO2.out⟩
              rw [← HRD.out, HL.out, if_pos ⟨HZ0.out, by omega⟩]
          · have zz : ((z : Int) != 0) = true := by simp [hz0]
            go_wp2_with (go_at_call 135; refine T1.mono ?_; rintro e' w3 ⟨rfl, rfl⟩)
            go_ret2
            refine ⟨.inl ⟨m + d, p + i + 1, ?_, rfl, ?_⟩, HF2.out, HO2.out⟩
            · rw [← HRD.out, HL.out, if_neg (by omega), HD.out]
            · rw [HC2.out, HK.out]; rfl
        · have z1 : ¬ (z : Int) < 128 := by omega
          go_wp2_with (go_at_call 135; refine T1.mono ?_; rintro e' w3 ⟨rfl, rfl⟩)
          go_roundw
          case rel =>
            refine ⟨i + 1, m + d, by omega, by omega, ?_, rfl, HST.out, ?_, ?_, HF2.out, HO2.out⟩
            · have := HS.out
              rw [this]
              go_num
            · rw [← HRD.out, rd_more hi9 (HM.out ▸ hz) HKZ.out hc1, HD.out]
            · rw [HC2.out, HK.out]; rfl
          case measure => simp [intOf]; have := HS.out; omega
      · obtain rfl : k = n := by omega
        have T0 := take_end N Bb a k c w2 hcN hcB
        clear hcB hcN hfN ho hrd hs hk hm
        go_wp2_with (go_at_call 135; refine T0.mono ?_; rintro e' w3 ⟨rfl, rfl⟩)
        go_ret2
        refine ⟨.inr ⟨_, _, ?_, rfl, HCN.out⟩, HFN.out, HO.out⟩
        rw [← HRD.out, rd_end hi9 (by have := HM.out; omega)]
    · obtain rfl : i = 9 := by omega
      obtain rfl : s = 63 := by omega
      clear hcB hcN hfN ho hrd hs hk hm
      go_wp2
      go_ret2
      refine ⟨.inr ⟨_, _, ?_, rfl, HCN.out⟩, HFN.out, HO.out⟩
      rw [← HRD.out, rd_nine (by omega)]
end Go.Proofs.YtpoakkdkibameaaGreat
namespace Go.Proofs.YtpoakkdkibameaaGreat
open Go.RowKit
set_option linter.unusedSimpArgs false
set_option linter.unusedVariables false

/-- The number that bytes are, the lowest first. -/
def nof (zs : List Nat) : Nat := acc4 zs 0 zs.length
theorem nof_lt {zs : List Nat} (h : ∀ z ∈ zs, z < 256) : nof zs < 2 ^ (8 * zs.length) := acc4_lt h 0 _
set_option maxRecDepth 100000 in
set_option maxHeartbeats 1000000 in
theorem snum_any (v : Value) (zs : List Nat) (w : World) (h : BytesAt w v zs) (h8 : zs.length ≤ 8) :
    Calls Tryz.prog 114 #[v] w fun e w' => e = .returned (.int .u64 (nof zs : Nat)) ∧ w' = w := by
  obtain ⟨a, c, rfl, hcap, hc⟩ := h.form
  have HL : Hid (∀ z ∈ zs, z < 256) := h.2.2
  have HC : Hid _ := hc
  obtain ⟨n, hn⟩ : ∃ m, m = zs.length := ⟨_, rfl⟩
  have HM : Hid (n = zs.length) := hn
  rw [← hn]
  rw [← hn] at h8
  clear h hc hn hcap
  go_enter Tryz.func114, Tryz.ntmps114
  go_wp2
  go_loopw [3, 8] (fun r t wr => ∃ k : Nat, k ≤ n ∧ t = .int .i64 k ∧ r = .int .u64 (acc4 zs 0 k : Nat) ∧ w = wr) (fun _ t _ => n - (intOf t).toNat)
  case atStart => exact ⟨0, by omega, rfl, rfl, rfl⟩
  case round =>
    obtain ⟨k, hk, rfl, rfl, rfl⟩ := hrel
    by_cases hlt : k < n
    · have k1 : (k : Int) < (n : Int) := by omega
      have k0 : (0 : Int) ≤ (k : Int) := by omega
      have hm8 : IntKind.i64.wrap (8 * (k : Int)) = 8 * (k : Int) := by rw [IntKind.wrap_i64]; omega
      obtain ⟨s, hs⟩ : ∃ s, s = 8 * k := ⟨_, rfl⟩
      have hs8 : 8 * (k : Int) = (s : Int) := by omega
      rw [hs8] at hm8
      have HS8 : Hid (8 * (k : Int) = (s : Int)) := hs8
      have s1 : (s : Int) < 64 := by omega
      have s0 : (0 : Int) ≤ (s : Int) := by omega
      obtain ⟨g, o, rfl, hcell⟩ := HC.out k (by have := HM.out; omega)
      have hx := acc4_lt HL.out 0 k
      have hx1 := acc4_lt HL.out 0 (k + 1)
      have hpw : 2 ^ (8 * (k + 1)) ≤ 18446744073709551616 := Nat.le_trans (Nat.pow_le_pow_right (by omega) (show 8 * (k + 1) ≤ 64 by omega)) (by decide)
      have HS : Hid (acc4 zs 0 (k + 1) = acc4 zs 0 k + zs.getD (0 + k) 0 * 2 ^ (8 * k)) := rfl
      rw [HS.out] at hx1
      have hz := getD_lt HL.out (0 + k)
      rw [← hs] at hx hx1 HS
      rw [Nat.zero_add] at hz HS hx1
      obtain ⟨x, hxx⟩ : ∃ x, x = acc4 zs 0 k := ⟨_, rfl⟩
      obtain ⟨z, hzz⟩ : ∃ z, z = zs.getD k 0 := ⟨_, rfl⟩
      rw [← hxx, ← hzz] at HS hx1
      rw [← hxx] at hx
      rw [← hzz] at hz hcell
      rw [← hxx]
      have hb := bor64 x z s hx (by omega)
      obtain ⟨d, hd⟩ : ∃ d, d = z * 2 ^ s := ⟨_, rfl⟩
      rw [← hd] at hb HS hx1
      have hd2 : (z : Int) * 2 ^ s = (d : Int) := by rw [hd]; simp
      have hdl : d < 18446744073709551616 := by omega
      have hwr : IntKind.u64.wrap (d : Int) = (d : Int) := by rw [IntKind.wrap_u64]; omega
      clear hxx hzz hd hpw hx hx1 hs
      go_wp2
      go_roundw
      case rel => exact ⟨k + 1, by omega, by go_num, by rw [HS.out]; simp, trivial⟩
      case measure => simp [intOf]; omega
    · obtain rfl : k = n := by omega
      go_wp2
      go_ret
      exact ⟨by unfold nof; rw [← HM.out]; rfl, rfl⟩

theorem snum_hid (v : Value) (zs : List Nat) (w : World) (h : BytesAt w v zs) (h8 : zs.length ≤ 8) :
    Hid (Calls Tryz.prog 114 #[v] w fun e w' => e = .returned (.int .u64 (nof zs : Nat)) ∧ w' = w) := snum_any v zs w h h8
end Go.Proofs.YtpoakkdkibameaaGreat
namespace Go.Proofs.YtpoakkdkibameaaGreat
open Go.RowKit
set_option linter.unusedSimpArgs false
set_option linter.unusedVariables false

theorem piece_any (g o n c p s : Nat) (w : World) (h : p + s ≤ c) (hc : p + s ≤ 140737488355328) :
    Calls Tryz.prog 110 #[.slice (some ⟨g, o, none⟩) n c, .int .i64 p, .int .i64 s] w fun e w' => ∃ a, e = .returned (.slice a s s) ∧ (0 < s → a = some ⟨g, o + p, none⟩) ∧ w' = w := by
  by_cases hs : 0 < s
  · refine (piece_pos g o n c p s w h hs hc).mono ?_
    rintro e w' ⟨rfl, rfl⟩
    exact ⟨_, rfl, fun _ => rfl, rfl⟩
  · obtain rfl : s = 0 := by omega
    refine (piece_zero _ n c p w (by omega) (by omega)).mono ?_
    rintro e w' ⟨rfl, rfl⟩
    exact ⟨_, rfl, fun h => by omega, rfl⟩

/-- What Unpack answers of 128 bytes. -/
def UnpIs (r : Option (Nat × List Nat)) (w : World) (e : Ending) (w' : World) : Prop :=
  match r with
  | none => e = .returned (.tuple #[.int .u32 0, .slice none 0 0, .int .i64 5]) ∧ Only (fun _ => False) w w'
  | some (i, D) => ∃ u, e = .returned (.tuple #[.int .u32 (i : Nat), u, .int .i64 0]) ∧ Fresh w' w.heap.size u D ∧ Only (fun _ => False) w w'

set_option maxHeartbeats 400000 in
theorem unpack_len (a : Option Addr) (n c : Nat) (w : World) (h : n ≠ 128) :
    Calls Tryz.prog 142 #[.slice a n c] w fun e w' => e = .returned (.tuple #[.int .u32 0, .slice none 0 0, .int .i64 2]) ∧ w' = w := by
  have h1 : ((n : Int) != 128) = true := by simp; omega
  go_enter Tryz.func142, Tryz.ntmps142
  go_wp2
  go_ret3
  exact ⟨rfl, rfl⟩

theorem BytesAt.cut {w : World} {g o n c : Nat} {zs : List Nat} (h : BytesAt w (.slice (some ⟨g, o, none⟩) n c) zs) (p m c' : Nat) (hm : p + m ≤ zs.length) (hc : m ≤ c') : BytesAt w (.slice (some ⟨g, o + p, none⟩) m c') ((zs.drop p).take m) := by
  have e : ((zs.drop p).take m).length = m := by rw [List.length_take, List.length_drop]; omega
  obtain ⟨a, c2, hv, _, hcell⟩ := h.form
  simp only [Value.slice.injEq] at hv
  obtain ⟨rfl, _, rfl⟩ := hv
  refine ⟨.inr ⟨⟨g, o + p, none⟩, c', by rw [e], by omega, fun j hj => ?_⟩, by have := h.2.1; omega, fun z hz => h.2.2 z (List.mem_of_mem_drop (List.mem_of_mem_take hz))⟩
  rw [e] at hj
  obtain ⟨g', o', hv, hx⟩ := hcell (p + j) (by omega)
  simp only [Option.some.injEq, Addr.mk.injEq, and_true] at hv
  obtain ⟨rfl, rfl⟩ := hv
  rw [Addr.add_mid, Nat.add_assoc, hx]
  have : ((zs.drop p).take m).getD j 0 = zs.getD (p + j) 0 := by
    simp only [List.getD]
    rw [List.getElem?_take_of_lt (by omega), List.getElem?_drop]
  simp only [this]
theorem BytesAt.none {w : World} (a : Option Addr) (c : Nat) (h : a = Option.none → c = 0) : BytesAt w (.slice a 0 c) [] := by
  cases a with
  | none => rw [h rfl]; exact ⟨.inl ⟨rfl, rfl⟩, by simp, by simp⟩
  | some ad => exact ⟨.inr ⟨ad, c, rfl, by simp, fun j hj => by simp at hj⟩, by simp, by simp⟩

theorem splice_all {Z Y : List Nat} (h : Z.length = Y.length) : splice Z 0 Y = Y := by
  unfold splice
  rw [List.take_zero, List.nil_append, Nat.zero_add, ← h, List.drop_length, List.append_nil]
/-- copy into a block of bytes. -/
theorem copy_blk {W : World} {g : Nat} {zs : List Nat} (h : Blk W g zs) (o : Nat) (dp : Option Addr) (n c : Nat) (sp : Option Addr) (m c2 : Nat) (ys : List Nat) (hl : ys.length = min m n) (hy : ∀ z ∈ ys, z < 256) (ho : o + ys.length ≤ zs.length)
    (hd : 0 < ys.length → dp = some ⟨g, o, none⟩) (hs : 0 < ys.length → BytesAt W (.slice sp ys.length ys.length) ys) :
    ∃ w', (∀ ty, (Builtin.copy_ #[37, 37] ty #[.slice dp n c, .slice sp m c2]).run Tryz.prog W = .ok (.int .i64 (ys.length : Nat)) w') ∧ Blk w' g (splice zs o ys) ∧ Only (fun i => i = g) W w' := by
  by_cases h0 : ys.length = 0
  · obtain rfl : ys = [] := List.eq_nil_of_length_eq_zero h0
    refine ⟨W, fun ty => ?_, by simpa [splice] using h, Only.refl _ _⟩
    have := run_copy_none (P := Tryz.prog) W 37 37 ty 5 dp sp n c m c2 Tryz.underlying37 size5 (by simpa using hl.symm)
    rw [this]; rfl
  · obtain rfl := hd (by omega)
    obtain ⟨a', c', hv, _, hcell⟩ := (hs (by omega)).form
    simp only [Value.slice.injEq] at hv
    obtain ⟨rfl, _, rfl⟩ := hv
    obtain ⟨g', o', rfl, _⟩ := hcell 0 (by omega)
    have hrun := fun ty => run_copy_row (P := Tryz.prog) W 37 37 ty 5 g o n c ⟨g', o', none⟩ m c2 (BL zs).toArray 5 (BL ys) Tryz.underlying37 size5 h.1 (by rw [BL_length]; exact hl) (fun j u hu => by
      have hj : j < ys.length := by have := (List.getElem?_eq_some_iff.1 hu).1; rwa [BL_length] at this
      obtain ⟨g2, o2, e2, hx⟩ := hcell j hj
      simp only [Option.some.injEq, Addr.mk.injEq, and_true] at e2
      obtain ⟨rfl, rfl⟩ := e2
      rw [Addr.add_mid, hx]
      rw [BL_get _ _ hj] at hu
      rw [← hu]
      simp [List.getD, hj]) (by simp [BL_length]; exact ho) (BL_one ys)
    refine ⟨W.setRow g ((BL zs).toArray.toList.take o ++ (BL ys ++ (BL zs).toArray.toList.drop (o + (BL ys).length))).toArray, fun ty => (hrun ty).trans (by rw [BL_length]; simp [goInt]), ?_, ⟨rfl, rfl, rfl, by simp [World.setRow], fun k hk hn => setRow_other W g k _ (fun e => hn e)⟩⟩
    refine Blk.spliced h hy ho ?_
    exact setRow_heap W g _ _ 5 _ h.1

set_option maxRecDepth 100000 in
set_option maxHeartbeats 2000000 in
theorem unpack_any (v : Value) (b : List Nat) (w : World) (h : BytesAt w v b) (hb : b.length = 128) :
    Calls Tryz.prog 142 #[v] w fun e w' => UnpIs (unp b) w e w' := by
  obtain ⟨a, c, rfl, hcap, hc⟩ := h.form
  obtain ⟨g, o, rfl, _⟩ := hc 0 (by omega)
  rw [hb] at h hcap
  rw [hb]
  have HBY : Hid (BytesAt w (.slice (some ⟨g, o, none⟩) 128 c) b) := h
  have hd : BytesAt w.drew (.slice (some ⟨g, o, none⟩) 128 c) b := h.frame (Only.refl _ w).drew
  obtain ⟨x0, hx0⟩ : ∃ x, x = val4 b 0 := ⟨_, rfl⟩
  obtain ⟨x4, hx4⟩ : ∃ x, x = val4 b 4 := ⟨_, rfl⟩
  obtain ⟨s, hs⟩ : ∃ x, x = val4 b 8 := ⟨_, rfl⟩
  obtain ⟨y, hy⟩ : ∃ x, x = sumN (b.drop 4) := ⟨_, rfl⟩
  have HN0 : Hid (Calls Tryz.prog 154 #[.slice (some ⟨g, o, none⟩) 128 c, .int .i64 0] w.drew fun e w' => e = .returned (.int .u32 (x0 : Nat)) ∧ w' = w.drew) := by
    rw [hx0]; exact numat_any _ b 0 w.drew hd (by omega)
  have HS0 : Hid (Calls Tryz.prog 131 #[.slice (some ⟨g, o + 4, none⟩) 124 (c - 4)] w.drew fun e w' => e = .returned (.int .u32 (y : Nat)) ∧ w' = w.drew) := by
    rw [hy]
    have := hd.cut 4 124 (c - 4) (by omega) (by omega)
    rw [List.take_of_length_le (by rw [List.length_drop]; omega)] at this
    exact sum_any _ _ w.drew this
  have HU : Hid (unp b = if x0 = y then if 116 < s then none else if (b.drop (12 + s)).all (· == 0) then some (x4, (b.drop 12).take s) else none else none) := by rw [hx0, hy, hs, hx4]; rfl
  have HS8 : Hid (∀ w', Only (fun _ => False) w w' → Calls Tryz.prog 154 #[.slice (some ⟨g, o, none⟩) 128 c, .int .i64 8] w' fun e w2 => e = .returned (.int .u32 (s : Nat)) ∧ w2 = w') := fun w' ho => by
    rw [hs]; exact numat_any _ b 8 w' (HBY.out.frame ho) (by omega)
  have HS4 : Hid (∀ w', Only (fun _ => False) w w' → Calls Tryz.prog 154 #[.slice (some ⟨g, o, none⟩) 128 c, .int .i64 4] w' fun e w2 => e = .returned (.int .u32 (x4 : Nat)) ∧ w2 = w') := fun w' ho => by
    rw [hx4]; exact numat_any _ b 4 w' (HBY.out.frame ho) (by omega)
  have hs32 : s < 4294967296 := by rw [hs]; exact val4_lt h.2.2 8
  have HBL : Hid (b.length = 128) := hb
  have OD : Hid (Only (fun _ => False) w w.drew) := (Only.refl _ w).drew
  clear hc h hd hx0 hx4 hs hy hb
  have c1 : (4 : Int) ≤ (c : Int) := by omega
  go_enter Tryz.func142, Tryz.ntmps142
  go_wp2_with fail
  go_region_held3 (fun _ => True) (trivial) (first
    | (go_at_call 131; refine (show Calls Tryz.prog 131 _ _ _ from HS0.out).mono ?_; rintro e w' ⟨rfl, rfl⟩)
    | (go_at_call 154; refine (show Calls Tryz.prog 154 _ _ _ from HN0.out).mono ?_; rintro e w' ⟨rfl, rfl⟩))
  clear HN0 HS0
  by_cases hxy : x0 = y
  · have he : ((x0 : Int) != (y : Int)) = false := by simp [hxy]
    have HXY : Hid (x0 = y) := hxy
    clear hxy
    go_wp2_with fail
    refine (show Calls Tryz.prog 154 _ _ _ from HS8.out w.drew OD.out).mono ?_
    rintro e w1 ⟨rfl, rfl⟩
    clear HS8 he
    by_cases hlg : 116 < s
    · have s1 : (116 : Int) < (s : Int) := by omega
      go_wp2
      go_ret3
      show UnpIs (unp b) w _ _
      rw [HU.out, if_pos HXY.out, if_pos hlg]
      exact ⟨rfl, OD.out⟩
    · have s1 : ¬ (116 : Int) < (s : Int) := by omega
      have s2 : IntKind.i64.wrap (12 + (s : Int)) = 12 + (s : Int) := by rw [IntKind.wrap_i64]; omega
      have s3 : (12 : Int) + (s : Int) ≤ 128 := by omega
      have s4 : (0 : Int) ≤ 12 + (s : Int) := by omega
      have s5 : ((12 : Int) + (s : Int)).toNat = 12 + s := by omega
      have HU2 : Hid (unp b = if (b.drop (12 + s)).all (· == 0) then some (x4, (b.drop 12).take s) else none) := (by rw [HU.out, if_pos HXY.out, if_neg hlg] : _ = _)
      have hsd : BytesAt w.drew (.slice (some ⟨g, o, none⟩) 128 c) b := HBY.out.frame OD.out
      have hlen : (b.drop (12 + s)).length = 128 - (12 + s) := by rw [List.length_drop, HBL.out]
      have HAZ1 : Hid (Calls Tryz.prog 155 #[.slice (some ⟨g, o + (12 + s), none⟩) (128 - (12 + s)) (c - (12 + s))] w.drew fun e w' => e = .returned (.bool ((b.drop (12 + s)).all (· == 0))) ∧ w' = w.drew) := by
        have := hsd.cut (12 + s) (128 - (12 + s)) (c - (12 + s)) (by have := HBL.out; omega) (by omega)
        rw [List.take_of_length_le (by omega)] at this
        exact allzero_any _ _ _ this
      have HAZ2 : Hid (c = 12 + s → Calls Tryz.prog 155 #[.slice (some ⟨g, o, none⟩) (128 - (12 + s)) 0] w.drew fun e w' => e = .returned (.bool ((b.drop (12 + s)).all (· == 0))) ∧ w' = w.drew) := fun hcs => by
        have e0 : 128 - (12 + s) = 0 := by omega
        rw [e0] at hlen
        rw [e0, List.eq_nil_of_length_eq_zero hlen]
        exact allzero_any _ _ _ (BytesAt.none _ _ (fun h => by cases h))
      have HP : Hid (∀ w', Calls Tryz.prog 110 #[.slice (some ⟨g, o, none⟩) 128 c, .int .i64 12, .int .i64 s] w' fun e w2 => ∃ a, e = .returned (.slice a s s) ∧ (0 < s → a = some ⟨g, o + 12, none⟩) ∧ w2 = w') := fun w' => piece_any g o 128 c 12 s w' (by omega) (by omega)
      obtain ⟨M, hM⟩ : ∃ M, M = BL (List.replicate s 0) := ⟨_, rfl⟩
      have hmk := make_blk s (by omega) w.drew
      rw [← hM] at hmk
      have HM : Hid (M = BL (List.replicate s 0)) := hM
      have HML : Hid (M.length = s) := (by rw [hM, BL_length]; simp : _ = _)
      have hdl : ((b.drop 12).take s).length = s := by rw [List.length_take, List.length_drop, HBL.out]; omega
      have HDL : Hid (((b.drop 12).take s).length = s) := hdl
      have HOA : Hid (Only (fun _ => False) w (w.alloc (.cells M.toArray 5)).drew) := (OD.out.alloc _ : Only (fun _ => False) w (w.drew.alloc (.cells M.toArray 5)))
      have HBZ : Hid (Blk (w.alloc (.cells M.toArray 5)).drew w.heap.size (List.replicate s 0)) := by rw [hM]; exact (blk_zeros s (by omega) w.drew : Blk (w.drew.alloc _) w.heap.size _)
      have HBB : Hid (∀ z ∈ (b.drop 12).take s, z < 256) := fun z hz => HBY.out.2.2 z (List.mem_of_mem_drop (List.mem_of_mem_take hz))
      obtain ⟨q, hq⟩ : ∃ q, q = (b.drop (12 + s)).all (· == 0) := ⟨_, rfl⟩
      rw [← hq] at HAZ1 HAZ2 HU2
      have HUT : Hid (q = true → unp b = some (x4, (b.drop 12).take s)) := fun h => by rw [HU2.out, h]; rfl
      have HUF : Hid (q = false → unp b = none) := fun h => by rw [HU2.out, h]; rfl
      clear HU2
      clear hsd hlen hM hdl hq HU HXY hlg
      go_wp2_with fail
      case inl =>
        obtain rfl : c = 12 + s := by omega
        refine (show Calls Tryz.prog 155 _ _ _ from HAZ2.out rfl).mono ?_
        rintro e w1 ⟨rfl, rfl⟩
        clear HAZ1 HAZ2
        cases q with
        | false =>
          go_wp2
          go_ret3
          show UnpIs (unp b) w _ _
          rw [HUF.out (by first | rfl | trivial)]
          exact ⟨rfl, OD.out⟩
        | true =>
          go_wp2_with fail
          refine (show Calls Tryz.prog 110 _ _ _ from HP.out _).mono ?_
          rintro e w1 ⟨a, rfl, ha, rfl⟩
          have HA : Hid (0 < s → a = some ⟨g, o + 12, none⟩) := ha
          clear ha hmk
          obtain ⟨w3, hr3, hb3, ho3⟩ := copy_blk HBZ.out 0 (some ⟨w.heap.size, 0, none⟩) s s a s s ((b.drop 12).take s) (by have := HDL.out; omega) HBB.out (by have := HDL.out; simp; omega) (fun _ => rfl) (fun hp => by
            rw [HA.out (by have := HDL.out; omega), HDL.out]
            exact (HBY.out.frame HOA.out).cut 12 s s (by have := HBL.out; omega) (Nat.le_refl _))
          rw [HDL.out] at hr3
          have hcp := hr3 3
          have HE : Hid (Fresh w3 w.heap.size (.slice (some ⟨w.heap.size, 0, none⟩) s s) ((b.drop 12).take s) ∧ Only (fun _ => False) w w3) := by
            refine ⟨?_, HOA.out.trans ho3 (fun i hi e => by omega)⟩
            have e : splice (List.replicate s 0) 0 ((b.drop 12).take s) = (b.drop 12).take s := splice_all (by rw [HDL.out]; simp)
            rw [e] at hb3
            exact hb3.fresh s HDL.out.symm (Nat.le_refl _)
          clear hr3 hb3 ho3
          go_wp2_with fail
          refine (show Calls Tryz.prog 154 _ _ _ from HS4.out _ HE.out.2).mono ?_
          rintro e w4 ⟨rfl, rfl⟩
          go_wp2
          go_ret3
          show UnpIs (unp b) w _ _
          rw [HUT.out (by first | rfl | trivial)]
          exact ⟨_, rfl, HE.out⟩
      case inr =>
        refine (show Calls Tryz.prog 155 _ _ _ from HAZ1.out).mono ?_
        rintro e w1 ⟨rfl, rfl⟩
        clear HAZ1 HAZ2
        cases q with
        | false =>
          go_wp2
          go_ret3
          show UnpIs (unp b) w _ _
          rw [HUF.out (by first | rfl | trivial)]
          exact ⟨rfl, OD.out⟩
        | true =>
          go_wp2_with fail
          refine (show Calls Tryz.prog 110 _ _ _ from HP.out _).mono ?_
          rintro e w1 ⟨a, rfl, ha, rfl⟩
          have HA : Hid (0 < s → a = some ⟨g, o + 12, none⟩) := ha
          clear ha hmk
          obtain ⟨w3, hr3, hb3, ho3⟩ := copy_blk HBZ.out 0 (some ⟨w.heap.size, 0, none⟩) s s a s s ((b.drop 12).take s) (by have := HDL.out; omega) HBB.out (by have := HDL.out; simp; omega) (fun _ => rfl) (fun hp => by
            rw [HA.out (by have := HDL.out; omega), HDL.out]
            exact (HBY.out.frame HOA.out).cut 12 s s (by have := HBL.out; omega) (Nat.le_refl _))
          rw [HDL.out] at hr3
          have hcp := hr3 3
          have HE : Hid (Fresh w3 w.heap.size (.slice (some ⟨w.heap.size, 0, none⟩) s s) ((b.drop 12).take s) ∧ Only (fun _ => False) w w3) := by
            refine ⟨?_, HOA.out.trans ho3 (fun i hi e => by omega)⟩
            have e : splice (List.replicate s 0) 0 ((b.drop 12).take s) = (b.drop 12).take s := splice_all (by rw [HDL.out]; simp)
            rw [e] at hb3
            exact hb3.fresh s HDL.out.symm (Nat.le_refl _)
          clear hr3 hb3 ho3
          go_wp2_with fail
          refine (show Calls Tryz.prog 154 _ _ _ from HS4.out _ HE.out.2).mono ?_
          rintro e w4 ⟨rfl, rfl⟩
          go_wp2
          go_ret3
          show UnpIs (unp b) w _ _
          rw [HUT.out (by first | rfl | trivial)]
          exact ⟨_, rfl, HE.out⟩
  · have he : ((x0 : Int) != (y : Int)) = true := by simp; omega
    go_wp2
    go_ret3
    show UnpIs (unp b) w _ _
    rw [HU.out, if_neg hxy]
    exact ⟨rfl, OD.out⟩
end Go.Proofs.YtpoakkdkibameaaGreat
namespace Go.Proofs.YtpoakkdkibameaaGreat
open Go.RowKit
set_option linter.unusedSimpArgs false
set_option linter.unusedVariables false

set_option maxHeartbeats 400000 in
theorem pread_out (p S n c : Nat) (P : Int) (w : World) (hn : n ≤ 8192) (h0 : w.cell? ⟨p, 0, none⟩ = some (.slice (some ⟨S, 0, none⟩) n c)) (hP : P < 0 ∨ ((n / 4 : Nat) : Int) ≤ P) :
    Calls Tryz.prog 133 #[.pointer (some ⟨p, 0, none⟩), .int .i64 P] w fun e w' => e = .returned (.tuple #[.int .u32 0, .slice none 0 0, .int .i64 4]) ∧ w' = w := by
  have HR := preach_out p S n c P w hn h0 hP
  clear h0 hP
  go_enter Tryz.func133, Tryz.ntmps133
  go_wp2_with fail
  refine HR.mono ?_
  rintro e w1 ⟨rfl, rfl⟩
  go_wp2
  go_ret3
  exact ⟨rfl, rfl⟩
theorem splice_mid (A Y : List Nat) (k m : Nat) (hk : A.length = k) (hY : Y.length ≤ m) : splice (A ++ List.replicate m 0) k Y = (A ++ Y) ++ List.replicate (m - Y.length) 0 := by
  unfold splice
  subst hk
  rw [List.take_left', List.drop_append, List.drop_replicate]
  · rw [List.drop_eq_nil_of_le (by omega), List.nil_append, List.append_assoc, show m - (A.length + Y.length - A.length) = m - Y.length by omega]
  · rfl
/-- 32 bytes of a sector that was read. -/
theorem sec_bytes {w : World} {g c : Nat} {f : Nat → Int} (h : w.rangeAt g 0 (secL f)) (hc : 32 ≤ c) (hf : Byt f) : BytesAt w (.slice (some ⟨g, 0, none⟩) 32 c) (secN f) := by
  refine ⟨.inr ⟨⟨g, 0, none⟩, c, by rw [secN_length], by rw [secN_length]; exact hc, fun j hj => ?_⟩, by rw [secN_length]; omega, secN_lt hf⟩
  rw [secN_length, Nat.mul_one] at hj
  rw [Addr.add_mid]
  have := h j _ (secL_get f j hj)
  rw [this]
  show some _ = some (Value.int IntKind.u8 (((secN f).getD j 0 : Nat) : Int))
  rw [secN_getD f j hj]
  have := hf j
  simp only [Option.some.injEq, Value.int.injEq, true_and]
  omega

set_option maxRecDepth 100000 in
set_option maxHeartbeats 2000000 in
theorem pread_in (p S B : Nat) (P : Nat) (pv : Value) (d : DS) (w : World) (h : DiskAt w B p S pv d) (hP : P < d.n / 4) (hl : d.life ≠ 0) (hb : ByteD d) :
    Calls Tryz.prog 133 #[.pointer (some ⟨p, 0, none⟩), .int .i64 P] w fun e w' => UnpIs (unp (pgN d P 4)) w e w' := by
  obtain ⟨c0, hc0⟩ := h.c0
  have HR := preach_in p S d.n c0 P w h.n2 hc0 hP
  have n2 := h.n2
  have HD : Hid (DiskAt w B p S pv d) := h
  have HB : Hid (ByteD d) := hb
  have HL : Hid (d.life ≠ 0) := hl
  have HP : Hid (P < d.n / 4) := hP
  have hP2 : P < 2048 := by omega
  have hmk : (Instr.makeSlice 37 (.int .i64 128) (.int .i64 128)).run Tryz.prog w = .ok (.slice (some ⟨w.heap.size, 0, none⟩) 128 128) (w.alloc (.cells (BL (List.replicate 128 0)).toArray 5)) := make_blk 128 (by omega) w
  have hbz := blk_zeros 128 (by omega) w
  obtain ⟨M, hM⟩ : ∃ M, M = BL (List.replicate 128 0) := ⟨_, rfl⟩
  rw [← hM] at hmk hbz
  have HBZ : Hid (Blk (w.alloc (.cells M.toArray 5)) w.heap.size (List.replicate 128 0)) := hbz
  have HOA : Hid (Only (fun _ => False) w (w.alloc (.cells M.toArray 5))) := (Only.refl _ w).alloc _
  clear h hc0 hb hl hP hbz hM
  go_enter Tryz.func133, Tryz.ntmps133
  go_wp2_with fail
  refine HR.mono ?_
  rintro e w1 ⟨rfl, rfl⟩
  clear HR
  go_wp2_with fail
  clear hmk
  obtain ⟨g, hg⟩ : ∃ g, g = w1.heap.size := ⟨_, rfl⟩
  have HG : Hid (g = w1.heap.size) := hg
  rw [← hg] at HBZ
  rw [← hg]
  obtain ⟨w2, hw2⟩ : ∃ w2, w2 = w1.alloc (.cells M.toArray 5) := ⟨_, rfl⟩
  rw [← hw2] at HBZ HOA
  rw [← hw2]
  clear hg hw2
  go_loopw [19] (fun t wr => ∃ k : Nat, k ≤ 4 ∧ t = .int .i64 k ∧ Blk wr g (pgN d P k ++ List.replicate (128 - 32 * k) 0) ∧ Only (fun _ => False) w1 wr) (fun t _ => 4 - (intOf t).toNat)
  case atStart => exact ⟨0, by omega, rfl, HBZ.out, HOA.out⟩
  case round =>
    obtain ⟨k, hk, rfl, hbl, ho⟩ := hrel
    obtain ⟨w3, rfl⟩ : ∃ w3, w3 = wr := ⟨_, rfl⟩
    have HBL : Hid (Blk w3 g (pgN d P k ++ List.replicate (128 - 32 * k) 0)) := hbl
    have HO : Hid (Only (fun _ => False) w1 w3) := ho
    by_cases hlt : k < 4
    · have k1 : (k : Int) < 4 := by omega
      have m1 : IntKind.i64.wrap ((P : Int) * 4) = (P : Int) * 4 := by rw [IntKind.wrap_i64]; omega
      have m2 : IntKind.i64.wrap ((P : Int) * 4 + (k : Int)) = (P : Int) * 4 + (k : Int) := by rw [IntKind.wrap_i64]; omega
      have m3 : IntKind.i64.wrap ((k : Int) * 32) = (k : Int) * 32 := by rw [IntKind.wrap_i64]; omega
      obtain ⟨o, ho'⟩ : ∃ o, o = k * 32 := ⟨_, rfl⟩
      have m4 : (k : Int) * 32 = (o : Int) := by omega
      rw [m4] at m3
      obtain ⟨q, hq⟩ : ∃ q, q = 4 * P + k := ⟨_, rfl⟩
      have m5 : (P : Int) * 4 + (k : Int) = (q : Int) := by omega
      rw [m5] at m2
      have hd3 := HD.out.frame ho (fun _ _ e => e)
      have HRD : Hid (Calls Tryz.prog 10 #[.pointer (some ⟨p, 0, none⟩), .int .i64 q] w3 fun e w' => e = .returned (.tuple #[.slice (some ⟨w3.heap.size, 0, none⟩) 32 32, .int .i64 0]) ∧ w' = w3.alloc (.cells (secL (d.sec q)).toArray 79)) := read_any p S q B pv d w3 hd3 HL.out (by have := HP.out; omega)
      obtain ⟨C, hC⟩ : ∃ C, C = (secL (d.sec q)).toArray := ⟨_, rfl⟩
      rw [← hC] at HRD
      have ho4 : Only (fun _ => False) w3 (w3.alloc (.cells C 79)) := (Only.refl _ _).alloc _
      have hb4 : Blk (w3.alloc (.cells C 79)) g (pgN d P k ++ List.replicate (128 - 32 * k) 0) := hbl.frame ho4 (fun e => e)
      have hs4 : BytesAt (w3.alloc (.cells C 79)) (.slice (some ⟨w3.heap.size, 0, none⟩) 32 32) (secN (d.sec q)) := sec_bytes (by
        intro j v hv
        rw [hC, Nat.zero_add, cell_of_row _ _ _ _ _ _ (heap_alloc_new w3 _)]
        simpa using hv) (by omega) (HB.out.sec q)
      have HPC : Hid (∀ w', Calls Tryz.prog 110 #[.slice (some ⟨g, 0, none⟩) 128 128, .int .i64 o, .int .i64 32] w' fun e w'' => e = .returned (.slice (some ⟨g, o, none⟩) 32 32) ∧ w'' = w') := fun w' => by
        have := piece_pos g 0 128 128 o 32 w' (by omega) (by omega) (by omega)
        rwa [Nat.zero_add] at this
      have hsn := secN_length (d.sec q)
      obtain ⟨w5, hr5, hb5, ho5⟩ := copy_blk hb4 o (some ⟨g, o, none⟩) 32 32 (some ⟨w3.heap.size, 0, none⟩) 32 32 (secN (d.sec q)) (by rw [hsn]; rfl) (secN_lt (HB.out.sec q)) (by rw [hsn, List.length_append, pgN_length, List.length_replicate]; omega) (fun _ => rfl) (fun _ => by rw [hsn]; exact hs4)
      rw [hsn] at hr5
      have hcp : (Builtin.copy_ #[37, 37] 3 #[.slice (some ⟨g, o, none⟩) 32 32, .slice (some ⟨w3.heap.size, 0, none⟩) 32 32]).run Tryz.prog (w3.alloc (.cells C 79)) = .ok (.int .i64 32) w5 := hr5 3
      have HB5 : Hid (Blk w5 g (pgN d P (k + 1) ++ List.replicate (128 - 32 * (k + 1)) 0)) := by
        rw [splice_mid _ _ o _ (by rw [pgN_length]; omega) (by rw [hsn]; omega), hsn, hq] at hb5
        rw [show 128 - 32 * (k + 1) = 128 - 32 * k - 32 by omega]
        exact hb5
      have HO5 : Hid (Only (fun _ => False) w1 w5) := (ho.trans ho4 (fun _ _ e => e)).trans ho5 (fun i hi e => by have := HG.out; omega)
      clear hbl ho hd3 ho4 hb4 hs4 hsn hr5 hb5 ho5 hC ho' hq
      go_wp2_with fail
      refine (show Calls Tryz.prog 10 _ _ _ from HRD.out).mono ?_
      rintro e w4 ⟨rfl, rfl⟩
      clear HRD
      go_wp2_with fail
      refine (show Calls Tryz.prog 110 _ _ _ from HPC.out _).mono ?_
      rintro e w4 ⟨rfl, rfl⟩
      clear HPC
      go_wp2
      go_roundw
      case rel => exact ⟨k + 1, by omega, by go_num, HB5.out, HO5.out⟩
      case measure => simp [intOf]; omega
    · obtain rfl : k = 4 := by omega
      have hbl2 : Blk w3 g (pgN d P 4) := by simpa using hbl
      have hall := hbl2.all 128 (pgN_length d P 4).symm
      have HU : Hid (Calls Tryz.prog 142 #[.slice (some ⟨g, 0, none⟩) 128 128] w3 fun e w' => UnpIs (unp (pgN d P 4)) w3 e w') := unpack_any _ _ w3 hall (pgN_length d P 4)
      clear hbl ho hbl2 hall HBL
      go_wp2_with fail
      refine (show Calls Tryz.prog 142 _ _ _ from HU.out).mono ?_
      intro e w4 hU
      clear HU
      cases hr : unp (pgN d P 4) with
      | none =>
        have HRR : Hid (unp (pgN d P 4) = none) := hr
        rw [hr] at hU
        obtain ⟨rfl, ho4⟩ := hU
        have HE : Hid (Only (fun _ => False) w1 w4) := HO.out.trans ho4 (fun _ _ e => e)
        clear ho4 hr
        go_wp2
        go_ret3
        show UnpIs (unp (pgN d P 4)) w1 _ _
        rw [HRR.out]
        exact ⟨rfl, HE.out⟩
      | some x =>
        obtain ⟨i, D⟩ := x
        have HRR : Hid (unp (pgN d P 4) = some (i, D)) := hr
        rw [hr] at hU
        obtain ⟨u, rfl, hf4, ho4⟩ := hU
        have HE : Hid (Fresh w4 w1.heap.size u D ∧ Only (fun _ => False) w1 w4) := by
          refine ⟨⟨⟨hf4.1.1, ?_⟩, hf4.2⟩, HO.out.trans ho4 (fun _ _ e => e)⟩
          rcases hf4.1.2 with h2 | ⟨g', cap', cur', hv', hb', hr'⟩
          · exact .inl h2
          · exact .inr ⟨g', cap', cur', hv', by have := HO.out.size; omega, hr'⟩
        clear hf4 ho4 hr
        go_wp2
        go_ret3
        show UnpIs (unp (pgN d P 4)) w1 _ _
        rw [HRR.out]
        exact ⟨u, rfl, HE.out⟩

set_option maxRecDepth 100000 in
set_option maxHeartbeats 1000000 in
theorem pread_dead (p S n c : Nat) (P : Nat) (w : World) (hn : n ≤ 8192) (h0 : w.cell? ⟨p, 0, none⟩ = some (.slice (some ⟨S, 0, none⟩) n c)) (h2 : w.cell? ⟨p, 2, none⟩ = some (.int .i64 0)) (hP : P < n / 4) :
    Calls Tryz.prog 133 #[.pointer (some ⟨p, 0, none⟩), .int .i64 P] w fun e w' => e = .returned (.tuple #[.int .u32 0, .slice none 0 0, .int .i64 3]) ∧ Only (fun _ => False) w w' := by
  have HR := preach_in p S n c P w hn h0 hP
  have hmk : (Instr.makeSlice 37 (.int .i64 128) (.int .i64 128)).run Tryz.prog w = .ok (.slice (some ⟨w.heap.size, 0, none⟩) 128 128) (w.alloc (.cells (BL (List.replicate 128 0)).toArray 5)) := make_blk 128 (by omega) w
  obtain ⟨M, hM⟩ : ∃ M, M = BL (List.replicate 128 0) := ⟨_, rfl⟩
  rw [← hM] at hmk
  have o1 : Only (fun _ => False) w (w.alloc (.cells M.toArray 5)) := (Only.refl _ w).alloc _
  have HO1 : Hid (Only (fun _ => False) w (w.alloc (.cells M.toArray 5))) := o1
  have HRD : Hid (∀ q : Int, Calls Tryz.prog 10 #[.pointer (some ⟨p, 0, none⟩), .int .i64 q] (w.alloc (.cells M.toArray 5)) fun e w' => e = .returned (.tuple #[.slice none 0 0, .int .i64 3]) ∧ w' = w.alloc (.cells M.toArray 5)) := fun q => read_dead p q _ (o1.cell h2 (fun e => e))
  have m1 : IntKind.i64.wrap ((P : Int) * 4) = (P : Int) * 4 := by rw [IntKind.wrap_i64]; omega
  clear h0 h2 hP hM o1
  go_enter Tryz.func133, Tryz.ntmps133
  go_wp2_with fail
  refine HR.mono ?_
  rintro e w1 ⟨rfl, rfl⟩
  clear HR
  go_wp2
  refine wp_loop_rounds 1 ?_; rw [rounds_succ]
  go_wp2_with fail
  refine (show Calls Tryz.prog 10 _ _ _ from HRD.out _).mono ?_
  rintro e w2 ⟨rfl, rfl⟩
  go_wp2
  go_ret3
  exact ⟨rfl, HO1.out⟩
end Go.Proofs.YtpoakkdkibameaaGreat
