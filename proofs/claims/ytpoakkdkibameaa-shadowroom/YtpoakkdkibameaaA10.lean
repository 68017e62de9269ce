/- What grown makes. -/
import Derived.Test.YtpoakkdkibameaaA9
namespace Go.Proofs.Ytpoakkdkibameaa
open Go.RowKit Go.Maps Go.Shelf
set_option linter.unusedSimpArgs false
set_option linter.unusedVariables false

/-- A disk that Format made a store of. -/
def fmtD (N : Nat) : DS := (((⟨N, fun _ _ => 0, [], -1⟩ : DS).keep 4 (byF zeros32)).2.keep 0 (byF (rootB 1 0 0))).2
theorem fmtD_eq (N : Nat) (h : 12 ≤ N) : ((⟨N, fun _ _ => 0, [], -1⟩ : DS).keep 4 (byF zeros32)).1 = 0 ∧ (((⟨N, fun _ _ => 0, [], -1⟩ : DS).keep 4 (byF zeros32)).2.keep 0 (byF (rootB 1 0 0))).1 = 0 ∧ fmtD N = ⟨N, upd (upd (fun _ _ => 0) 4 (byF zeros32)) 0 (byF (rootB 1 0 0)), [], -1⟩ := by
  have k1 := keep_lives (d := ⟨N, fun _ _ => 0, [], -1⟩) rfl 4 (by show 4 < N; omega) (byF zeros32)
  have k2 := keep_lives (d := ⟨N, upd (fun _ _ => 0) 4 (byF zeros32), [], -1⟩) rfl 0 (by show 0 < N; omega) (byF (rootB 1 0 0))
  have e4 : ((4 : Nat) : Int) = 4 := rfl
  have e0 : ((0 : Nat) : Int) = 0 := rfl
  rw [e4] at k1
  rw [e0] at k2
  unfold fmtD
  rw [k1]
  refine ⟨rfl, ?_, ?_⟩
  · rw [k2]
  · rw [k2]
theorem zeros32_lt : ∀ z ∈ zeros32, z < 256 := by
  intro z hz
  unfold zeros32 at hz
  rw [List.eq_of_mem_replicate hz]
  omega
/-- How many sectors there are. -/
def secsN (n : Int) : Nat := if n < 12 ∨ 400 < n then 80 else n.toNat
theorem secsN_ge (n : Int) : 12 ≤ secsN n ∧ secsN n ≤ 400 := by
  unfold secsN
  split <;> omega
set_option maxRecDepth 100000 in
set_option maxHeartbeats 2000000 in
theorem grown_core {J : SS → DS → Prop} (hJ : Stable J) (N : Nat) (hN : 12 ≤ N ∧ N ≤ 400) (hJ0 : J (SS.new (N / 4)) (fmtD N)) (n : Int) (hn : secsN n = N) (v : Value) (os : List OpS) (w : World) (hsc : ScriptAt w v os) :
    Calls Try.prog 6 #[.int .i64 n, v] w fun e w' => ∃ p s S, e = .returned (.tuple #[.pointer (some ⟨p, 0, none⟩), .pointer (some ⟨s, 0, none⟩)]) ∧ Hid (WkI J w w.heap.size s p S N w' ∧ w.heap.size ≤ s) := by
  have hnw := new_ok N w (by omega) (by omega)
  obtain ⟨k1, k2, k3⟩ := fmtD_eq N hN.1
  have HF : Hid (∀ w1, DiskAt w1 w.heap.size (w.heap.size + 1) w.heap.size (.slice none 0 0) ⟨N, fun _ _ => 0, [], -1⟩ → Only (fun _ => False) w w1 → w1.heap.size = w.heap.size + 2 → Calls Try.prog 20 #[.pointer (some ⟨w.heap.size + 1, 0, none⟩)] w1 fun e w2 => ∃ s, e = .returned (.tuple #[.pointer (some ⟨s, 0, none⟩), .int .i64 0]) ∧ Hid (WkI J w w.heap.size s (w.heap.size + 1) w.heap.size N w2 ∧ w.heap.size ≤ s)) := by
    intro w1 hd ho hs
    refine (format_ok (w.heap.size + 1) w.heap.size w.heap.size (.slice none 0 0) _ w1 hd (by omega) (by simp) (by show 3 ≤ N / 4; omega) k1 k2).mono ?_
    rintro e w2 ⟨s, mc, mn, pv', rfl, hh⟩
    obtain ⟨q1, q2, q3, q4, q5, q6, q7⟩ := hh.out
    have q3s := q3.size
    refine ⟨s, rfl, ⟨SS.new (N / 4), fmtD N, { all := ⟨pv', mc, mn, .slice none 0 0, w.heap.size, q1, by omega, q2, ?_⟩, byte := ?_, good := ?_, pend := ?_, life := ?_, size := ?_ }, hJ0, by rw [k3], (ho.mono (fun _ _ e => e.elim)).trans q3 (fun k hk e => ?_)⟩, by omega⟩
    · rintro k (e | e | e | e | e | e)
      · omega
      · omega
      · omega
      · omega
      · omega
      · rcases q4 k e with e | e
        · cases e
        · omega
    · rw [k3]
      exact ⟨byt_upd (byt_upd (fun _ _ => ⟨by simp, by simp⟩) _ _ (byF_byt zeros32_lt)) _ _ (byF_byt (rootB_lt _ _ _)), by simp, by simp⟩
    · rw [k3]; exact Good.nil _ _ _
    · rw [k3]
    · rw [k3]
    · rw [k3]; rfl
    · rcases e with e | e | e
      · omega
      · omega
      · cases e
  have HWk : Hid (∀ s p S w1, WkI J w w.heap.size s p S N w1 → Calls Try.prog 8 #[.pointer (some ⟨s, 0, none⟩), v] w1 fun e w2 => e = .returned (.tuple #[]) ∧ Hid (WkI J w w.heap.size s p S N w2)) := by
    intro s p S w1 h1
    obtain ⟨x, d, hp, hx, hn', ho⟩ := h1
    refine (work_any hJ v os w hsc rfl ho ⟨x, d, hp, hx, hn', Only.refl _ _⟩).mono ?_
    rintro e w2 ⟨rfl, x2, d2, hp2, hx2, hn2, ho2⟩
    exact ⟨rfl, x2, d2, hp2, hx2, hn2, ho.trans ho2 (fun _ _ e => e)⟩
  have HNw : Hid (Calls Try.prog 24 _ _ _) := hnw
  obtain ⟨B0, hB0⟩ : ∃ B0, B0 = w.heap.size := ⟨_, rfl⟩
  rw [← hB0] at HF HWk HNw ⊢
  have HB : Hid (B0 = w.heap.size) := hB0
  have HSC : Hid (∃ a c, v = .slice a os.length c) := hsc.form
  clear hnw hB0 hsc k1 k2 k3
  obtain ⟨a, c, rfl⟩ := HSC.out
  clear HSC
  by_cases hc : n < 12 ∨ 400 < n
  · have e80 : N = 80 := by rw [← hn]; unfold secsN; rw [if_pos hc]
    subst e80
    rcases hc with hc | hc
    · go_enter Try.func6, Try.ntmps6
      go_wp2_with fail
      refine (show Calls Try.prog 24 _ _ _ from HNw.out).mono ?_
      rintro e w1 ⟨rfl, hd1, ho1, hs1⟩
      clear HNw
      have HFm : Hid (Calls Try.prog 20 _ _ _) := HF.out w1 hd1 ho1 hs1
      clear hd1 ho1 hs1 HF
      go_wp2_with fail
      refine (show Calls Try.prog 20 _ _ _ from HFm.out).mono ?_
      rintro e w2 ⟨s, rfl, HW2⟩
      clear HFm
      have HWo : Hid (Calls Try.prog 8 _ _ _) := HWk.out s _ _ w2 HW2.out.1
      have hs0 := HW2.out.2
      clear HWk HW2
      go_wp2_with fail
      refine (show Calls Try.prog 8 _ _ _ from HWo.out).mono ?_
      rintro e w3 ⟨rfl, HW3⟩
      clear HWo
      have HCm : Hid (Calls Try.prog 12 #[.pointer (some ⟨s, 0, none⟩)] w3 fun e w4 => ∃ r, e = .returned (.int .i64 r) ∧ Hid (WkI J w B0 s (B0 + 1) B0 80 w4)) := by
        obtain ⟨x, d, hp, hx, hn', ho⟩ := HW3.out
        exact commit_wk hJ hx hp (by have := ho.size; have := HB.out; omega) hn' ho
      clear HW3
      go_wp2_with fail
      refine (show Calls Try.prog 12 _ _ _ from HCm.out).mono ?_
      rintro e w4 ⟨r, rfl, HW4⟩
      clear HCm
      by_cases hr : r = 0
      · subst hr
        go_wp2
        go_ret2
        exact ⟨_, s, B0, rfl, HW4.out, hs0⟩
      · have hr' : (r == 0) = false := by simpa using hr
        have HRo : Hid (Calls Try.prog 23 #[.pointer (some ⟨s, 0, none⟩)] w4 fun e w5 => ∃ r, e = .returned (.int .i64 r) ∧ Hid (WkI J w B0 s (B0 + 1) B0 80 w5)) := by
          obtain ⟨x, d, hp, hx, hn', ho⟩ := HW4.out
          exact roll_wk hJ hx hp (by have := ho.size; have := HB.out; omega) hn' ho
        clear HW4
        go_wp2_with fail
        refine (show Calls Try.prog 23 _ _ _ from HRo.out).mono ?_
        rintro e w5 ⟨r5, rfl, HW5⟩
        clear HRo
        go_wp2
        go_ret2
        exact ⟨_, s, B0, rfl, HW5.out, hs0⟩
    · have hc0 : ¬ n < 12 := by omega
      go_enter Try.func6, Try.ntmps6
      go_wp2_with fail
      refine (show Calls Try.prog 24 _ _ _ from HNw.out).mono ?_
      rintro e w1 ⟨rfl, hd1, ho1, hs1⟩
      clear HNw
      have HFm : Hid (Calls Try.prog 20 _ _ _) := HF.out w1 hd1 ho1 hs1
      clear hd1 ho1 hs1 HF
      go_wp2_with fail
      refine (show Calls Try.prog 20 _ _ _ from HFm.out).mono ?_
      rintro e w2 ⟨s, rfl, HW2⟩
      clear HFm
      have HWo : Hid (Calls Try.prog 8 _ _ _) := HWk.out s _ _ w2 HW2.out.1
      have hs0 := HW2.out.2
      clear HWk HW2
      go_wp2_with fail
      refine (show Calls Try.prog 8 _ _ _ from HWo.out).mono ?_
      rintro e w3 ⟨rfl, HW3⟩
      clear HWo
      have HCm : Hid (Calls Try.prog 12 #[.pointer (some ⟨s, 0, none⟩)] w3 fun e w4 => ∃ r, e = .returned (.int .i64 r) ∧ Hid (WkI J w B0 s (B0 + 1) B0 80 w4)) := by
        obtain ⟨x, d, hp, hx, hn', ho⟩ := HW3.out
        exact commit_wk hJ hx hp (by have := ho.size; have := HB.out; omega) hn' ho
      clear HW3
      go_wp2_with fail
      refine (show Calls Try.prog 12 _ _ _ from HCm.out).mono ?_
      rintro e w4 ⟨r, rfl, HW4⟩
      clear HCm
      by_cases hr : r = 0
      · subst hr
        go_wp2
        go_ret2
        exact ⟨_, s, B0, rfl, HW4.out, hs0⟩
      · have hr' : (r == 0) = false := by simpa using hr
        have HRo : Hid (Calls Try.prog 23 #[.pointer (some ⟨s, 0, none⟩)] w4 fun e w5 => ∃ r, e = .returned (.int .i64 r) ∧ Hid (WkI J w B0 s (B0 + 1) B0 80 w5)) := by
          obtain ⟨x, d, hp, hx, hn', ho⟩ := HW4.out
          exact roll_wk hJ hx hp (by have := ho.size; have := HB.out; omega) hn' ho
        clear HW4
        go_wp2_with fail
        refine (show Calls Try.prog 23 _ _ _ from HRo.out).mono ?_
        rintro e w5 ⟨r5, rfl, HW5⟩
        clear HRo
        go_wp2
        go_ret2
        exact ⟨_, s, B0, rfl, HW5.out, hs0⟩
  · have hc1 : ¬ n < 12 := by omega
    have hc2 : ¬ 400 < n := by omega
    have en : n = (N : Int) := by rw [← hn]; unfold secsN; rw [if_neg hc]; omega
    subst en
    clear hc hn
    go_enter Try.func6, Try.ntmps6
    go_wp2_with fail
    refine (show Calls Try.prog 24 _ _ _ from HNw.out).mono ?_
    rintro e w1 ⟨rfl, hd1, ho1, hs1⟩
    clear HNw
    have HFm : Hid (Calls Try.prog 20 _ _ _) := HF.out w1 hd1 ho1 hs1
    clear hd1 ho1 hs1 HF
    go_wp2_with fail
    refine (show Calls Try.prog 20 _ _ _ from HFm.out).mono ?_
    rintro e w2 ⟨s, rfl, HW2⟩
    clear HFm
    have HWo : Hid (Calls Try.prog 8 _ _ _) := HWk.out s _ _ w2 HW2.out.1
    have hs0 := HW2.out.2
    clear HWk HW2
    go_wp2_with fail
    refine (show Calls Try.prog 8 _ _ _ from HWo.out).mono ?_
    rintro e w3 ⟨rfl, HW3⟩
    clear HWo
    have HCm : Hid (Calls Try.prog 12 #[.pointer (some ⟨s, 0, none⟩)] w3 fun e w4 => ∃ r, e = .returned (.int .i64 r) ∧ Hid (WkI J w B0 s (B0 + 1) B0 N w4)) := by
      obtain ⟨x, d, hp, hx, hn', ho⟩ := HW3.out
      exact commit_wk hJ hx hp (by have := ho.size; have := HB.out; omega) hn' ho
    clear HW3
    go_wp2_with fail
    refine (show Calls Try.prog 12 _ _ _ from HCm.out).mono ?_
    rintro e w4 ⟨r, rfl, HW4⟩
    clear HCm
    by_cases hr : r = 0
    · subst hr
      go_wp2
      go_ret2
      exact ⟨_, s, B0, rfl, HW4.out, hs0⟩
    · have hr' : (r == 0) = false := by simpa using hr
      have HRo : Hid (Calls Try.prog 23 #[.pointer (some ⟨s, 0, none⟩)] w4 fun e w5 => ∃ r, e = .returned (.int .i64 r) ∧ Hid (WkI J w B0 s (B0 + 1) B0 N w5)) := by
        obtain ⟨x, d, hp, hx, hn', ho⟩ := HW4.out
        exact roll_wk hJ hx hp (by have := ho.size; have := HB.out; omega) hn' ho
      clear HW4
      go_wp2_with fail
      refine (show Calls Try.prog 23 _ _ _ from HRo.out).mono ?_
      rintro e w5 ⟨r5, rfl, HW5⟩
      clear HRo
      go_wp2
      go_ret2
      exact ⟨_, s, B0, rfl, HW5.out, hs0⟩
end Go.Proofs.Ytpoakkdkibameaa
