import Derived.Test.YtlcglapcmdpkfaaGreatA7
namespace Go.Proofs.YtlcglapcmdpkfaaGreat
open Go.RowKit Go.Maps
set_option linter.unusedSimpArgs false
set_option linter.unusedVariables false
theorem keep_ans (d : DS) (k : Nat) (hk : k < d.n) (f : Nat → Int) : (d.keep k f).1 = 0 ∨ (d.keep k f).1 = 3 := by
 have h1 : ¬ ((k : Int) < 0 ∨ (d.n : Int) ≤ (k : Int)) := by omega
 unfold DS.keep DS.barrier DS.write
 by_cases e : d.life = 0
 ·simp [e]
 ·simp only [e, h1, if_false, ne_eq, not_true_eq_false]
  split <;> simp
theorem keep_n (d : DS) (k : Int) (f : Nat → Int) : (d.keep k f).2.n = d.n := by
 unfold DS.keep DS.barrier DS.write
 repeat' split
 all_goals simp_all
set_option maxRecDepth 100000 in
set_option maxHeartbeats 4000000 in
theorem format_dead1 (p S B : Nat) (pv : Value) (d : DS) (w : World) (h : DiskAt w B p S pv d) (hB : B ≤ w.heap.size) (hby : (d.pend.length + 2) * 72 ≤ 140737488355328) (hn : 3 ≤ d.n / 4) (e1 : (d.keep 4 (byF zeros32)).1 = 3) :
  Calls Tryz.prog 11 #[.pointer (some ⟨p, 0, none⟩)] w fun e w' => e = .returned (.tuple #[.pointer none, .int .i64 3]) ∧ Hid (∃ pv', DiskAt w' B p S pv' (d.keep 4 (byF zeros32)).2 ∧ Only (diskB p S pv) w w' ∧ (∀ b, pv'.ownBlock = some b → pv.ownBlock = some b ∨ w.heap.size ≤ b)) := by
 obtain ⟨c, hc⟩ := h.c0
 have HC : Hid (Calls Tryz.prog 28 _ _ _) := count_any p S d.n c w h.n2 hc
 obtain ⟨N, hN⟩ : ∃ N, N = d.n / 4 := ⟨_, rfl⟩
 rw [← hN] at HC hn
 have h3 : ¬ (N : Int) < 3 := by omega
 obtain ⟨Z, hZ⟩ : ∃ Z, Z = (BL zeros32).toArray := ⟨_, rfl⟩
 have hmk : ∀ w, (Instr.makeSlice 37 (.int .i64 32) (.int .i64 32)).run Tryz.prog w = .ok (.slice (some ⟨w.heap.size, 0, none⟩) 32 32) (w.alloc (.cells Z 5)) := fun w => by rw [hZ]; exact make_blk 32 (by omega) w
 obtain ⟨wA, hwA⟩ : ∃ q, q = w.alloc (.cells Z 5) := ⟨_, rfl⟩
 have oA : Only (fun _ => False) w wA := by rw [hwA]; exact (Only.refl _ w).alloc _
 have bA : Blk wA w.heap.size zeros32 := by rw [hwA, hZ]; exact blk_zeros 32 (by omega) w
 have hdA : DiskAt wA B p S pv d := h.frame oA (fun _ _ e => e)
 have HK1 : Hid (Calls Tryz.prog 29 _ _ _) := keep_hid p S 32 B (some ⟨w.heap.size, 0, none⟩) pv d 4 (byF zeros32) wA hdA (bA.row (by simp [zeros32])) (by have := oA.size; omega) (by omega) 3 e1
 have HA : Hid (wA = w.alloc (.cells Z 5)) := hwA
 have H0 : Hid (Only (fun _ => False) w wA) := oA
 clear h hc hwA oA bA hdA hB hby e1 hN hn hZ
 go_enter Tryz.func11, Tryz.ntmps11
 go_wp2_with (go_at_call 28; refine (show Calls Tryz.prog 28 _ _ _ from HC.out).mono ?_; rintro e w' ⟨rfl, rfl⟩)
 rw [← HA.out]
 refine (show Calls Tryz.prog 29 _ _ _ from HK1.out).mono ?_
 rintro e w1 ⟨rfl, H1⟩
 clear HC HK1 hmk
 have HE : Hid (∃ pv', DiskAt w1 B p S pv' (d.keep 4 (byF zeros32)).2 ∧ Only (diskB p S pv) w' w1 ∧ (∀ b, pv'.ownBlock = some b → pv.ownBlock = some b ∨ w'.heap.size ≤ b)) := by
  obtain ⟨pv1, hd1, ho1, hp1⟩ := H1.out
  have s1 := H0.out.size
  exact ⟨pv1, hd1, (H0.out.mono (fun _ _ e => e.elim)).trans ho1 (fun _ _ e => e), fun b e => (hp1 b e).imp id (fun e => by omega)⟩
 clear H1 H0 HA
 go_wp2
 go_ret2
 exact ⟨rfl, HE⟩
set_option maxRecDepth 100000 in
set_option maxHeartbeats 4000000 in
theorem format_dead2 (p S B : Nat) (pv : Value) (d : DS) (w : World) (h : DiskAt w B p S pv d) (hB : B ≤ w.heap.size) (hby : (d.pend.length + 2) * 72 ≤ 140737488355328) (hn : 3 ≤ d.n / 4) (e1 : (d.keep 4 (byF zeros32)).1 = 0) (e2 : ((d.keep 4 (byF zeros32)).2.keep 0 (byF (rootB 1 0 0))).1 = 3) :
  Calls Tryz.prog 11 #[.pointer (some ⟨p, 0, none⟩)] w fun e w' => e = .returned (.tuple #[.pointer none, .int .i64 3]) ∧ Hid (∃ pv', DiskAt w' B p S pv' ((d.keep 4 (byF zeros32)).2.keep 0 (byF (rootB 1 0 0))).2 ∧ Only (diskB p S pv) w w' ∧ (∀ b, pv'.ownBlock = some b → pv.ownBlock = some b ∨ w.heap.size ≤ b)) := by
 obtain ⟨c, hc⟩ := h.c0
 have HC : Hid (Calls Tryz.prog 28 _ _ _) := count_any p S d.n c w h.n2 hc
 obtain ⟨N, hN⟩ : ∃ N, N = d.n / 4 := ⟨_, rfl⟩
 rw [← hN] at HC hn
 have h3 : ¬ (N : Int) < 3 := by omega
 obtain ⟨Z, hZ⟩ : ∃ Z, Z = (BL zeros32).toArray := ⟨_, rfl⟩
 have hmk : ∀ w, (Instr.makeSlice 37 (.int .i64 32) (.int .i64 32)).run Tryz.prog w = .ok (.slice (some ⟨w.heap.size, 0, none⟩) 32 32) (w.alloc (.cells Z 5)) := fun w => by rw [hZ]; exact make_blk 32 (by omega) w
 obtain ⟨wA, hwA⟩ : ∃ q, q = w.alloc (.cells Z 5) := ⟨_, rfl⟩
 have oA : Only (fun _ => False) w wA := by rw [hwA]; exact (Only.refl _ w).alloc _
 have bA : Blk wA w.heap.size zeros32 := by rw [hwA, hZ]; exact blk_zeros 32 (by omega) w
 have hdA : DiskAt wA B p S pv d := h.frame oA (fun _ _ e => e)
 have HK1 : Hid (Calls Tryz.prog 29 _ _ _) := keep_hid p S 32 B (some ⟨w.heap.size, 0, none⟩) pv d 4 (byF zeros32) wA hdA (bA.row (by simp [zeros32])) (by have := oA.size; omega) (by omega) 0 e1
 have HA : Hid (wA = w.alloc (.cells Z 5)) := hwA
 have H0 : Hid (DiskAt w B p S pv d ∧ Only (fun _ => False) w wA ∧ DiskAt wA B p S pv d) := ⟨h, oA, hdA⟩
 have HB : Hid (B ≤ w.heap.size ∧ (d.pend.length + 2) * 72 ≤ 140737488355328) := ⟨hB, hby⟩
 have HE2 : Hid _ := e2
 clear h hc hwA oA bA hdA hB hby e1 e2 hN hn hZ
 go_enter Tryz.func11, Tryz.ntmps11
 go_wp2_with (go_at_call 28; refine (show Calls Tryz.prog 28 _ _ _ from HC.out).mono ?_; rintro e w' ⟨rfl, rfl⟩)
 rw [← HA.out]
 refine (show Calls Tryz.prog 29 _ _ _ from HK1.out).mono ?_
 rintro e w1 ⟨rfl, H1⟩
 clear HC HK1 hmk
 obtain ⟨pv1, hd1, ho1, hp1⟩ := H1.out
 obtain ⟨wR, hwR⟩ : ∃ q, q = w1.alloc (.cells #[.int .u64 1, .int .u32 0, .int .u32 0] 74) := ⟨_, rfl⟩
 have oR : Only (fun _ => False) w1 wR := by rw [hwR]; exact (Only.refl _ w1).alloc _
 have sR : wR.heap.size = w1.heap.size + 1 := by rw [hwR]; simp
 have HRB : Hid (Calls Tryz.prog 30 _ _ _) := rootbytes_new wR
 rw [sR] at HRB
 have HWR : Hid (wR = w1.alloc (.cells #[.int .u64 1, .int .u32 0, .int .u32 0] 74)) := hwR
 have HR : Hid (Only (fun _ => False) w1 wR) := oR
 have H1' : Hid (DiskAt w1 B p S pv1 (d.keep 4 (byF zeros32)).2 ∧ Only (diskB p S pv) wA w1 ∧ ∀ b, pv1.ownBlock = some b → pv.ownBlock = some b ∨ wA.heap.size ≤ b) := ⟨hd1, ho1, hp1⟩
 clear hwR oR sR hd1 ho1 hp1 H1
 go_wp2_with fail
 rw [← HWR.out]
 refine (show Calls Tryz.prog 30 _ _ _ from HRB.out).mono ?_
 rintro e w3 ⟨rfl, H3⟩
 have oR3 : Only (fun _ => False) w1 w3 := HR.out.trans H3.out.2 (fun _ _ e => e)
 have hd3 := H1'.out.1.frame oR3 (fun _ _ e => e)
 have hsz1 := oR3.size
 have hszA := H1'.out.2.1.size
 have hszw := H0.out.2.1.size
 have HK3 : Hid (Calls Tryz.prog 29 _ _ _) := keep_hid p S 32 B (some ⟨w1.heap.size + 1 + 1, 0, none⟩) pv1 _ 0 (byF (rootB 1 0 0)) w3 hd3 (H3.out.1.row (rootB_length _ _ _)) (by have := HB.out.1; omega) (by have := HB.out.2; have := keep_pend d 4 (byF zeros32); omega) 3 HE2.out
 have H3' : Hid (Only (fun _ => False) w1 w3 ∧ w'.heap.size ≤ wA.heap.size ∧ wA.heap.size ≤ w1.heap.size) := ⟨oR3, hszw, hszA⟩
 clear oR3 hd3 hsz1 hszA hszw H3 HRB HE2
 go_wp2_with fail
 refine (show Calls Tryz.prog 29 _ _ _ from HK3.out).mono ?_
 rintro e w4 ⟨rfl, H4⟩
 clear HK3
 have HE : Hid (∃ pv', DiskAt w4 B p S pv' ((d.keep 4 (byF zeros32)).2.keep 0 (byF (rootB 1 0 0))).2 ∧ Only (diskB p S pv) w' w4 ∧ (∀ b, pv'.ownBlock = some b → pv.ownBlock = some b ∨ w'.heap.size ≤ b)) := by
  obtain ⟨pv4, hd4, ho4, hp4⟩ := H4.out
  obtain ⟨o13, ha, hb⟩ := H3'.out
  obtain ⟨hd1, ho1, hp1⟩ := H1'.out
  have h13 := o13.size
  have oA : Only (diskB p S pv) w' wA := H0.out.2.1.mono (fun _ _ e => e.elim)
  have o3 : Only (diskB p S pv) w' w3 := (oA.trans ho1 (fun _ _ e => e)).trans o13 (fun _ _ e => e.elim)
  refine ⟨pv4, hd4, o3.trans ho4 (fun k hk e => ?_), fun b hb' => ?_⟩
  ·rcases e with e | e | e
   ·exact .inl e
   ·exact .inr (.inl e)
   ·rcases hp1 k e with e | e
    ·exact .inr (.inr e)
    ·omega
  ·rcases hp4 b hb' with e | e
   ·rcases hp1 b e with e | e
    ·exact .inl e
    ·exact .inr (by omega)
   ·exact .inr (by omega)
 clear H4 H3' H1' HR HWR H0 HA HB
 go_wp2
 go_ret2
 exact ⟨rfl, HE⟩
theorem StAt.bareE {w : World} {E : Nat → Prop} {s p mc mn S N : Nat} {pv : Value} (h : StAt w (diskB p S pv) s p mc mn (.slice none 0 0) (SS.new N)) (h1 : ¬ E s) (h2 : ¬ E mc) (h3 : ¬ E mn) : StAt w (dkE E p S pv) s p mc mn (.slice none 0 0) (SS.new N) := by
 obtain ⟨a1, a2, a3⟩ := h.com
 obtain ⟨b1, b2, b3⟩ := h.now
 exact { h with
  k1 := fun e => e.elim h.k1 h1, k2 := fun e => e.elim h.k2 h2, k3 := fun e => e.elim h.k3 h3
  tabsB := fun b hb => by simp [Value.ownBlock] at hb
  com := ⟨a1, a2, fun p hp => by cases hp⟩, now := ⟨b1, b2, fun p hp => by cases hp⟩ }
def FmIs (E : Nat → Prop) (w : World) (B p S : Nat) (pv : Value) (d : DS) (e : Ending) (w' : World) : Prop :=
 (d.format.1 ≠ 0 ∧ e = .returned (.tuple #[.pointer none, .int .i64 (if d.n / 4 < 3 then 7 else 3)]) ∧ ∃ pv', DiskAt w' B p S pv' d.format.2 ∧ Only (diskB p S pv) w w' ∧ (∀ b, pv'.ownBlock = some b → pv.ownBlock = some b ∨ w.heap.size ≤ b)) ∨
 (d.format.1 = 0 ∧ ∃ s mc mn pv', e = .returned (.tuple #[.pointer (some ⟨s, 0, none⟩), .int .i64 0]) ∧ DiskAt w' B p S pv' d.format.2 ∧ StAt w' (dkE E p S pv') s p mc mn (.slice none 0 0) (SS.new (d.n / 4)) ∧ Only (diskB p S pv) w w' ∧ (∀ b, pv'.ownBlock = some b → pv.ownBlock = some b ∨ w.heap.size ≤ b) ∧ w.heap.size ≤ s ∧ w.heap.size ≤ mc ∧ w.heap.size ≤ mn)
theorem format_all {E : Nat → Prop} (p S B : Nat) (pv : Value) (d : DS) (w : World) (h : DiskAt w B p S pv d) (hB : B ≤ w.heap.size) (hby : (d.pend.length + 2) * 72 ≤ 140737488355328) (hE : ∀ k, E k → k < w.heap.size) :
  Calls Tryz.prog 11 #[.pointer (some ⟨p, 0, none⟩)] w fun e w' => Hid (FmIs E w B p S pv d e w') := by
 by_cases hn : d.n / 4 < 3
 ·refine (format_small p S B pv d w h hn).mono ?_
  rintro e w' ⟨rfl, rfl⟩
  have hf : d.format = (7, d) := by simp [DS.format, hn]
  exact .inl ⟨by rw [hf]; simp, by rw [if_pos hn], pv, by rw [hf]; exact h, Only.refl _ _, fun b e => .inl e⟩
 ·have hn' : 3 ≤ d.n / 4 := by omega
  by_cases e1 : (d.keep 4 (byF zeros32)).1 = 0
  ·have hf : d.format = (d.keep 4 (byF zeros32)).2.keep 0 (byF (rootB 1 0 0)) := by simp only [DS.format, hn, if_false, e1, ne_eq, not_true_eq_false]
   rcases keep_ans (d.keep 4 (byF zeros32)).2 0 (by rw [keep_n]; omega) (byF (rootB 1 0 0)) with e2 | e2
   ·refine (format_ok p S B pv d w h hB hby hn' e1 e2).mono ?_
    rintro e w' ⟨s, mc, mn, pv', rfl, hq⟩
    obtain ⟨q1, q2, q3, q4, q5, q6, q7⟩ := hq.out
    refine .inr ⟨by rw [hf]; exact e2, s, mc, mn, pv', rfl, by rw [hf]; exact q1, q2.bareE (fun e => ?_) (fun e => ?_) (fun e => ?_), q3, q4, q5, q6, q7⟩
    ·have := hE _ e; omega
    ·have := hE _ e; omega
    ·have := hE _ e; omega
   ·refine (format_dead2 p S B pv d w h hB hby hn' e1 e2).mono ?_
    rintro e w' ⟨rfl, hq⟩
    have h9 : d.format.1 ≠ 0 := by rw [hf]; intro e; rw [show (((d.keep 4 (byF zeros32)).2.keep 0 (byF (rootB 1 0 0))).1 = 3) from e2] at e; cases e
    exact .inl ⟨h9, by rw [if_neg hn], by rw [hf]; exact hq.out⟩
  ·have e3 : (d.keep 4 (byF zeros32)).1 = 3 := (keep_ans d 4 (by omega) (byF zeros32)).resolve_left e1
   have hf : d.format = d.keep 4 (byF zeros32) := by simp only [DS.format, hn, if_false, e1, ne_eq, not_false_eq_true, if_true]
   refine (format_dead1 p S B pv d w h hB hby hn' e3).mono ?_
   rintro e w' ⟨rfl, hq⟩
   exact .inl ⟨by rw [hf]; exact e1, by rw [if_neg hn], by rw [hf]; exact hq.out⟩
end Go.Proofs.YtlcglapcmdpkfaaGreat
