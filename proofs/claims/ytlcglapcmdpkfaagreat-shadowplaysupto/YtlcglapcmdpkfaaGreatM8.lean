import Derived.Test.YtlcglapcmdpkfaaGreatM7
import Derived.Test.YtlcglapcmdpkfaaGreatCn
namespace Go.Proofs.YtlcglapcmdpkfaaGreat
open Go.RowKit Go.Maps
set_option linter.unusedSimpArgs false
set_option linter.unusedVariables false
def byF (zs : List Nat) : Nat → Int := fun j => (zs.getD j 0 : Nat)
theorem Blk.row {w : World} {g : Nat} {zs : List Nat} (h : Blk w g zs) (hl : zs.length = 32) : RowAt w (.slice (some ⟨g, 0, none⟩) 32 32) 32 1 (fun j => .int .u8 (byF zs j)) := by
 refine .inr ⟨⟨g, 0, none⟩, 32, rfl, Nat.le_refl _, fun j hj => ?_⟩
 rw [Addr.add_mid, Nat.zero_add, h.cell j (by omega)]
 rfl
def zeros32 : List Nat := List.replicate 32 0
def DS.format (d : DS) : Int × DS :=
 if d.n / 4 < 3 then (7, d) else if (d.keep 4 (byF zeros32)).1 ≠ 0 then d.keep 4 (byF zeros32) else (d.keep 4 (byF zeros32)).2.keep 0 (byF (rootB 1 0 0))
def SS.new (size : Nat) : SS := ⟨size, 1, 0, [], [], []⟩
theorem keep_hid (p S c B : Nat) (a : Option Addr) (pv : Value) (d : DS) (k : Int) (f : Nat → Int) (w : World) (h : DiskAt w B p S pv d) (hr : RowAt w (.slice a 32 c) 32 1 (fun j => .int .u8 (f j))) (hB : B ≤ w.heap.size) (hby : (d.pend.length + 1) * 72 ≤ 140737488355328) (q : Int) (hq : (d.keep k f).1 = q) :
  Calls Tryz.prog 29 #[.pointer (some ⟨p, 0, none⟩), .int .i64 k, .slice a 32 c] w fun e w' => e = .returned (.int .i64 q) ∧ Hid (∃ pv', DiskAt w' B p S pv' (d.keep k f).2 ∧ Only (diskB p S pv) w w' ∧ ∀ b, pv'.ownBlock = some b → pv.ownBlock = some b ∨ w.heap.size ≤ b) := by
 rw [← hq]
 exact keep_all p S c B a pv d k f w h hr hB hby
set_option maxRecDepth 100000 in
set_option maxHeartbeats 2000000 in
theorem format_small (p S B : Nat) (pv : Value) (d : DS) (w : World) (h : DiskAt w B p S pv d) (hn : d.n / 4 < 3) :
  Calls Tryz.prog 11 #[.pointer (some ⟨p, 0, none⟩)] w fun e w' => e = .returned (.tuple #[.pointer none, .int .i64 7]) ∧ w' = w := by
 obtain ⟨c, hc⟩ := h.c0
 have HC := count_any p S d.n c w h.n2 hc
 have h3 : ((d.n / 4 : Nat) : Int) < 3 := by omega
 clear h hc
 go_enter Tryz.func11, Tryz.ntmps11
 go_wp2_with (go_at_call 28; refine HC.mono ?_; rintro e w' ⟨rfl, rfl⟩)
 go_ret2
 exact ⟨rfl, rfl⟩
theorem keep_pend (d : DS) (k : Int) (f : Nat → Int) : (d.keep k f).2.pend.length ≤ d.pend.length + 1 := by
 unfold DS.keep DS.barrier DS.write
 repeat' split
 all_goals simp_all
theorem rootbytes_new (w : World) :
  Calls Tryz.prog 30 #[.agg #[.int .u64 1, .int .u32 0, .int .u32 0]] w fun e w' => e = .returned (.slice (some ⟨w.heap.size + 1, 0, none⟩) 32 32) ∧ Hid (Blk w' (w.heap.size + 1) (rootB 1 0 0) ∧ Only (fun _ => False) w w') :=
 rootbytes_any 1 0 0 w (by omega) (by omega) (by omega)
theorem new_wf (N : Nat) (h : 3 ≤ N) (h2 : N ≤ 2048) : (SS.new N).Wf :=
 { size := ⟨h, h2⟩, epoch := by simp [SS.new], sector := .inl rfl, tabs := ⟨by simp [SS.new], fun t ht => by simp [SS.new] at ht⟩, com := fun p hp => by simp [SS.new] at hp, now := fun p hp => by simp [SS.new] at hp }
theorem PMap.bare {w : World} {m : Nat} (av : Nat → Prop) (h : MapAt w m []) : PMap w av m [] := ⟨fun _ => .slice none 0 0, h, fun p hp => by cases hp⟩
set_option maxRecDepth 100000 in
set_option maxHeartbeats 4000000 in
theorem format_ok (p S B : Nat) (pv : Value) (d : DS) (w : World) (h : DiskAt w B p S pv d) (hB : B ≤ w.heap.size) (hby : (d.pend.length + 2) * 72 ≤ 140737488355328) (hn : 3 ≤ d.n / 4) (e1 : (d.keep 4 (byF zeros32)).1 = 0) (e2 : ((d.keep 4 (byF zeros32)).2.keep 0 (byF (rootB 1 0 0))).1 = 0) :
  Calls Tryz.prog 11 #[.pointer (some ⟨p, 0, none⟩)] w fun e w' => ∃ s mc mn pv', e = .returned (.tuple #[.pointer (some ⟨s, 0, none⟩), .int .i64 0]) ∧ Hid (DiskAt w' B p S pv' ((d.keep 4 (byF zeros32)).2.keep 0 (byF (rootB 1 0 0))).2 ∧
   StAt w' (diskB p S pv') s p mc mn (.slice none 0 0) (SS.new (d.n / 4)) ∧ Only (diskB p S pv) w w' ∧ (∀ b, pv'.ownBlock = some b → pv.ownBlock = some b ∨ w.heap.size ≤ b) ∧ w.heap.size ≤ s ∧ w.heap.size ≤ mc ∧ w.heap.size ≤ mn) := by
 have hmm := @run_makeMap Tryz.prog
 obtain ⟨c, hc⟩ := h.c0
 have HC : Hid (Calls Tryz.prog 28 _ _ _) := count_any p S d.n c w h.n2 hc
 have hn2 := h.n2
 obtain ⟨N, hN⟩ : ∃ N, N = d.n / 4 := ⟨_, rfl⟩
 rw [← hN] at HC hn
 have h3 : ¬ (N : Int) < 3 := by omega
 obtain ⟨Z, hZ⟩ : ∃ Z, Z = (BL zeros32).toArray := ⟨_, rfl⟩
 have hmk : ∀ w, (Instr.makeSlice 37 (.int .i64 32) (.int .i64 32)).run Tryz.prog w = .ok (.slice (some ⟨w.heap.size, 0, none⟩) 32 32) (w.alloc (.cells Z 5)) := fun w => by rw [hZ]; exact make_blk 32 (by omega) w
 obtain ⟨wA, hwA⟩ : ∃ q, q = w.alloc (.cells Z 5) := ⟨_, rfl⟩
 have oA : Only (fun _ => False) w wA := by rw [hwA]; exact (Only.refl _ w).alloc _
 have bA : Blk wA w.heap.size zeros32 := by rw [hwA, hZ]; exact blk_zeros 32 (by omega) w
 have hdA : DiskAt wA B p S pv d := h.frame oA (fun _ _ e => e)
 have HK1 : Hid (Calls Tryz.prog 29 _ _ _) := keep_hid p S 32 B (some ⟨w.heap.size, 0, none⟩) pv d 4 (byF zeros32) wA hdA (bA.row (by simp [zeros32])) (by have := oA.size; omega) (by omega) 0 e1
 have HA : Hid (wA = w.alloc (.cells Z 5)) := hwA
 have H0 : Hid (DiskAt w B p S pv d ∧ Only (fun _ => False) w wA ∧ DiskAt wA B p S pv d) := ⟨h, oA, hdA⟩
 have HN : Hid (N = d.n / 4 ∧ 3 ≤ N ∧ d.n ≤ 8192) := ⟨hN, hn, hn2⟩
 have HB : Hid (B ≤ w.heap.size ∧ (d.pend.length + 2) * 72 ≤ 140737488355328) := ⟨hB, hby⟩
 have HE2 : Hid _ := e2
 rw [← hN]
 clear h hc hwA oA bA hdA hB hby e1 e2 hN hn hn2 hZ
 go_enter Tryz.func11, Tryz.ntmps11
 go_wp2_with (go_at_call 28; refine (show Calls Tryz.prog 28 _ _ _ from HC.out).mono ?_; rintro e w' ⟨rfl, rfl⟩)
 rw [← HA.out]
 refine (show Calls Tryz.prog 29 _ _ _ from HK1.out).mono ?_
 rintro e w1 ⟨rfl, H1⟩
 clear HC HK1 hmk
 obtain ⟨pv1, hd1, ho1, hp1⟩ := H1.out
 obtain ⟨wR, hwR⟩ : ∃ q, q = w1.alloc (.cells #[.int .u64 1, .int .u32 0, .int .u32 0] 74) := ⟨_, rfl⟩
 have oR : Only (fun _ => False) w1 wR := by rw [hwR]; exact (Only.refl _ w1).alloc _
 have sR : wR.heap.size = w1.heap.size + 1 := by rw [hwR]; simp
 have bR : wR.heap[w1.heap.size]? = some (.cells #[.int .u64 1, .int .u32 0, .int .u32 0] 74 (0, 0)) := by rw [hwR]; exact heap_alloc_new w1 _
 have HRB : Hid (Calls Tryz.prog 30 _ _ _) := rootbytes_new wR
 rw [sR] at HRB
 have HWR : Hid (wR = w1.alloc (.cells #[.int .u64 1, .int .u32 0, .int .u32 0] 74)) := hwR
 have HR : Hid (Only (fun _ => False) w1 wR ∧ wR.heap.size = w1.heap.size + 1 ∧ wR.heap[w1.heap.size]? = some (.cells #[.int .u64 1, .int .u32 0, .int .u32 0] 74 (0, 0))) := ⟨oR, sR, bR⟩
 have H1' : Hid (DiskAt w1 B p S pv1 (d.keep 4 (byF zeros32)).2 ∧ Only (diskB p S pv) wA w1 ∧ ∀ b, pv1.ownBlock = some b → pv.ownBlock = some b ∨ wA.heap.size ≤ b) := ⟨hd1, ho1, hp1⟩
 clear hwR oR sR bR hd1 ho1 hp1 H1
 go_wp2_with fail
 rw [← HWR.out]
 refine (show Calls Tryz.prog 30 _ _ _ from HRB.out).mono ?_
 rintro e w3 ⟨rfl, H3⟩
 have oR3 : Only (fun _ => False) w1 w3 := HR.out.1.trans H3.out.2 (fun _ _ e => e)
 have hd3 := H1'.out.1.frame oR3 (fun _ _ e => e)
 have hsz1 := oR3.size
 have hszA := H1'.out.2.1.size
 have hszw := H0.out.2.1.size
 have HK3 : Hid (Calls Tryz.prog 29 _ _ _) := keep_hid p S 32 B (some ⟨w1.heap.size + 1 + 1, 0, none⟩) pv1 _ 0 (byF (rootB 1 0 0)) w3 hd3 (H3.out.1.row (rootB_length _ _ _)) (by have := HB.out.1; omega) (by have := HB.out.2; have := keep_pend d 4 (byF zeros32); omega) 0 HE2.out
 have c3 : w3.heap[w1.heap.size]? = some (.cells #[.int .u64 1, .int .u32 0, .int .u32 0] 74 (0, 0)) := by rw [H3.out.2.block _ (by have := HR.out.2.1; omega) (fun e => e)]; exact HR.out.2.2
 have H3' : Hid (DiskAt w3 B p S pv1 (d.keep 4 (byF zeros32)).2 ∧ Only (fun _ => False) w1 w3 ∧ w3.heap[w1.heap.size]? = some (.cells #[.int .u64 1, .int .u32 0, .int .u32 0] 74 (0, 0)) ∧ w1.heap.size < w3.heap.size ∧ w'.heap.size ≤ wA.heap.size ∧ wA.heap.size ≤ w1.heap.size) := ⟨hd3, oR3, c3, (Array.getElem?_eq_some_iff.1 c3).1, hszw, hszA⟩
 clear oR3 hd3 hsz1 hszA hszw c3 H3 HRB HE2
 go_wp2_with fail
 refine (show Calls Tryz.prog 29 _ _ _ from HK3.out).mono ?_
 rintro e w4 ⟨rfl, H4⟩
 clear HK3
 have hr4 : ¬ diskB p S pv1 w1.heap.size := fun e => by have := (H1'.out.1.lt _ e).2; omega
 have x0 : w4.cell? ⟨w1.heap.size, 0, none⟩ = some (.int .u64 1) := by
  obtain ⟨pv4, hd4, ho4, hp4⟩ := H4.out
  exact ho4.cell (by rw [cell_of_row _ _ _ _ _ _ H3'.out.2.2.1]; rfl) hr4
 clear hr4
 obtain ⟨w5, hw5⟩ : ∃ q, q = w4.alloc (.cells #[.pointer (some ⟨p, 0, none⟩), .int .i64 (N : Nat), .int .u64 1, .int .i64 0, .slice none 0 0, .map none, .map none] 79) := ⟨_, rfl⟩
 obtain ⟨w6, hw6⟩ : ∃ q, q = w5.alloc (.map #[] 0) := ⟨_, rfl⟩
 have o5 : Only (fun _ => False) w4 w5 := by rw [hw5]; exact (Only.refl _ w4).alloc _
 have o6 : Only (fun _ => False) w5 w6 := by rw [hw6]; exact (Only.refl _ w5).alloc _
 have s5 : w5.heap.size = w4.heap.size + 1 := by rw [hw5]; simp
 have s6 : w6.heap.size = w4.heap.size + 2 := by rw [hw6]; simp [s5]
 have b5 : w5.heap[w4.heap.size]? = some (.cells #[.pointer (some ⟨p, 0, none⟩), .int .i64 (N : Nat), .int .u64 1, .int .i64 0, .slice none 0 0, .map none, .map none] 79 (0, 0)) := by rw [hw5]; exact heap_alloc_new w4 _
 have b6 : w6.heap[w4.heap.size]? = some (.cells #[.pointer (some ⟨p, 0, none⟩), .int .i64 (N : Nat), .int .u64 1, .int .i64 0, .slice none 0 0, .map none, .map none] 79 (0, 0)) := by rw [o6.block _ (by omega) (fun e => e)]; exact b5
 have m6 : MapAt w6 (w4.heap.size + 1) [] := by rw [hw6, ← s5]; exact MapAt.made w5
 have r6 : w6.rangeAt w4.heap.size 0 [.pointer (some ⟨p, 0, none⟩), .int .i64 (N : Nat), .int .u64 1, .int .i64 0, .slice none 0 0, .map none, .map none] := fun j v hv => by
  rw [cell_of_row _ _ _ _ _ _ b6, Nat.zero_add]
  simpa using hv
 have t6 : w6.there w4.heap.size 0 7 := fun j hj => by
  refine ⟨?_, frozen_of_row _ _ _ _ _ b6⟩
  rw [cell_of_row _ _ _ _ _ _ b6, Nat.zero_add]
  have : j = 0 ∨ j = 1 ∨ j = 2 ∨ j = 3 ∨ j = 4 ∨ j = 5 ∨ j = 6 := by omega
  rcases this with rfl | rfl | rfl | rfl | rfl | rfl | rfl <;> rfl
 have HT : Hid (Calls Tryz.prog 31 _ _ _) := take_any w4.heap.size (w4.heap.size + 1) _ _ _ _ _ _ _ [] w6 r6 t6 m6
 rw [s6] at HT
 have HW6 : Hid (w6 = (w4.alloc (.cells #[.pointer (some ⟨p, 0, none⟩), .int .i64 (N : Nat), .int .u64 1, .int .i64 0, .slice none 0 0, .map none, .map none] 79)).alloc (.map #[] 0)) := (by rw [hw6, hw5] : _ = _)
 have H6 : Hid (Only (fun _ => False) w4 w6 ∧ w6.heap.size = w4.heap.size + 2) := ⟨o5.trans o6 (fun _ _ e => e), s6⟩
 clear hw5 hw6 o5 o6 s5 s6 b5 b6 m6 r6 t6
 go_wp2_with fail
 rw [← HW6.out]
 refine (show Calls Tryz.prog 31 _ _ _ from HT.out).mono ?_
 rintro e w7 ⟨rfl, hr7, ht7, hm7, hn7, ho7⟩
 have HE : Hid (∃ pv', DiskAt w7 B p S pv' ((d.keep 4 (byF zeros32)).2.keep 0 (byF (rootB 1 0 0))).2 ∧ StAt w7 (diskB p S pv') w4.heap.size p (w4.heap.size + 1) (w4.heap.size + 2) (.slice none 0 0) (SS.new N) ∧ Only (diskB p S pv) w' w7 ∧ (∀ b, pv'.ownBlock = some b → pv.ownBlock = some b ∨ w'.heap.size ≤ b) ∧ w'.heap.size ≤ w4.heap.size ∧ w'.heap.size ≤ w4.heap.size + 1 ∧ w'.heap.size ≤ w4.heap.size + 2) := by
  obtain ⟨pv4, hd4, ho4, hp4⟩ := H4.out
  obtain ⟨hd3, o13, _, hlt, ha, hb⟩ := H3'.out
  obtain ⟨hd1, ho1, hp1⟩ := H1'.out
  have h34 := ho4.size
  have h13 := o13.size
  have hd6 := hd4.frame H6.out.1 (fun _ _ e => e)
  have lt4 := hd4.lt
  have hd7 := hd6.frame ho7 (fun k hk e => by have := (lt4 k hk).2; omega)
  have nk : ∀ k, w4.heap.size ≤ k → ¬ diskB p S pv4 k := fun k hk e => by have := (lt4 k e).2; omega
  refine ⟨pv4, hd7, ?_, ?_, fun b hb' => ?_, by omega, by omega, by omega⟩
  ·exact { cells := hr7, there := ht7, d1 := by omega, d2 := by omega, d3 := by omega, k1 := nk _ (by omega), k2 := nk _ (by omega), k3 := nk _ (by omega)
           tabs := .inl ⟨rfl, rfl⟩, tabsB := fun b hb' => by simp [Value.ownBlock] at hb', com := PMap.bare _ hn7, now := PMap.bare _ hm7
           wf := new_wf N HN.out.2.1 (by have := HN.out.2.2; have := HN.out.1; omega) }
  ·have oA : Only (diskB p S pv) w' wA := H0.out.2.1.mono (fun _ _ e => e.elim)
   have oA1 : Only (diskB p S pv) w' w1 := oA.trans ho1 (fun _ _ e => e)
   have o3 : Only (diskB p S pv) w' w3 := oA1.trans o13 (fun _ _ e => e.elim)
   have o4 : Only (diskB p S pv) w' w4 := o3.trans ho4 (fun k hk e => by
    rcases e with e | e | e
    ·exact .inl e
    ·exact .inr (.inl e)
    ·rcases hp1 k e with e | e
     ·exact .inr (.inr e)
     ·omega)
   exact (o4.trans H6.out.1 (fun _ _ e => e.elim)).trans ho7 (fun k hk e => by omega)
  ·rcases hp4 b hb' with e | e
   ·rcases hp1 b e with e | e
    ·exact .inl e
    ·exact .inr (by omega)
   ·exact .inr (by omega)
 clear hr7 ht7 hm7 hn7 ho7 HT H6 H4 H3' H1' HR HWR HW6 H0 HA HB HN x0 hmm
 go_wp2
 go_ret2
 obtain ⟨pv', h⟩ := HE.out
 exact ⟨_, _, _, pv', rfl, h⟩
end Go.Proofs.YtlcglapcmdpkfaaGreat
