import Derived.Test.YtlcglapcmdpkfaaGreatM4
namespace Go.Proofs.YtlcglapcmdpkfaaGreat
open Go.RowKit Go.Maps
set_option linter.unusedSimpArgs false
set_option linter.unusedVariables false
section
variable {w : World} {dk : Nat → Prop} {s p mc mn : Nat} {tv : Value} {x : SS}
theorem SS.Wf.put {x : SS} (h : x.Wf) (i : Int) (hi : 0 ≤ i ∧ i < 728) (zs : List Nat) (hl : zs.length ≤ 116) : SS.Wf { x with now := putL x.now i (0, zs) } :=
 { size := h.size, epoch := h.epoch, sector := h.sector, tabs := h.tabs, com := h.com
   now := fun p hp => by
    rcases (putL_mem _ _ _ _).1 hp with rfl | hp
    ·exact ⟨hi, .inl rfl, hl⟩
    ·exact h.now p hp.1 }
theorem SS.Wf.drop {x : SS} (h : x.Wf) (i : Int) : SS.Wf { x with now := delL x.now i } :=
 { size := h.size, epoch := h.epoch, sector := h.sector, tabs := h.tabs, com := h.com
   now := fun p hp => h.now p ((delL_mem _ _ _).1 hp).1 }
theorem now_len {x : SS} (h : x.Wf) (hr : Rise x.now) : x.now.length ≤ 728 := by
 have := Rise.len (a := 0) (b := 728) hr (fun p hp => (h.now p hp).1)
 simp at this
 omega
theorem StAt.turn {w2 : World} {l : Pgs} (h : StAt w dk s p mc mn tv x) (ho : Only (fun k => k = mn) w w2) (hn : PMap w2 (mutB dk s mc mn) mn l) (hw : SS.Wf { x with now := l }) : StAt w2 dk s p mc mn tv { x with now := l } := by
 have hb' : ∀ k, k < w.heap.size → k = mn → mutB dk s mc mn k := fun k _ e => .inr (.inr (.inl e))
 exact { cells := ho.range h.cells h.d2, there := ho.there h.there h.d2, d1 := h.d1, d2 := h.d2, d3 := h.d3, k1 := h.k1, k2 := h.k2, k3 := h.k3
         tabs := h.tabs.keep ho (fun b e e' => (h.tabsB b e).2 (hb' b (h.tabsB b e).1 e'))
         tabsB := fun b e => ⟨Nat.lt_of_lt_of_le (h.tabsB b e).1 ho.size, (h.tabsB b e).2⟩
         com := h.com.frame ho h.d3 hb' (fun _ _ e => e), now := hn, wf := hw }
theorem mutB_lt (h : StAt w dk s p mc mn tv x) (hd : ∀ k, dk k → k < w.heap.size) : ∀ k, mutB dk s mc mn k → k < w.heap.size := by
 rintro k (rfl | rfl | rfl | e)
 ·exact h.lt
 ·exact h.com.lt
 ·exact h.now.lt
 ·exact hd k e
theorem StAt.store {w1 : World} {zs : List Nat} {a : Option Addr} {c : Nat} (h : StAt w dk s p mc mn tv x) (hd : ∀ k, dk k → k < w.heap.size) (i : Int) (hi : 0 ≤ i ∧ i < 728) (hl : zs.length ≤ 116) (ho : Only (fun _ => False) w w1) (hf : Fresh w1 w.heap.size (.slice a zs.length c) zs) :
  ∃ w2, (Instr.mapUpdate 77 (.map (some mn)) (.int .i64 i) (.agg #[.int .i64 0, .slice a zs.length c])).run Tryz.prog w1 = .ok () w2 ∧ StAt w2 dk s p mc mn tv { x with now := putL x.now i (0, zs) } ∧ Only (fun k => k = mn) w w2 := by
 have h1 := h.still ho
 obtain ⟨sl, hm, hs⟩ := h1.now
 have hlen : (x.now.map fun p => (p.1, pgV sl p)).length < maxLen := by
  rw [List.length_map]
  have := now_len h.wf h.now.rise
  unfold maxLen
  omega
 obtain ⟨w2, hr, hm2, ho2, hsz⟩ := hm.store i (by omega) hlen (.agg #[.int .i64 0, .slice a zs.length c])
 have hO : Only (fun k => k = mn) w w2 := (ho.mono (fun _ _ e => e.elim)).trans ho2 (fun _ _ e => e)
 refine ⟨w2, hr, h1.turn ho2 ?_ (h.wf.put i hi zs hl) , hO⟩
 refine ⟨fun k => if k = i then .slice a zs.length c else sl k, ?_, fun q hq => ?_⟩
 ·have e := putL_map (pgV sl) (pgV (fun k => if k = i then .slice a zs.length c else sl k)) (i, 0, zs) x.now (fun p hp => by simp only [pgV]; rw [if_neg hp])
  rw [← e]
  have e2 : pgV (fun k => if k = i then .slice a zs.length c else sl k) (i, 0, zs) = .agg #[.int .i64 0, .slice a zs.length c] := by simp [pgV]
  rw [e2]
  exact hm2
 ·rcases (putL_mem _ _ _ _).1 hq with rfl | ⟨hq, hne⟩
  ·simp only [if_true]
   have hown : ∀ b, (Value.slice a zs.length c).ownBlock = some b → w.heap.size ≤ b ∧ b < w1.heap.size := fun b hb => hf.1.lt b hb
   refine ⟨hf.bytes.keep ho2 (fun b hb e => ?_), fun b hb => ⟨?_, fun e => ?_⟩⟩
   ·have := (hown b hb).1
    have := h.now.lt
    omega
   ·have := (hown b hb).2; omega
   ·have := mutB_lt h hd b e
    have := (hown b hb).1
    omega
  ·obtain ⟨hb1, hb2⟩ := hs q hq
   simp only [if_neg hne]
   refine ⟨hb1.keep ho2 (fun b hb e => (hb2 b hb).2 (.inr (.inr (.inl e)))), fun b hb => ⟨by have := (hb2 b hb).1; omega, (hb2 b hb).2⟩⟩
set_option maxRecDepth 100000 in
set_option maxHeartbeats 2000000 in
theorem put_ok (h : StAt w dk s p mc mn tv x) (hd : ∀ k, dk k → k < w.heap.size) (i : Int) (hi : 0 ≤ i ∧ i < 728) (v : Value) (zs : List Nat) (hv : BytesAt w v zs) (hl : zs.length ≤ 116) :
  Calls Tryz.prog 12 #[.pointer (some ⟨s, 0, none⟩), .int .i64 i, v] w fun e w' => e = .returned (.int .i64 0) ∧ StAt w' dk s p mc mn tv { x with now := putL x.now i (0, zs) } ∧ Only (fun k => k = mn) w w' := by
 have HR := sreach_ok s p i w h.c0 hi
 have h6 := h.c6
 have HC : Hid (Calls Tryz.prog 33 #[v] w.drew fun e w1 => ∃ a c w2, e = .returned (.slice a zs.length c) ∧ Hid (w1.cell? ⟨s, 6, none⟩ = some (.map (some mn))) ∧ (Instr.mapUpdate 77 (.map (some mn)) (.int .i64 i) (.agg #[.int .i64 0, .slice a zs.length c])).run Tryz.prog w1 = .ok () w2 ∧ Hid (StAt w2 dk s p mc mn tv { x with now := putL x.now i (0, zs) } ∧ Only (fun k => k = mn) w w2)) := by
  refine (bclone_any v zs w.drew hv).mono ?_
  rintro e w1 ⟨u, rfl, hf, ho⟩
  have ho' : Only (fun _ => False) w w1 := ((Only.refl _ w).drew).trans ho (fun _ _ e => e)
  obtain ⟨a, c, rfl⟩ := hf.form
  obtain ⟨w2, h1, h2, h3⟩ := h.store hd i hi hl ho' hf
  exact ⟨a, c, w2, rfl, (h.still ho').c6, h1, h2, h3⟩
 obtain ⟨a0, c0, rfl, _, _⟩ := hv.form
 have hl2 : ¬ (116 : Int) < (zs.length : Int) := by omega
 have HI : Hid (0 ≤ i ∧ i < 728) := hi
 clear h hd hi hv hl
 go_enter Tryz.func12, Tryz.ntmps12
 go_wp2_with (go_at_call 32; refine HR.mono ?_; rintro e w' ⟨rfl, rfl⟩)
 clear HR
 go_region_held3 (fun w' => w'.cell? ⟨s, 6, none⟩ = some (.map (some mn))) (first | exact HS.out.1.c6 | exact H6.out | go_keep)
  (first
   | (go_at_call 33; refine (show Calls Tryz.prog 33 _ _ _ from HC.out).mono ?_; rintro e w1 ⟨a, c, w2, rfl, H6, hup, HS⟩))
 go_wp2
 go_ret
 exact ⟨rfl, HS.out⟩
set_option maxRecDepth 100000 in
set_option maxHeartbeats 2000000 in
theorem put_large (h : StAt w dk s p mc mn tv x) (i : Int) (hi : 0 ≤ i ∧ i < 728) (a : Option Addr) (n c : Nat) (hl : 116 < n) :
  Calls Tryz.prog 12 #[.pointer (some ⟨s, 0, none⟩), .int .i64 i, .slice a n c] w fun e w' => e = .returned (.int .i64 11) ∧ w' = w := by
 have HR := sreach_ok s p i w h.c0 hi
 have hl2 : (116 : Int) < (n : Int) := by omega
 clear h hi
 go_enter Tryz.func12, Tryz.ntmps12
 go_wp2_with (go_at_call 32; refine HR.mono ?_; rintro e w' ⟨rfl, rfl⟩)
 go_ret
 exact ⟨rfl, rfl⟩
set_option maxRecDepth 100000 in
set_option maxHeartbeats 2000000 in
theorem put_out (h : StAt w dk s p mc mn tv x) (i : Int) (hi : i < 0 ∨ 728 ≤ i) (v : Value) :
  Calls Tryz.prog 12 #[.pointer (some ⟨s, 0, none⟩), .int .i64 i, v] w fun e w' => e = .returned (.int .i64 4) ∧ w' = w := by
 have HR := sreach_out s p i w h.c0 hi
 clear h hi
 go_enter Tryz.func12, Tryz.ntmps12
 go_wp2_with (go_at_call 32; refine HR.mono ?_; rintro e w' ⟨rfl, rfl⟩)
 go_ret
 exact ⟨rfl, rfl⟩
theorem StAt.strike {w1 : World} (h : StAt w dk s p mc mn tv x) (i : Int) (hi : 0 ≤ i ∧ i < 728) (ho : Only (fun _ => False) w w1) (ty : TypeId) :
  ∃ w2, (Builtin.delete_ #[77, 3] ty #[.map (some mn), .int .i64 i]).run Tryz.prog w1 = .ok (.tuple #[]) w2 ∧ StAt w2 dk s p mc mn tv { x with now := delL x.now i } ∧ Only (fun k => k = mn) w w2 := by
 have h1 := h.still ho
 obtain ⟨sl, hm, hs⟩ := h1.now
 obtain ⟨w2, hr, hm2, ho2, hsz⟩ := hm.drop i (by omega) ty
 rw [delL_map] at hm2
 refine ⟨w2, hr, h1.turn ho2 ⟨sl, hm2, fun q hq => ?_⟩ (h.wf.drop i), (ho.mono (fun _ _ e => e.elim)).trans ho2 (fun _ _ e => e)⟩
 obtain ⟨hb1, hb2⟩ := hs q ((delL_mem _ _ _).1 hq).1
 exact ⟨hb1.keep ho2 (fun b hb e => (hb2 b hb).2 (.inr (.inr (.inl e)))), fun b hb => ⟨by have := (hb2 b hb).1; omega, (hb2 b hb).2⟩⟩
set_option maxRecDepth 100000 in
set_option maxHeartbeats 2000000 in
theorem epoch_ok (h : StAt w dk s p mc mn tv x) : Calls Tryz.prog 14 #[.pointer (some ⟨s, 0, none⟩)] w fun e w' => e = .returned (.int .u64 (x.epoch : Nat)) ∧ w' = w := by
 have HU := usable_ok s p w h.c0
 have h2 := h.c2
 clear h
 go_enter Tryz.func14, Tryz.ntmps14
 go_wp2_with (go_at_call 35; refine HU.mono ?_; rintro e w' ⟨rfl, rfl⟩)
 go_ret
 exact ⟨rfl, rfl⟩
end
end Go.Proofs.YtlcglapcmdpkfaaGreat
