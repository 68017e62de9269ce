/-       -/
import Derived.Test.YtlcglapcmdpkfaaGreatGaf
import Derived.Test.YtlcglapcmdpkfaaGreatGae
namespace Go.Proofs.YtlcglapcmdpkfaaGreat
open Go.RowKit Go.Maps
set_option linter.unusedSimpArgs false
set_option linter.unusedVariables false
set_option maxRecDepth 100000
set_option maxHeartbeats 16000000
section
variable {w : World} {dk : Nat → Prop} {s p mc mn : Nat} {tv : Value} {x : SS}
theorem StAt.c0 (h : StAt w dk s p mc mn tv x) : w.cell? ⟨s, 0, none⟩ = some (.pointer (some ⟨p, 0, none⟩)) := h.cells 0 _ rfl
theorem StAt.c1 (h : StAt w dk s p mc mn tv x) : w.cell? ⟨s, 1, none⟩ = some (.int .i64 (x.size : Nat)) := h.cells 1 _ rfl
theorem StAt.c2 (h : StAt w dk s p mc mn tv x) : w.cell? ⟨s, 2, none⟩ = some (.int .u64 (x.epoch : Nat)) := h.cells 2 _ rfl
theorem StAt.c3 (h : StAt w dk s p mc mn tv x) : w.cell? ⟨s, 3, none⟩ = some (.int .i64 (x.sector : Nat)) := h.cells 3 _ rfl
theorem StAt.c4 (h : StAt w dk s p mc mn tv x) : w.cell? ⟨s, 4, none⟩ = some tv := h.cells 4 _ rfl
theorem StAt.c5 (h : StAt w dk s p mc mn tv x) : w.cell? ⟨s, 5, none⟩ = some (.map (some mc)) := h.cells 5 _ rfl
theorem StAt.c6 (h : StAt w dk s p mc mn tv x) : w.cell? ⟨s, 6, none⟩ = some (.map (some mn)) := h.cells 6 _ rfl
theorem StAt.fz (h : StAt w dk s p mc mn tv x) (j : Nat) (hj : j < 7) : w.frozen? ⟨s, j, none⟩ = false := by
 have := (h.there j hj).2
 rwa [Nat.zero_add] at this
end
theorem field_at (a : Int) (ad : Option Addr) (n c : Nat) (w : World) : (Instr.field 82 (.agg #[.int .i64 a, .slice ad n c]) 0).run Tryz.prog w = .ok (.int .i64 a) w := by kernel_rfl
theorem field_data (a : Int) (ad : Option Addr) (n c : Nat) (w : World) : (Instr.field 82 (.agg #[.int .i64 a, .slice ad n c]) 1).run Tryz.prog w = .ok (.slice ad n c) w := by kernel_rfl
def pgAt (l : Pgs) (k : Int) : Option (Nat × List Nat) := getL l k
theorem holds_out (s p : Nat) (i : Int) (w : World) (h : w.cell? ⟨s, 0, none⟩ = some (.pointer (some ⟨p, 0, none⟩))) (hi : i < 0 ∨ 728 ≤ i) : Calls Tryz.prog 34 #[.pointer (some ⟨s, 0, none⟩), .int .i64 i] w fun e w' => e = .returned (.int .i64 4) ∧ w' = w := by
 have HR := sreach_out s p i w h hi
 clear h
 go_enter Tryz.func34, Tryz.ntmps34
 go_wp2_with (go_at_call 32; refine HR.mono ?_; rintro e w' ⟨rfl, rfl⟩)
 go_ret
 exact ⟨rfl, rfl⟩
theorem holds_core (s p mn : Nat) (i : Int) (w : World) (a : Int) (sl : Value) (b : Bool) (h : w.cell? ⟨s, 0, none⟩ = some (.pointer (some ⟨p, 0, none⟩))) (h6 : w.cell? ⟨s, 6, none⟩ = some (.map (some mn))) (hi : 0 ≤ i ∧ i < 728) (hsl : ∃ ad n c, sl = .slice ad n c)
  (hl : (Instr.lookup 77 (.map (some mn)) (.int .i64 i) true).run Tryz.prog w = .ok (.tuple #[.agg #[.int .i64 a, sl], .bool b]) w) :
  Calls Tryz.prog 34 #[.pointer (some ⟨s, 0, none⟩), .int .i64 i] w fun e w' => e = .returned (.int .i64 (if b then 0 else 6)) ∧ Only (fun _ => False) w w' := by
 have HR := sreach_ok s p i w h hi
 obtain ⟨ad, n, c, rfl⟩ := hsl
 clear h
 cases b
 ·go_enter Tryz.func34, Tryz.ntmps34
  go_wp2_with (go_at_call 32; refine HR.mono ?_; rintro e w' ⟨rfl, rfl⟩)
  go_ret
  exact ⟨rfl, (Only.refl _ _).alloc _⟩
 ·go_enter Tryz.func34, Tryz.ntmps34
  go_wp2_with (go_at_call 32; refine HR.mono ?_; rintro e w' ⟨rfl, rfl⟩)
  go_ret
  exact ⟨rfl, (Only.refl _ _).alloc _⟩
theorem PMap.look {w : World} {av : Nat → Prop} {m : Nat} {l : Pgs} (h : PMap w av m l) (i : Int) (hi : 0 ≤ i ∧ i < 728) :
  ∃ (a : Nat) (sl : Value) (zs : List Nat), (Instr.lookup 77 (.map (some m)) (.int .i64 i) true).run Tryz.prog w = .ok (.tuple #[.agg #[.int .i64 (a : Nat), sl], .bool (pgAt l i).isSome]) w ∧
    (Instr.lookup 77 (.map (some m)) (.int .i64 i) false).run Tryz.prog w = .ok (.agg #[.int .i64 (a : Nat), sl]) w ∧ BytesAt w sl zs ∧ (pgAt l i).getD (0, []) = (a, zs) := by
 obtain ⟨sl, h1, h2⟩ := h
 have e1 := h1.look i (by omega)
 have e2 := h1.look1 i (by omega)
 rw [getL_map] at e1 e2
 cases hf : l.find? fun p => p.1 == i with
 | none =>
   rw [hf] at e1 e2
   refine ⟨0, .slice none 0 0, [], ?_, e2, ⟨.inl ⟨rfl, rfl⟩, by simp, fun z hz => by cases hz⟩, by simp [pgAt, getL, hf]⟩
   rw [e1]
   simp [pgAt, getL, hf, pg0]
 | some q =>
   obtain ⟨hq1, hq2⟩ := find_key hf
   rw [hf] at e1 e2
   refine ⟨q.2.1, sl q.1, q.2.2, ?_, e2, (h2 q hq1).1, by simp [pgAt, getL, hf]⟩
   rw [e1]
   simp [pgAt, getL, hf, pgV]
theorem bytes_slice {w : World} {v : Value} {zs : List Nat} (h : BytesAt w v zs) : ∃ ad n c, v = .slice ad n c := by
 obtain ⟨a, c, h, _⟩ := h.form
 exact ⟨_, _, _, h⟩
section
variable {w : World} {dk : Nat → Prop} {s p mc mn : Nat} {tv : Value} {x : SS}
theorem holds_st (h : StAt w dk s p mc mn tv x) (i : Int) (hi : 0 ≤ i ∧ i < 728) :
  Calls Tryz.prog 34 #[.pointer (some ⟨s, 0, none⟩), .int .i64 i] w fun e w' => e = .returned (.int .i64 (if (pgAt x.now i).isSome then 0 else 6)) ∧ Only (fun _ => False) w w' := by
 obtain ⟨a, sl, zs, h1, _, h3, _⟩ := h.now.look i hi
 exact holds_core s p mn i w a sl _ h.c0 h.c6 hi (bytes_slice h3) h1
theorem StAt.still {w' : World} (h : StAt w dk s p mc mn tv x) (ho : Only (fun _ => False) w w') : StAt w' dk s p mc mn tv x := h.frame ho (fun _ _ e => e.elim) (fun _ _ e => e)
theorem get_some (h : StAt w dk s p mc mn tv x) (i : Int) (hi : 0 ≤ i ∧ i < 728) {a : Nat} {zs : List Nat} (hg : pgAt x.now i = some (a, zs)) :
  Calls Tryz.prog 13 #[.pointer (some ⟨s, 0, none⟩), .int .i64 i] w fun e w' => ∃ u, e = .returned (.tuple #[u, .int .i64 0]) ∧ Fresh w' w.heap.size u zs ∧ Only (fun _ => False) w w' := by
 have HH := holds_st h i hi
 simp only [hg, Option.isSome_some, ↓reduceIte] at HH
 have HS : Hid (StAt w dk s p mc mn tv x) := h
 have HG : Hid _ := hg
 have HI : Hid _ := hi
 clear h hg hi
 go_enter Tryz.func13, Tryz.ntmps13
 go_wp2_with fail
 refine HH.mono ?_
 rintro e w1 ⟨rfl, ho1⟩
 have h1 := HS.out.still ho1
 obtain ⟨a', sl, zs', _, hl, hb, he⟩ := h1.now.look i HI.out
 rw [HG.out] at he
 simp only [Option.getD_some, Prod.mk.injEq] at he
 obtain ⟨rfl, rfl⟩ := he
 obtain ⟨ad, n, c, rfl⟩ := bytes_slice hb
 have h6 := h1.c6
 have hfd := field_data (a : Int) ad n c w1
 have HC : Hid (Calls Tryz.prog 33 _ _ _) := bclone_any _ _ w1 hb
 have HO1 : Hid (Only (fun _ => False) w w1) := ho1
 clear h1 hb HH ho1
 go_wp2_with (go_at_call 33; refine (show Calls Tryz.prog 33 _ _ _ from HC.out).mono ?_; rintro e w2 ⟨u, rfl, hf2, ho2⟩)
 have HF : Hid (Fresh w2 w1.heap.size u zs) := hf2
 have HO2 : Hid (Only (fun _ => False) w1 w2) := ho2
 clear hf2 ho2
 try go_wp2
 go_ret2
 refine ⟨_, rfl, ?_, HO1.out.trans HO2.out (fun _ _ e => e)⟩
 have hs := HO1.out.size
 exact ⟨by
  refine ⟨HF.out.1.1, HF.out.1.2.imp id ?_⟩
  rintro ⟨g, cap, cur, e1, e2, r⟩
  exact ⟨g, cap, cur, e1, by omega, r⟩, HF.out.2⟩
theorem get_none (h : StAt w dk s p mc mn tv x) (i : Int) (hi : 0 ≤ i ∧ i < 728) (hg : pgAt x.now i = none) :
  Calls Tryz.prog 13 #[.pointer (some ⟨s, 0, none⟩), .int .i64 i] w fun e w' => e = .returned (.tuple #[.slice none 0 0, .int .i64 6]) ∧ Only (fun _ => False) w w' := by
 have HH := holds_st h i hi
 simp only [hg, Option.isSome_none, Bool.false_eq_true, ↓reduceIte] at HH
 clear h hg hi
 go_enter Tryz.func13, Tryz.ntmps13
 go_wp2_with fail
 refine HH.mono ?_
 rintro e w1 ⟨rfl, ho1⟩
 have HO : Hid _ := ho1
 clear HH ho1
 go_wp2
 go_ret2
 exact ⟨rfl, HO.out⟩
theorem get_out (h : StAt w dk s p mc mn tv x) (i : Int) (hi : i < 0 ∨ 728 ≤ i) :
  Calls Tryz.prog 13 #[.pointer (some ⟨s, 0, none⟩), .int .i64 i] w fun e w' => e = .returned (.tuple #[.slice none 0 0, .int .i64 4]) ∧ w' = w := by
 have HH := holds_out s p i w h.c0 hi
 clear h hi
 go_enter Tryz.func13, Tryz.ntmps13
 go_wp2_with (go_at_call 34; refine HH.mono ?_; rintro e w' ⟨rfl, rfl⟩)
 go_ret2
 exact ⟨rfl, rfl⟩
end
section
variable {w : World} {dk : Nat → Prop} {s p mc mn : Nat} {tv : Value} {x : SS}
theorem SS.Wf.put {x : SS} (h : x.Wf) (i : Int) (hi : 0 ≤ i ∧ i < 728) (zs : List Nat) (hl : zs.length ≤ 116) : SS.Wf { x with now := putL x.now i (0, zs) } :=
 { size := h.size, epoch := h.epoch, sector := h.sector, tabs := h.tabs, com := h.com
   now := fun p hp => by
    rcases (putL_mem _ _ _ _).1 hp with rfl | hp
    ·exact ⟨hi, .inl rfl, hl⟩
    ·exact h.now p hp.1 }
theorem SS.Wf.drop {x : SS} (h : x.Wf) (i : Int) : SS.Wf { x with now := delL x.now i } :=
 { size := h.size, epoch := h.epoch, sector := h.sector, tabs := h.tabs, com := h.com
   now := fun p hp => h.now p ((delL_mem _ _ _).1 hp).1 }
theorem now_len {x : SS} (h : x.Wf) (hr : Rise x.now) : x.now.length ≤ 728 := by
 have := Rise.len (a := 0) (b := 728) hr (fun p hp => (h.now p hp).1)
 simp at this
 omega
theorem StAt.turn {w2 : World} {l : Pgs} (h : StAt w dk s p mc mn tv x) (ho : Only (fun k => k = mn) w w2) (hn : PMap w2 (mutB dk s mc mn) mn l) (hw : SS.Wf { x with now := l }) : StAt w2 dk s p mc mn tv { x with now := l } := by
 have hb' : ∀ k, k < w.heap.size → k = mn → mutB dk s mc mn k := fun k _ e => .inr (.inr (.inl e))
 exact { cells := ho.range h.cells h.d2, there := ho.there h.there h.d2, d1 := h.d1, d2 := h.d2, d3 := h.d3, k1 := h.k1, k2 := h.k2, k3 := h.k3
         tabs := h.tabs.keep ho (fun b e e' => (h.tabsB b e).2 (hb' b (h.tabsB b e).1 e'))
         tabsB := fun b e => ⟨Nat.lt_of_lt_of_le (h.tabsB b e).1 ho.size, (h.tabsB b e).2⟩
         com := h.com.frame ho h.d3 hb' (fun _ _ e => e), now := hn, wf := hw }
theorem mutB_lt (h : StAt w dk s p mc mn tv x) (hd : ∀ k, dk k → k < w.heap.size) : ∀ k, mutB dk s mc mn k → k < w.heap.size := by
 rintro k (rfl | rfl | rfl | e)
 ·exact h.lt
 ·exact h.com.lt
 ·exact h.now.lt
 ·exact hd k e
theorem StAt.store {w1 : World} {zs : List Nat} {a : Option Addr} {c : Nat} (h : StAt w dk s p mc mn tv x) (hd : ∀ k, dk k → k < w.heap.size) (i : Int) (hi : 0 ≤ i ∧ i < 728) (hl : zs.length ≤ 116) (ho : Only (fun _ => False) w w1) (hf : Fresh w1 w.heap.size (.slice a zs.length c) zs) :
  ∃ w2, (Instr.mapUpdate 77 (.map (some mn)) (.int .i64 i) (.agg #[.int .i64 0, .slice a zs.length c])).run Tryz.prog w1 = .ok () w2 ∧ StAt w2 dk s p mc mn tv { x with now := putL x.now i (0, zs) } ∧ Only (fun k => k = mn) w w2 := by
 have h1 := h.still ho
 obtain ⟨sl, hm, hs⟩ := h1.now
 have hlen : (x.now.map fun p => (p.1, pgV sl p)).length < maxLen := by
  rw [List.length_map]
  have := now_len h.wf h.now.rise
  unfold maxLen
  omega
 obtain ⟨w2, hr, hm2, ho2, hsz⟩ := hm.store i (by omega) hlen (.agg #[.int .i64 0, .slice a zs.length c])
 have hO : Only (fun k => k = mn) w w2 := (ho.mono (fun _ _ e => e.elim)).trans ho2 (fun _ _ e => e)
 refine ⟨w2, hr, h1.turn ho2 ?_ (h.wf.put i hi zs hl) , hO⟩
 refine ⟨fun k => if k = i then .slice a zs.length c else sl k, ?_, fun q hq => ?_⟩
 ·have e := putL_map (pgV sl) (pgV (fun k => if k = i then .slice a zs.length c else sl k)) (i, 0, zs) x.now (fun p hp => by simp only [pgV]; rw [if_neg hp])
  rw [← e]
  have e2 : pgV (fun k => if k = i then .slice a zs.length c else sl k) (i, 0, zs) = .agg #[.int .i64 0, .slice a zs.length c] := by simp [pgV]
  rw [e2]
  exact hm2
 ·rcases (putL_mem _ _ _ _).1 hq with rfl | ⟨hq, hne⟩
  ·simp only [if_true]
   have hown : ∀ b, (Value.slice a zs.length c).ownBlock = some b → w.heap.size ≤ b ∧ b < w1.heap.size := fun b hb => hf.1.lt b hb
   refine ⟨hf.bytes.keep ho2 (fun b hb e => ?_), fun b hb => ⟨?_, fun e => ?_⟩⟩
   ·have := (hown b hb).1
    have := h.now.lt
    omega
   ·have := (hown b hb).2; omega
   ·have := mutB_lt h hd b e
    have := (hown b hb).1
    omega
  ·obtain ⟨hb1, hb2⟩ := hs q hq
   simp only [if_neg hne]
   refine ⟨hb1.keep ho2 (fun b hb e => (hb2 b hb).2 (.inr (.inr (.inl e)))), fun b hb => ⟨by have := (hb2 b hb).1; omega, (hb2 b hb).2⟩⟩
theorem put_ok (h : StAt w dk s p mc mn tv x) (hd : ∀ k, dk k → k < w.heap.size) (i : Int) (hi : 0 ≤ i ∧ i < 728) (v : Value) (zs : List Nat) (hv : BytesAt w v zs) (hl : zs.length ≤ 116) :
  Calls Tryz.prog 12 #[.pointer (some ⟨s, 0, none⟩), .int .i64 i, v] w fun e w' => e = .returned (.int .i64 0) ∧ StAt w' dk s p mc mn tv { x with now := putL x.now i (0, zs) } ∧ Only (fun k => k = mn) w w' := by
 have HR := sreach_ok s p i w h.c0 hi
 have h6 := h.c6
 have HC : Hid (Calls Tryz.prog 33 #[v] w.drew fun e w1 => ∃ a c w2, e = .returned (.slice a zs.length c) ∧ Hid (w1.cell? ⟨s, 6, none⟩ = some (.map (some mn))) ∧ (Instr.mapUpdate 77 (.map (some mn)) (.int .i64 i) (.agg #[.int .i64 0, .slice a zs.length c])).run Tryz.prog w1 = .ok () w2 ∧ Hid (StAt w2 dk s p mc mn tv { x with now := putL x.now i (0, zs) } ∧ Only (fun k => k = mn) w w2)) := by
  refine (bclone_any v zs w.drew hv).mono ?_
  rintro e w1 ⟨u, rfl, hf, ho⟩
  have ho' : Only (fun _ => False) w w1 := ((Only.refl _ w).drew).trans ho (fun _ _ e => e)
  obtain ⟨a, c, rfl⟩ := hf.form
  obtain ⟨w2, h1, h2, h3⟩ := h.store hd i hi hl ho' hf
  exact ⟨a, c, w2, rfl, (h.still ho').c6, h1, h2, h3⟩
 obtain ⟨a0, c0, rfl, _, _⟩ := hv.form
 have hl2 : ¬ (116 : Int) < (zs.length : Int) := by omega
 have HI : Hid (0 ≤ i ∧ i < 728) := hi
 clear h hd hi hv hl
 go_enter Tryz.func12, Tryz.ntmps12
 go_wp2_with (go_at_call 32; refine HR.mono ?_; rintro e w' ⟨rfl, rfl⟩)
 clear HR
 go_region_held3 (fun w' => w'.cell? ⟨s, 6, none⟩ = some (.map (some mn))) (first | exact HS.out.1.c6 | exact H6.out | go_keep)
  (first
   | (go_at_call 33; refine (show Calls Tryz.prog 33 _ _ _ from HC.out).mono ?_; rintro e w1 ⟨a, c, w2, rfl, H6, hup, HS⟩))
 go_wp2
 go_ret
 exact ⟨rfl, HS.out⟩
theorem put_large (h : StAt w dk s p mc mn tv x) (i : Int) (hi : 0 ≤ i ∧ i < 728) (a : Option Addr) (n c : Nat) (hl : 116 < n) :
  Calls Tryz.prog 12 #[.pointer (some ⟨s, 0, none⟩), .int .i64 i, .slice a n c] w fun e w' => e = .returned (.int .i64 11) ∧ w' = w := by
 have HR := sreach_ok s p i w h.c0 hi
 have hl2 : (116 : Int) < (n : Int) := by omega
 clear h hi
 go_enter Tryz.func12, Tryz.ntmps12
 go_wp2_with (go_at_call 32; refine HR.mono ?_; rintro e w' ⟨rfl, rfl⟩)
 go_ret
 exact ⟨rfl, rfl⟩
theorem put_out (h : StAt w dk s p mc mn tv x) (i : Int) (hi : i < 0 ∨ 728 ≤ i) (v : Value) :
  Calls Tryz.prog 12 #[.pointer (some ⟨s, 0, none⟩), .int .i64 i, v] w fun e w' => e = .returned (.int .i64 4) ∧ w' = w := by
 have HR := sreach_out s p i w h.c0 hi
 clear h hi
 go_enter Tryz.func12, Tryz.ntmps12
 go_wp2_with (go_at_call 32; refine HR.mono ?_; rintro e w' ⟨rfl, rfl⟩)
 go_ret
 exact ⟨rfl, rfl⟩
theorem StAt.strike {w1 : World} (h : StAt w dk s p mc mn tv x) (i : Int) (hi : 0 ≤ i ∧ i < 728) (ho : Only (fun _ => False) w w1) (ty : TypeId) :
  ∃ w2, (Builtin.delete_ #[77, 3] ty #[.map (some mn), .int .i64 i]).run Tryz.prog w1 = .ok (.tuple #[]) w2 ∧ StAt w2 dk s p mc mn tv { x with now := delL x.now i } ∧ Only (fun k => k = mn) w w2 := by
 have h1 := h.still ho
 obtain ⟨sl, hm, hs⟩ := h1.now
 obtain ⟨w2, hr, hm2, ho2, hsz⟩ := hm.drop i (by omega) ty
 rw [delL_map] at hm2
 refine ⟨w2, hr, h1.turn ho2 ⟨sl, hm2, fun q hq => ?_⟩ (h.wf.drop i), (ho.mono (fun _ _ e => e.elim)).trans ho2 (fun _ _ e => e)⟩
 obtain ⟨hb1, hb2⟩ := hs q ((delL_mem _ _ _).1 hq).1
 exact ⟨hb1.keep ho2 (fun b hb e => (hb2 b hb).2 (.inr (.inr (.inl e)))), fun b hb => ⟨by have := (hb2 b hb).1; omega, (hb2 b hb).2⟩⟩
theorem epoch_ok (h : StAt w dk s p mc mn tv x) : Calls Tryz.prog 14 #[.pointer (some ⟨s, 0, none⟩)] w fun e w' => e = .returned (.int .u64 (x.epoch : Nat)) ∧ w' = w := by
 have HU := usable_ok s p w h.c0
 have h2 := h.c2
 clear h
 go_enter Tryz.func14, Tryz.ntmps14
 go_wp2_with (go_at_call 35; refine HU.mono ?_; rintro e w' ⟨rfl, rfl⟩)
 go_ret
 exact ⟨rfl, rfl⟩
end
section
variable {w : World} {dk : Nat → Prop} {s p mc mn : Nat} {tv : Value} {x : SS}
theorem drop_ok (h : StAt w dk s p mc mn tv x) (i : Int) (hi : 0 ≤ i ∧ i < 728) {y : Nat × List Nat} (hg : pgAt x.now i = some y) :
  Calls Tryz.prog 18 #[.pointer (some ⟨s, 0, none⟩), .int .i64 i] w fun e w' => e = .returned (.int .i64 0) ∧ StAt w' dk s p mc mn tv { x with now := delL x.now i } ∧ Only (fun k => k = mn) w w' := by
 have HH := holds_st h i hi
 simp only [hg, Option.isSome_some, ↓reduceIte] at HH
 have HS : Hid (StAt w dk s p mc mn tv x) := h
 have HI : Hid _ := hi
 clear h hg hi
 go_enter Tryz.func18, Tryz.ntmps18
 go_wp2_with fail
 refine HH.mono ?_
 rintro e w1 ⟨rfl, ho1⟩
 have h6 := (HS.out.still ho1).c6
 obtain ⟨w2, hdel, h2, h3⟩ := HS.out.strike i HI.out ho1 0
 have HE : Hid (StAt w2 dk s p mc mn tv { x with now := delL x.now i } ∧ Only (fun k => k = mn) w w2) := ⟨h2, h3⟩
 clear HH ho1 h2 h3 HI HS
 go_wp2
 go_ret
 exact ⟨rfl, HE.out⟩
theorem drop_none (h : StAt w dk s p mc mn tv x) (i : Int) (hi : 0 ≤ i ∧ i < 728) (hg : pgAt x.now i = none) :
  Calls Tryz.prog 18 #[.pointer (some ⟨s, 0, none⟩), .int .i64 i] w fun e w' => e = .returned (.int .i64 6) ∧ Only (fun _ => False) w w' := by
 have HH := holds_st h i hi
 simp only [hg, Option.isSome_none, Bool.false_eq_true, ↓reduceIte] at HH
 clear h hg hi
 go_enter Tryz.func18, Tryz.ntmps18
 go_wp2_with fail
 refine HH.mono ?_
 rintro e w1 ⟨rfl, ho1⟩
 have HO : Hid _ := ho1
 clear HH ho1
 go_wp2
 go_ret
 exact ⟨rfl, HO.out⟩
theorem drop_out (h : StAt w dk s p mc mn tv x) (i : Int) (hi : i < 0 ∨ 728 ≤ i) :
  Calls Tryz.prog 18 #[.pointer (some ⟨s, 0, none⟩), .int .i64 i] w fun e w' => e = .returned (.int .i64 4) ∧ w' = w := by
 have HH := holds_out s p i w h.c0 hi
 clear h hi
 go_enter Tryz.func18, Tryz.ntmps18
 go_wp2_with (go_at_call 34; refine HH.mono ?_; rintro e w' ⟨rfl, rfl⟩)
 go_ret
 exact ⟨rfl, rfl⟩
end
def DS.barrier (d : DS) : Int × DS := if d.life = 0 then (3, d) else (0, { d with pend := [], life := aged d.life })
theorem barrier_all (p S B : Nat) (pv : Value) (d : DS) (w : World) (h : DiskAt w B p S pv d) :
  Calls Tryz.prog 65 #[.pointer (some ⟨p, 0, none⟩)] w fun e w' => e = .returned (.int .i64 d.barrier.1) ∧ ∃ pv', DiskAt w' B p S pv' d.barrier.2 ∧ Only (fun i => i = p) w w' ∧ ∀ b, pv'.ownBlock = some b → pv.ownBlock = some b := by
 by_cases e : d.life = 0
 ·have hb : d.barrier = (3, d) := by simp [DS.barrier, e]
  rw [hb]
  refine (barrier_dead p w (by rw [← e]; exact h.c2)).mono ?_
  rintro e w' ⟨rfl, rfl⟩
  exact ⟨rfl, pv, h, Only.refl _ _, fun _ hb => hb⟩
 ·have hb : d.barrier = (0, { d with pend := [], life := aged d.life }) := by simp [DS.barrier, e]
  rw [hb]
  refine (barrier_any p S B pv d w h e).mono ?_
  rintro e w' ⟨rfl, h1, h2⟩
  exact ⟨rfl, _, h1, h2, fun b hb => by simp [Value.ownBlock] at hb⟩
def DS.keep (d : DS) (k : Int) (f : Nat → Int) : Int × DS := if (d.write k f 32).1 ≠ 0 then d.write k f 32 else (d.write k f 32).2.barrier
theorem keep_all (p S c B : Nat) (a : Option Addr) (pv : Value) (d : DS) (k : Int) (f : Nat → Int) (w : World) (h : DiskAt w B p S pv d) (hr : RowAt w (.slice a 32 c) 32 1 (fun j => .int .u8 (f j))) (hB : B ≤ w.heap.size) (hby : (d.pend.length + 1) * 72 ≤ 140737488355328) :
  Calls Tryz.prog 29 #[.pointer (some ⟨p, 0, none⟩), .int .i64 k, .slice a 32 c] w fun e w' => e = .returned (.int .i64 (d.keep k f).1) ∧ ∃ pv', DiskAt w' B p S pv' (d.keep k f).2 ∧ Only (diskB p S pv) w w' ∧ ∀ b, pv'.ownBlock = some b → pv.ownBlock = some b ∨ w.heap.size ≤ b := by
 have HW : Hid (Calls Tryz.prog 40 _ _ _) := write_all p S 32 c B a pv d k f w h hr hB hby (by omega)
 clear h hr hB hby
 by_cases e : (d.write k f 32).1 = 0
 ·have hk : d.keep k f = (d.write k f 32).2.barrier := by simp [DS.keep, e]
  rw [hk]
  rw [e] at HW
  obtain ⟨d1, hd1⟩ : ∃ d1, d1 = (d.write k f 32).2 := ⟨_, rfl⟩
  rw [← hd1] at HW ⊢
  obtain ⟨q, hq⟩ : ∃ q, q = d1.barrier.1 := ⟨_, rfl⟩
  have HQ : Hid (q = d1.barrier.1) := hq
  rw [← hq]
  clear hq hd1 hk e
  go_enter Tryz.func29, Tryz.ntmps29
  go_wp2_with fail
  refine (show Calls Tryz.prog 40 _ _ _ from HW.out).mono ?_
  rintro e w1 ⟨rfl, pv1, hd1, ho1, hp1⟩
  have HB : Hid (Calls Tryz.prog 65 _ _ _) := barrier_all p S B pv1 _ w1 hd1
  rw [← HQ.out] at HB
  have H1 : Hid (Only (diskB p S pv) w w1 ∧ ∀ b, pv1.ownBlock = some b → pv.ownBlock = some b ∨ w.heap.size ≤ b) := ⟨ho1, hp1⟩
  clear hd1 ho1 hp1 HW
  go_wp2_with fail
  refine (show Calls Tryz.prog 65 _ _ _ from HB.out).mono ?_
  rintro e w2 ⟨rfl, pv2, hd2, ho2, hp2⟩
  have HE : Hid (∃ pv', DiskAt w2 B p S pv' d1.barrier.2 ∧ Only (diskB p S pv) w w2 ∧ ∀ b, pv'.ownBlock = some b → pv.ownBlock = some b ∨ w.heap.size ≤ b) :=
   ⟨pv2, hd2, H1.out.1.trans ho2 (fun _ _ e => .inl e), fun b hb => H1.out.2 b (hp2 b hb)⟩
  clear hd2 ho2 hp2 HB H1
  go_wp2
  go_ret
  exact ⟨rfl, HE.out⟩
 ·have hk : d.keep k f = d.write k f 32 := by simp [DS.keep, e]
  rw [hk]
  obtain ⟨q, hq⟩ : ∃ q, q = (d.write k f 32).1 := ⟨_, rfl⟩
  rw [← hq] at HW ⊢
  rw [← hq] at e
  have e' : (q == 0) = false := by simpa using e
  clear hq
  go_enter Tryz.func29, Tryz.ntmps29
  go_wp2_with fail
  refine (show Calls Tryz.prog 40 _ _ _ from HW.out).mono ?_
  rintro e w1 ⟨rfl, pv1, h1⟩
  have HE : Hid _ := h1
  clear h1 HW
  go_wp2
  go_ret
  exact ⟨rfl, pv1, HE.out⟩
theorem range_set {w : World} {s j : Nat} {cs : List Value} (h : w.rangeAt s 0 cs) (hj : j < cs.length) (v : Value) : (w.setCell ⟨s, j, none⟩ v).rangeAt s 0 (cs.set j v) := by
 intro i u hu
 rw [Nat.zero_add]
 rw [List.getElem?_set] at hu
 have hc : w.cell? ⟨s, j, none⟩ = some cs[j] := by
  have := h j cs[j] (List.getElem?_eq_getElem hj)
  rwa [Nat.zero_add] at this
 by_cases e : j = i
 ·subst e
  simp only [if_true, hj] at hu
  rw [World.cell?_setCell_same _ _ _ hc]
  exact hu
 ·rw [if_neg e] at hu
  rw [World.cell?_setCell_other _ _ _ _ (by simp; try exact fun e' => e e'.symm)]
  have := h i u hu
  rwa [Nat.zero_add] at this
theorem there_set {w : World} {s j n : Nat} {u : Value} (h : w.there s 0 n) (hc : w.cell? ⟨s, j, none⟩ = some u) (v : Value) : (w.setCell ⟨s, j, none⟩ v).there s 0 n := by
 intro i hi
 obtain ⟨h1, h2⟩ := h i hi
 rw [Nat.zero_add] at h1 h2 ⊢
 refine ⟨?_, by simpa using h2⟩
 by_cases e : j = i
 ·subst e
  rw [World.cell?_setCell_same _ _ _ hc]; rfl
 ·rw [World.cell?_setCell_other _ _ _ _ (by simp; try exact fun e' => e e'.symm)]
  exact h1
theorem map_ne_cells {w : World} {m s j : Nat} {l : List (Int × Value)} {v : Value} (h : MapAt w m l) (hc : w.cell? ⟨s, j, none⟩ = some v) : s ≠ m := by
 rintro rfl
 obtain ⟨es, clock, hb, _⟩ := h.own
 simp [World.cell?, hb] at hc
theorem take_any (s m : Nat) (v0 v1 v2 v3 v4 v5 v6 : Value) (l : List (Int × Value)) (w : World) (h : w.rangeAt s 0 [v0, v1, v2, v3, v4, v5, v6]) (ht : w.there s 0 7) (hm : MapAt w m l) :
  Calls Tryz.prog 31 #[.pointer (some ⟨s, 0, none⟩), .map (some m)] w fun e w' => e = .returned (.tuple #[]) ∧ w'.rangeAt s 0 [v0, v1, v2, v3, v4, .map (some m), .map (some w.heap.size)] ∧ w'.there s 0 7 ∧ MapAt w' w.heap.size l ∧ MapAt w' m l ∧ Only (fun k => k = s) w w' := by
 have hne : s ≠ m := map_ne_cells hm (h 0 _ rfl)
 obtain ⟨w1, hw1⟩ : ∃ w1, w1 = w.setCell ⟨s, 5, none⟩ (.map (some m)) := ⟨_, rfl⟩
 have o1 : Only (fun k => k = s) w w1 := by rw [hw1]; exact (Only.refl _ w).setCell _ _ (fun _ => rfl)
 have r1 : w1.rangeAt s 0 [v0, v1, v2, v3, v4, .map (some m), v6] := by rw [hw1]; exact range_set h (by simp) _
 have t1 : w1.there s 0 7 := by rw [hw1]; exact there_set ht (h 5 _ rfl) _
 have m1 : MapAt w1 m l := hm.frame o1 (fun e => hne e.symm)
 have sz : w1.heap.size = w.heap.size := by rw [hw1]; simp [World.setCell]
 have HC : Hid (Calls Tryz.prog 67 #[.map (some m)] w1 fun e w' => e = .returned (.map (some w.heap.size)) ∧ MapAt w' w.heap.size l ∧ Only (fun _ => False) w1 w') := by
  refine (mclone_any m l w1 m1).mono ?_
  rintro e w' ⟨rfl, h1, h2, _⟩
  rw [sz] at h1 ⊢
  exact ⟨rfl, h1, h2⟩
 have c5 : w.cell? ⟨s, 5, none⟩ = some v5 := h 5 _ rfl
 have f5 : w.frozen? ⟨s, 5, none⟩ = false := (ht 5 (by omega)).2
 have H1 : Hid (w1.rangeAt s 0 [v0, v1, v2, v3, v4, .map (some m), v6] ∧ w1.there s 0 7 ∧ MapAt w1 m l ∧ Only (fun k => k = s) w w1 ∧ s ≠ m) := ⟨r1, t1, m1, o1, hne⟩
 have HW : Hid (w1 = w.setCell ⟨s, 5, none⟩ (.map (some m))) := hw1
 have hsl : s < w.heap.size := World.block_lt_of_cell? w _ (h 0 _ rfl)
 have HL : Hid _ := hsl
 clear h ht hm hne hw1 o1 r1 t1 m1 sz hsl
 go_enter Tryz.func31, Tryz.ntmps31
 go_wp2_with fail
 rw [← HW.out]
 refine (show Calls Tryz.prog 67 _ _ _ from HC.out).mono ?_
 rintro e w2 ⟨rfl, hm2, ho2⟩
 have c6 : w2.cell? ⟨s, 6, none⟩ = some v6 := ho2.cell (H1.out.1 6 _ rfl) (fun e => e)
 have t2 := ho2.there H1.out.2.1 (fun e => e)
 have f6 : w2.frozen? ⟨s, 6, none⟩ = false := (t2 6 (by omega)).2
 have HE : Hid (∀ w3, w3 = w2.setCell ⟨s, 6, none⟩ (.map (some w.heap.size)) → w3.rangeAt s 0 [v0, v1, v2, v3, v4, .map (some m), .map (some w.heap.size)] ∧ w3.there s 0 7 ∧ MapAt w3 w.heap.size l ∧ MapAt w3 m l ∧ Only (fun k => k = s) w w3) := by
  rintro w3 rfl
  have oS : Only (fun k => k = s) w2 (w2.setCell ⟨s, 6, none⟩ (.map (some w.heap.size))) := (Only.refl _ w2).setCell _ _ (fun _ => rfl)
  refine ⟨range_set (ho2.range H1.out.1 (fun e => e)) (by simp) _, there_set t2 c6 _, hm2.frame oS (fun e => by have := HL.out; omega), (H1.out.2.2.1.frame ho2 (fun e => e)).frame oS (fun e => H1.out.2.2.2.2 e.symm), ?_⟩
  exact (H1.out.2.2.2.1.trans ho2 (fun _ _ e => e.elim)).trans oS (fun _ _ e => e)
 clear hm2 ho2 t2 H1 HC HW HL
 go_wp2
 go_end0
 exact ⟨rfl, HE.out _ rfl⟩
def byF (zs : List Nat) : Nat → Int := fun j => (zs.getD j 0 : Nat)
theorem Blk.row {w : World} {g : Nat} {zs : List Nat} (h : Blk w g zs) (hl : zs.length = 32) : RowAt w (.slice (some ⟨g, 0, none⟩) 32 32) 32 1 (fun j => .int .u8 (byF zs j)) := by
 refine .inr ⟨⟨g, 0, none⟩, 32, rfl, Nat.le_refl _, fun j hj => ?_⟩
 rw [Addr.add_mid, Nat.zero_add, h.cell j (by omega)]
 rfl
def zeros32 : List Nat := List.replicate 32 0
def DS.format (d : DS) : Int × DS :=
 if d.n / 4 < 3 then (7, d) else if (d.keep 4 (byF zeros32)).1 ≠ 0 then d.keep 4 (byF zeros32) else (d.keep 4 (byF zeros32)).2.keep 0 (byF (rootB 1 0 0))
def SS.new (size : Nat) : SS := ⟨size, 1, 0, [], [], []⟩
theorem keep_hid (p S c B : Nat) (a : Option Addr) (pv : Value) (d : DS) (k : Int) (f : Nat → Int) (w : World) (h : DiskAt w B p S pv d) (hr : RowAt w (.slice a 32 c) 32 1 (fun j => .int .u8 (f j))) (hB : B ≤ w.heap.size) (hby : (d.pend.length + 1) * 72 ≤ 140737488355328) (q : Int) (hq : (d.keep k f).1 = q) :
  Calls Tryz.prog 29 #[.pointer (some ⟨p, 0, none⟩), .int .i64 k, .slice a 32 c] w fun e w' => e = .returned (.int .i64 q) ∧ Hid (∃ pv', DiskAt w' B p S pv' (d.keep k f).2 ∧ Only (diskB p S pv) w w' ∧ ∀ b, pv'.ownBlock = some b → pv.ownBlock = some b ∨ w.heap.size ≤ b) := by
 rw [← hq]
 exact keep_all p S c B a pv d k f w h hr hB hby
theorem format_small (p S B : Nat) (pv : Value) (d : DS) (w : World) (h : DiskAt w B p S pv d) (hn : d.n / 4 < 3) :
  Calls Tryz.prog 11 #[.pointer (some ⟨p, 0, none⟩)] w fun e w' => e = .returned (.tuple #[.pointer none, .int .i64 7]) ∧ w' = w := by
 obtain ⟨c, hc⟩ := h.c0
 have HC := count_any p S d.n c w h.n2 hc
 have h3 : ((d.n / 4 : Nat) : Int) < 3 := by omega
 clear h hc
 go_enter Tryz.func11, Tryz.ntmps11
 go_wp2_with (go_at_call 28; refine HC.mono ?_; rintro e w' ⟨rfl, rfl⟩)
 go_ret2
 exact ⟨rfl, rfl⟩
theorem keep_pend (d : DS) (k : Int) (f : Nat → Int) : (d.keep k f).2.pend.length ≤ d.pend.length + 1 := by
 unfold DS.keep DS.barrier DS.write
 repeat' split
 all_goals simp_all
theorem rootbytes_new (w : World) :
  Calls Tryz.prog 30 #[.agg #[.int .u64 1, .int .u32 0, .int .u32 0]] w fun e w' => e = .returned (.slice (some ⟨w.heap.size + 1, 0, none⟩) 32 32) ∧ Hid (Blk w' (w.heap.size + 1) (rootB 1 0 0) ∧ Only (fun _ => False) w w') :=
 rootbytes_any 1 0 0 w (by omega) (by omega) (by omega)
theorem new_wf (N : Nat) (h : 3 ≤ N) (h2 : N ≤ 2048) : (SS.new N).Wf :=
 { size := ⟨h, h2⟩, epoch := by simp [SS.new], sector := .inl rfl, tabs := ⟨by simp [SS.new], fun t ht => by simp [SS.new] at ht⟩, com := fun p hp => by simp [SS.new] at hp, now := fun p hp => by simp [SS.new] at hp }
theorem PMap.bare {w : World} {m : Nat} (av : Nat → Prop) (h : MapAt w m []) : PMap w av m [] := ⟨fun _ => .slice none 0 0, h, fun p hp => by cases hp⟩
theorem format_ok (p S B : Nat) (pv : Value) (d : DS) (w : World) (h : DiskAt w B p S pv d) (hB : B ≤ w.heap.size) (hby : (d.pend.length + 2) * 72 ≤ 140737488355328) (hn : 3 ≤ d.n / 4) (e1 : (d.keep 4 (byF zeros32)).1 = 0) (e2 : ((d.keep 4 (byF zeros32)).2.keep 0 (byF (rootB 1 0 0))).1 = 0) :
  Calls Tryz.prog 11 #[.pointer (some ⟨p, 0, none⟩)] w fun e w' => ∃ s mc mn pv', e = .returned (.tuple #[.pointer (some ⟨s, 0, none⟩), .int .i64 0]) ∧ Hid (DiskAt w' B p S pv' ((d.keep 4 (byF zeros32)).2.keep 0 (byF (rootB 1 0 0))).2 ∧
   StAt w' (diskB p S pv') s p mc mn (.slice none 0 0) (SS.new (d.n / 4)) ∧ Only (diskB p S pv) w w' ∧ (∀ b, pv'.ownBlock = some b → pv.ownBlock = some b ∨ w.heap.size ≤ b) ∧ w.heap.size ≤ s ∧ w.heap.size ≤ mc ∧ w.heap.size ≤ mn) := by
 have hmm := @run_makeMap Tryz.prog
 obtain ⟨c, hc⟩ := h.c0
 have HC : Hid (Calls Tryz.prog 28 _ _ _) := count_any p S d.n c w h.n2 hc
 have hn2 := h.n2
 obtain ⟨N, hN⟩ : ∃ N, N = d.n / 4 := ⟨_, rfl⟩
 rw [← hN] at HC hn
 have h3 : ¬ (N : Int) < 3 := by omega
 obtain ⟨Z, hZ⟩ : ∃ Z, Z = (BL zeros32).toArray := ⟨_, rfl⟩
 have hmk : ∀ w, (Instr.makeSlice 37 (.int .i64 32) (.int .i64 32)).run Tryz.prog w = .ok (.slice (some ⟨w.heap.size, 0, none⟩) 32 32) (w.alloc (.cells Z 5)) := fun w => by rw [hZ]; exact make_blk 32 (by omega) w
 obtain ⟨wA, hwA⟩ : ∃ q, q = w.alloc (.cells Z 5) := ⟨_, rfl⟩
 have oA : Only (fun _ => False) w wA := by rw [hwA]; exact (Only.refl _ w).alloc _
 have bA : Blk wA w.heap.size zeros32 := by rw [hwA, hZ]; exact blk_zeros 32 (by omega) w
 have hdA : DiskAt wA B p S pv d := h.frame oA (fun _ _ e => e)
 have HK1 : Hid (Calls Tryz.prog 29 _ _ _) := keep_hid p S 32 B (some ⟨w.heap.size, 0, none⟩) pv d 4 (byF zeros32) wA hdA (bA.row (by simp [zeros32])) (by have := oA.size; omega) (by omega) 0 e1
 have HA : Hid (wA = w.alloc (.cells Z 5)) := hwA
 have H0 : Hid (DiskAt w B p S pv d ∧ Only (fun _ => False) w wA ∧ DiskAt wA B p S pv d) := ⟨h, oA, hdA⟩
 have HN : Hid (N = d.n / 4 ∧ 3 ≤ N ∧ d.n ≤ 8192) := ⟨hN, hn, hn2⟩
 have HB : Hid (B ≤ w.heap.size ∧ (d.pend.length + 2) * 72 ≤ 140737488355328) := ⟨hB, hby⟩
 have HE2 : Hid _ := e2
 rw [← hN]
 clear h hc hwA oA bA hdA hB hby e1 e2 hN hn hn2 hZ
 go_enter Tryz.func11, Tryz.ntmps11
 go_wp2_with (go_at_call 28; refine (show Calls Tryz.prog 28 _ _ _ from HC.out).mono ?_; rintro e w' ⟨rfl, rfl⟩)
 rw [← HA.out]
 refine (show Calls Tryz.prog 29 _ _ _ from HK1.out).mono ?_
 rintro e w1 ⟨rfl, H1⟩
 clear HC HK1 hmk
 obtain ⟨pv1, hd1, ho1, hp1⟩ := H1.out
 obtain ⟨wR, hwR⟩ : ∃ q, q = w1.alloc (.cells #[.int .u64 1, .int .u32 0, .int .u32 0] 74) := ⟨_, rfl⟩
 have oR : Only (fun _ => False) w1 wR := by rw [hwR]; exact (Only.refl _ w1).alloc _
 have sR : wR.heap.size = w1.heap.size + 1 := by rw [hwR]; simp
 have bR : wR.heap[w1.heap.size]? = some (.cells #[.int .u64 1, .int .u32 0, .int .u32 0] 74 (0, 0)) := by rw [hwR]; exact heap_alloc_new w1 _
 have HRB : Hid (Calls Tryz.prog 30 _ _ _) := rootbytes_new wR
 rw [sR] at HRB
 have HWR : Hid (wR = w1.alloc (.cells #[.int .u64 1, .int .u32 0, .int .u32 0] 74)) := hwR
 have HR : Hid (Only (fun _ => False) w1 wR ∧ wR.heap.size = w1.heap.size + 1 ∧ wR.heap[w1.heap.size]? = some (.cells #[.int .u64 1, .int .u32 0, .int .u32 0] 74 (0, 0))) := ⟨oR, sR, bR⟩
 have H1' : Hid (DiskAt w1 B p S pv1 (d.keep 4 (byF zeros32)).2 ∧ Only (diskB p S pv) wA w1 ∧ ∀ b, pv1.ownBlock = some b → pv.ownBlock = some b ∨ wA.heap.size ≤ b) := ⟨hd1, ho1, hp1⟩
 clear hwR oR sR bR hd1 ho1 hp1 H1
 go_wp2_with fail
 rw [← HWR.out]
 refine (show Calls Tryz.prog 30 _ _ _ from HRB.out).mono ?_
 rintro e w3 ⟨rfl, H3⟩
 have oR3 : Only (fun _ => False) w1 w3 := HR.out.1.trans H3.out.2 (fun _ _ e => e)
 have hd3 := H1'.out.1.frame oR3 (fun _ _ e => e)
 have hsz1 := oR3.size
 have hszA := H1'.out.2.1.size
 have hszw := H0.out.2.1.size
 have HK3 : Hid (Calls Tryz.prog 29 _ _ _) := keep_hid p S 32 B (some ⟨w1.heap.size + 1 + 1, 0, none⟩) pv1 _ 0 (byF (rootB 1 0 0)) w3 hd3 (H3.out.1.row (rootB_length _ _ _)) (by have := HB.out.1; omega) (by have := HB.out.2; have := keep_pend d 4 (byF zeros32); omega) 0 HE2.out
 have c3 : w3.heap[w1.heap.size]? = some (.cells #[.int .u64 1, .int .u32 0, .int .u32 0] 74 (0, 0)) := by rw [H3.out.2.block _ (by have := HR.out.2.1; omega) (fun e => e)]; exact HR.out.2.2
 have H3' : Hid (DiskAt w3 B p S pv1 (d.keep 4 (byF zeros32)).2 ∧ Only (fun _ => False) w1 w3 ∧ w3.heap[w1.heap.size]? = some (.cells #[.int .u64 1, .int .u32 0, .int .u32 0] 74 (0, 0)) ∧ w1.heap.size < w3.heap.size ∧ w'.heap.size ≤ wA.heap.size ∧ wA.heap.size ≤ w1.heap.size) := ⟨hd3, oR3, c3, (Array.getElem?_eq_some_iff.1 c3).1, hszw, hszA⟩
 clear oR3 hd3 hsz1 hszA hszw c3 H3 HRB HE2
 go_wp2_with fail
 refine (show Calls Tryz.prog 29 _ _ _ from HK3.out).mono ?_
 rintro e w4 ⟨rfl, H4⟩
 clear HK3
 have hr4 : ¬ diskB p S pv1 w1.heap.size := fun e => by have := (H1'.out.1.lt _ e).2; omega
 have x0 : w4.cell? ⟨w1.heap.size, 0, none⟩ = some (.int .u64 1) := by
  obtain ⟨pv4, hd4, ho4, hp4⟩ := H4.out
  exact ho4.cell (by rw [cell_of_row _ _ _ _ _ _ H3'.out.2.2.1]; rfl) hr4
 clear hr4
 obtain ⟨w5, hw5⟩ : ∃ q, q = w4.alloc (.cells #[.pointer (some ⟨p, 0, none⟩), .int .i64 (N : Nat), .int .u64 1, .int .i64 0, .slice none 0 0, .map none, .map none] 79) := ⟨_, rfl⟩
 obtain ⟨w6, hw6⟩ : ∃ q, q = w5.alloc (.map #[] 0) := ⟨_, rfl⟩
 have o5 : Only (fun _ => False) w4 w5 := by rw [hw5]; exact (Only.refl _ w4).alloc _
 have o6 : Only (fun _ => False) w5 w6 := by rw [hw6]; exact (Only.refl _ w5).alloc _
 have s5 : w5.heap.size = w4.heap.size + 1 := by rw [hw5]; simp
 have s6 : w6.heap.size = w4.heap.size + 2 := by rw [hw6]; simp [s5]
 have b5 : w5.heap[w4.heap.size]? = some (.cells #[.pointer (some ⟨p, 0, none⟩), .int .i64 (N : Nat), .int .u64 1, .int .i64 0, .slice none 0 0, .map none, .map none] 79 (0, 0)) := by rw [hw5]; exact heap_alloc_new w4 _
 have b6 : w6.heap[w4.heap.size]? = some (.cells #[.pointer (some ⟨p, 0, none⟩), .int .i64 (N : Nat), .int .u64 1, .int .i64 0, .slice none 0 0, .map none, .map none] 79 (0, 0)) := by rw [o6.block _ (by omega) (fun e => e)]; exact b5
 have m6 : MapAt w6 (w4.heap.size + 1) [] := by rw [hw6, ← s5]; exact MapAt.made w5
 have r6 : w6.rangeAt w4.heap.size 0 [.pointer (some ⟨p, 0, none⟩), .int .i64 (N : Nat), .int .u64 1, .int .i64 0, .slice none 0 0, .map none, .map none] := fun j v hv => by
  rw [cell_of_row _ _ _ _ _ _ b6, Nat.zero_add]
  simpa using hv
 have t6 : w6.there w4.heap.size 0 7 := fun j hj => by
  refine ⟨?_, frozen_of_row _ _ _ _ _ b6⟩
  rw [cell_of_row _ _ _ _ _ _ b6, Nat.zero_add]
  have : j = 0 ∨ j = 1 ∨ j = 2 ∨ j = 3 ∨ j = 4 ∨ j = 5 ∨ j = 6 := by omega
  rcases this with rfl | rfl | rfl | rfl | rfl | rfl | rfl <;> rfl
 have HT : Hid (Calls Tryz.prog 31 _ _ _) := take_any w4.heap.size (w4.heap.size + 1) _ _ _ _ _ _ _ [] w6 r6 t6 m6
 rw [s6] at HT
 have HW6 : Hid (w6 = (w4.alloc (.cells #[.pointer (some ⟨p, 0, none⟩), .int .i64 (N : Nat), .int .u64 1, .int .i64 0, .slice none 0 0, .map none, .map none] 79)).alloc (.map #[] 0)) := (by rw [hw6, hw5] : _ = _)
 have H6 : Hid (Only (fun _ => False) w4 w6 ∧ w6.heap.size = w4.heap.size + 2) := ⟨o5.trans o6 (fun _ _ e => e), s6⟩
 clear hw5 hw6 o5 o6 s5 s6 b5 b6 m6 r6 t6
 go_wp2_with fail
 rw [← HW6.out]
 refine (show Calls Tryz.prog 31 _ _ _ from HT.out).mono ?_
 rintro e w7 ⟨rfl, hr7, ht7, hm7, hn7, ho7⟩
 have HE : Hid (∃ pv', DiskAt w7 B p S pv' ((d.keep 4 (byF zeros32)).2.keep 0 (byF (rootB 1 0 0))).2 ∧ StAt w7 (diskB p S pv') w4.heap.size p (w4.heap.size + 1) (w4.heap.size + 2) (.slice none 0 0) (SS.new N) ∧ Only (diskB p S pv) w' w7 ∧ (∀ b, pv'.ownBlock = some b → pv.ownBlock = some b ∨ w'.heap.size ≤ b) ∧ w'.heap.size ≤ w4.heap.size ∧ w'.heap.size ≤ w4.heap.size + 1 ∧ w'.heap.size ≤ w4.heap.size + 2) := by
  obtain ⟨pv4, hd4, ho4, hp4⟩ := H4.out
  obtain ⟨hd3, o13, _, hlt, ha, hb⟩ := H3'.out
  obtain ⟨hd1, ho1, hp1⟩ := H1'.out
  have h34 := ho4.size
  have h13 := o13.size
  have hd6 := hd4.frame H6.out.1 (fun _ _ e => e)
  have lt4 := hd4.lt
  have hd7 := hd6.frame ho7 (fun k hk e => by have := (lt4 k hk).2; omega)
  have nk : ∀ k, w4.heap.size ≤ k → ¬ diskB p S pv4 k := fun k hk e => by have := (lt4 k e).2; omega
  refine ⟨pv4, hd7, ?_, ?_, fun b hb' => ?_, by omega, by omega, by omega⟩
  ·exact { cells := hr7, there := ht7, d1 := by omega, d2 := by omega, d3 := by omega, k1 := nk _ (by omega), k2 := nk _ (by omega), k3 := nk _ (by omega)
           tabs := .inl ⟨rfl, rfl⟩, tabsB := fun b hb' => by simp [Value.ownBlock] at hb', com := PMap.bare _ hn7, now := PMap.bare _ hm7
           wf := new_wf N HN.out.2.1 (by have := HN.out.2.2; have := HN.out.1; omega) }
  ·have oA : Only (diskB p S pv) w' wA := H0.out.2.1.mono (fun _ _ e => e.elim)
   have oA1 : Only (diskB p S pv) w' w1 := oA.trans ho1 (fun _ _ e => e)
   have o3 : Only (diskB p S pv) w' w3 := oA1.trans o13 (fun _ _ e => e.elim)
   have o4 : Only (diskB p S pv) w' w4 := o3.trans ho4 (fun k hk e => by
    rcases e with e | e | e
    ·exact .inl e
    ·exact .inr (.inl e)
    ·rcases hp1 k e with e | e
     ·exact .inr (.inr e)
     ·omega)
   exact (o4.trans H6.out.1 (fun _ _ e => e.elim)).trans ho7 (fun k hk e => by omega)
  ·rcases hp4 b hb' with e | e
   ·rcases hp1 b e with e | e
    ·exact .inl e
    ·exact .inr (by omega)
   ·exact .inr (by omega)
 clear hr7 ht7 hm7 hn7 ho7 HT H6 H4 H3' H1' HR HWR HW6 H0 HA HB HN x0 hmm
 go_wp2
 go_ret2
 obtain ⟨pv', h⟩ := HE.out
 exact ⟨_, _, _, pv', rfl, h⟩
section
variable {w : World} {dk : Nat → Prop} {s p mc mn : Nat} {tv : Value} {x : SS}
theorem SS.Wf.roll {x : SS} (h : x.Wf) : SS.Wf { x with now := x.com } :=
 { size := h.size, epoch := h.epoch, sector := h.sector, tabs := h.tabs, com := h.com
   now := fun p hp => by
    obtain ⟨h1, h2, h3⟩ := h.com p hp
    exact ⟨h1, .inr h2, h3⟩ }
theorem rollback_ok (h : StAt w dk s p mc mn tv x) (hd : ∀ k, dk k → k < w.heap.size) :
  Calls Tryz.prog 23 #[.pointer (some ⟨s, 0, none⟩)] w fun e w' => ∃ mn', e = .returned (.int .i64 0) ∧ Hid (StAt w' dk s p mc mn' tv { x with now := x.com } ∧ Only (fun k => k = s) w w' ∧ w.heap.size ≤ mn') := by
 have HU := usable_ok s p w h.c0
 have h5 := h.c5
 obtain ⟨sl, hm, hb⟩ := h.com
 have HT : Hid (Calls Tryz.prog 31 _ _ _) := take_any s mc _ _ _ _ _ _ _ _ w h.cells h.there hm
 have HE : Hid (∀ w', w'.rangeAt s 0 (stL p x tv mc w.heap.size) ∧ w'.there s 0 7 ∧ MapAt w' w.heap.size (x.com.map fun p => (p.1, pgV sl p)) ∧ MapAt w' mc (x.com.map fun p => (p.1, pgV sl p)) ∧ Only (fun k => k = s) w w' → StAt w' dk s p mc w.heap.size tv { x with now := x.com } ∧ Only (fun k => k = s) w w' ∧ w.heap.size ≤ w.heap.size) := by
  rintro w' ⟨h1, h2, h3, h4, h5⟩
  have hs := h.lt
  have hmc := h.com.lt
  have sz := h5.size
  have l3 := h3.lt
  have av : ∀ k, k < w.heap.size → mutB dk s mc w.heap.size k → mutB dk s mc mn k := by
   rintro k hk (e | e | e | e)
   ·exact .inl e
   ·exact .inr (.inl e)
   ·omega
   ·exact .inr (.inr (.inr e))
  have hbs : ∀ k, k < w.heap.size → k = s → mutB dk s mc mn k := fun k _ e => .inl e
  have pg : ∀ q ∈ x.com, BytesAt w' (sl q.1) q.2.2 ∧ ∀ b, (sl q.1).ownBlock = some b → b < w'.heap.size ∧ ¬ mutB dk s mc w.heap.size b := fun q hq => by
   obtain ⟨g1, g2⟩ := hb q hq
   exact ⟨g1.keep h5 (fun b e e' => (g2 b e).2 (.inl e')), fun b e => ⟨Nat.lt_of_lt_of_le (g2 b e).1 sz, fun e' => (g2 b e).2 (av b (g2 b e).1 e')⟩⟩
  refine ⟨?_, h5, Nat.le_refl _⟩
  exact { cells := h1, there := h2, d1 := h.d1, d2 := by omega, d3 := by omega, k1 := h.k1, k2 := h.k2, k3 := fun e => by have := hd _ e; omega
          tabs := h.tabs.keep h5 (fun b e e' => (h.tabsB b e).2 (.inl e')), tabsB := fun b e => ⟨Nat.lt_of_lt_of_le (h.tabsB b e).1 sz, fun e' => (h.tabsB b e).2 (av b (h.tabsB b e).1 e')⟩
          com := ⟨sl, h4, pg⟩, now := ⟨sl, h3, pg⟩, wf := h.wf.roll }
 clear h hm hb hd
 go_enter Tryz.func23, Tryz.ntmps23
 go_wp2_with (first | (go_at_call 35; refine HU.mono ?_; rintro e w' ⟨rfl, rfl⟩) | (go_at_call 31; refine (show Calls Tryz.prog 31 _ _ _ from HT.out).mono ?_; rintro e w2 ⟨rfl, h2⟩; have H2 : Hid _ := h2; clear h2))
 go_ret
 exact ⟨_, rfl, HE.out _ H2.out⟩
end
def tabN (n : Nat) : Nat := (n + 111) / 112
theorem need_any (a1 a2 : Option Addr) (n1 c1 n2 c2 : Nat) (m : Option Nat) (w : World) (h1 : n1 ≤ 100000) (h2 : n2 ≤ 100000) :
  Calls Tryz.prog 57 #[.agg #[.slice a1 n1 c1, .map m, .slice a2 n2 c2]] w fun e w' => e = .returned (.int .i64 ((n1 + tabN n2 : Nat) : Int)) ∧ Only (fun _ => False) w w' := by
 have e1 : IntKind.i64.wrap ((n2 : Int) + 112) = (n2 : Int) + 112 := by rw [IntKind.wrap_i64]; omega
 have e2 : IntKind.i64.wrap ((n2 : Int) + 112 - 1) = (n2 : Int) + 111 := by rw [IntKind.wrap_i64]; omega
 have e3 : Int.tdiv ((n2 : Int) + 111) 112 = ((tabN n2 : Nat) : Int) := by
  rw [Int.tdiv_eq_ediv_of_nonneg (by omega)]
  unfold tabN
  omega
 have hT : tabN n2 ≤ 1000 := by unfold tabN; omega
 obtain ⟨T, hT'⟩ : ∃ T, T = tabN n2 := ⟨_, rfl⟩
 rw [← hT'] at e3 hT ⊢
 have e4 : IntKind.i64.wrap ((T : Int)) = (T : Int) := by rw [IntKind.wrap_i64]; omega
 have e5 : IntKind.i64.wrap ((n1 : Int) + (T : Int)) = ((n1 + T : Nat) : Int) := by rw [IntKind.wrap_i64]; omega
 clear hT'
 go_enter Tryz.func57, Tryz.ntmps57
 go_wp2
 go_ret
 exact ⟨rfl, (Only.refl _ _).alloc _⟩
end Go.Proofs.YtlcglapcmdpkfaaGreat
