import Derived.Test.YtlcglapcmdpkfaaGreatM5
namespace Go.Proofs.YtlcglapcmdpkfaaGreat
open Go.RowKit Go.Maps
set_option linter.unusedSimpArgs false
set_option linter.unusedVariables false
section
variable {w : World} {dk : Nat → Prop} {s p mc mn : Nat} {tv : Value} {x : SS}
set_option maxRecDepth 100000 in
set_option maxHeartbeats 2000000 in
theorem drop_ok (h : StAt w dk s p mc mn tv x) (i : Int) (hi : 0 ≤ i ∧ i < 728) {y : Nat × List Nat} (hg : pgAt x.now i = some y) :
  Calls Tryz.prog 18 #[.pointer (some ⟨s, 0, none⟩), .int .i64 i] w fun e w' => e = .returned (.int .i64 0) ∧ StAt w' dk s p mc mn tv { x with now := delL x.now i } ∧ Only (fun k => k = mn) w w' := by
 have HH := holds_st h i hi
 simp only [hg, Option.isSome_some, ↓reduceIte] at HH
 have HS : Hid (StAt w dk s p mc mn tv x) := h
 have HI : Hid _ := hi
 clear h hg hi
 go_enter Tryz.func18, Tryz.ntmps18
 go_wp2_with fail
 refine HH.mono ?_
 rintro e w1 ⟨rfl, ho1⟩
 have h6 := (HS.out.still ho1).c6
 obtain ⟨w2, hdel, h2, h3⟩ := HS.out.strike i HI.out ho1 0
 have HE : Hid (StAt w2 dk s p mc mn tv { x with now := delL x.now i } ∧ Only (fun k => k = mn) w w2) := ⟨h2, h3⟩
 clear HH ho1 h2 h3 HI HS
 go_wp2
 go_ret
 exact ⟨rfl, HE.out⟩
set_option maxRecDepth 100000 in
set_option maxHeartbeats 2000000 in
theorem drop_none (h : StAt w dk s p mc mn tv x) (i : Int) (hi : 0 ≤ i ∧ i < 728) (hg : pgAt x.now i = none) :
  Calls Tryz.prog 18 #[.pointer (some ⟨s, 0, none⟩), .int .i64 i] w fun e w' => e = .returned (.int .i64 6) ∧ Only (fun _ => False) w w' := by
 have HH := holds_st h i hi
 simp only [hg, Option.isSome_none, Bool.false_eq_true, ↓reduceIte] at HH
 clear h hg hi
 go_enter Tryz.func18, Tryz.ntmps18
 go_wp2_with fail
 refine HH.mono ?_
 rintro e w1 ⟨rfl, ho1⟩
 have HO : Hid _ := ho1
 clear HH ho1
 go_wp2
 go_ret
 exact ⟨rfl, HO.out⟩
set_option maxRecDepth 100000 in
set_option maxHeartbeats 2000000 in
theorem drop_out (h : StAt w dk s p mc mn tv x) (i : Int) (hi : i < 0 ∨ 728 ≤ i) :
  Calls Tryz.prog 18 #[.pointer (some ⟨s, 0, none⟩), .int .i64 i] w fun e w' => e = .returned (.int .i64 4) ∧ w' = w := by
 have HH := holds_out s p i w h.c0 hi
 clear h hi
 go_enter Tryz.func18, Tryz.ntmps18
 go_wp2_with (go_at_call 34; refine HH.mono ?_; rintro e w' ⟨rfl, rfl⟩)
 go_ret
 exact ⟨rfl, rfl⟩
end
def DS.barrier (d : DS) : Int × DS := if d.life = 0 then (3, d) else (0, { d with pend := [], life := aged d.life })
theorem barrier_all (p S B : Nat) (pv : Value) (d : DS) (w : World) (h : DiskAt w B p S pv d) :
  Calls Tryz.prog 65 #[.pointer (some ⟨p, 0, none⟩)] w fun e w' => e = .returned (.int .i64 d.barrier.1) ∧ ∃ pv', DiskAt w' B p S pv' d.barrier.2 ∧ Only (fun i => i = p) w w' ∧ ∀ b, pv'.ownBlock = some b → pv.ownBlock = some b := by
 by_cases e : d.life = 0
 ·have hb : d.barrier = (3, d) := by simp [DS.barrier, e]
  rw [hb]
  refine (barrier_dead p w (by rw [← e]; exact h.c2)).mono ?_
  rintro e w' ⟨rfl, rfl⟩
  exact ⟨rfl, pv, h, Only.refl _ _, fun _ hb => hb⟩
 ·have hb : d.barrier = (0, { d with pend := [], life := aged d.life }) := by simp [DS.barrier, e]
  rw [hb]
  refine (barrier_any p S B pv d w h e).mono ?_
  rintro e w' ⟨rfl, h1, h2⟩
  exact ⟨rfl, _, h1, h2, fun b hb => by simp [Value.ownBlock] at hb⟩
def DS.keep (d : DS) (k : Int) (f : Nat → Int) : Int × DS := if (d.write k f 32).1 ≠ 0 then d.write k f 32 else (d.write k f 32).2.barrier
set_option maxRecDepth 100000 in
set_option maxHeartbeats 2000000 in
theorem keep_all (p S c B : Nat) (a : Option Addr) (pv : Value) (d : DS) (k : Int) (f : Nat → Int) (w : World) (h : DiskAt w B p S pv d) (hr : RowAt w (.slice a 32 c) 32 1 (fun j => .int .u8 (f j))) (hB : B ≤ w.heap.size) (hby : (d.pend.length + 1) * 72 ≤ 140737488355328) :
  Calls Tryz.prog 29 #[.pointer (some ⟨p, 0, none⟩), .int .i64 k, .slice a 32 c] w fun e w' => e = .returned (.int .i64 (d.keep k f).1) ∧ ∃ pv', DiskAt w' B p S pv' (d.keep k f).2 ∧ Only (diskB p S pv) w w' ∧ ∀ b, pv'.ownBlock = some b → pv.ownBlock = some b ∨ w.heap.size ≤ b := by
 have HW : Hid (Calls Tryz.prog 40 _ _ _) := write_all p S 32 c B a pv d k f w h hr hB hby (by omega)
 clear h hr hB hby
 by_cases e : (d.write k f 32).1 = 0
 ·have hk : d.keep k f = (d.write k f 32).2.barrier := by simp [DS.keep, e]
  rw [hk]
  rw [e] at HW
  obtain ⟨d1, hd1⟩ : ∃ d1, d1 = (d.write k f 32).2 := ⟨_, rfl⟩
  rw [← hd1] at HW ⊢
  obtain ⟨q, hq⟩ : ∃ q, q = d1.barrier.1 := ⟨_, rfl⟩
  have HQ : Hid (q = d1.barrier.1) := hq
  rw [← hq]
  clear hq hd1 hk e
  go_enter Tryz.func29, Tryz.ntmps29
  go_wp2_with fail
  refine (show Calls Tryz.prog 40 _ _ _ from HW.out).mono ?_
  rintro e w1 ⟨rfl, pv1, hd1, ho1, hp1⟩
  have HB : Hid (Calls Tryz.prog 65 _ _ _) := barrier_all p S B pv1 _ w1 hd1
  rw [← HQ.out] at HB
  have H1 : Hid (Only (diskB p S pv) w w1 ∧ ∀ b, pv1.ownBlock = some b → pv.ownBlock = some b ∨ w.heap.size ≤ b) := ⟨ho1, hp1⟩
  clear hd1 ho1 hp1 HW
  go_wp2_with fail
  refine (show Calls Tryz.prog 65 _ _ _ from HB.out).mono ?_
  rintro e w2 ⟨rfl, pv2, hd2, ho2, hp2⟩
  have HE : Hid (∃ pv', DiskAt w2 B p S pv' d1.barrier.2 ∧ Only (diskB p S pv) w w2 ∧ ∀ b, pv'.ownBlock = some b → pv.ownBlock = some b ∨ w.heap.size ≤ b) :=
   ⟨pv2, hd2, H1.out.1.trans ho2 (fun _ _ e => .inl e), fun b hb => H1.out.2 b (hp2 b hb)⟩
  clear hd2 ho2 hp2 HB H1
  go_wp2
  go_ret
  exact ⟨rfl, HE.out⟩
 ·have hk : d.keep k f = d.write k f 32 := by simp [DS.keep, e]
  rw [hk]
  obtain ⟨q, hq⟩ : ∃ q, q = (d.write k f 32).1 := ⟨_, rfl⟩
  rw [← hq] at HW ⊢
  rw [← hq] at e
  have e' : (q == 0) = false := by simpa using e
  clear hq
  go_enter Tryz.func29, Tryz.ntmps29
  go_wp2_with fail
  refine (show Calls Tryz.prog 40 _ _ _ from HW.out).mono ?_
  rintro e w1 ⟨rfl, pv1, h1⟩
  have HE : Hid _ := h1
  clear h1 HW
  go_wp2
  go_ret
  exact ⟨rfl, pv1, HE.out⟩
end Go.Proofs.YtlcglapcmdpkfaaGreat
