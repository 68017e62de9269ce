import Derived.Test.YtlcglapcmdpkfaaGreatTk
import Derived.Test.YtlcglapcmdpkfaaGreatQ9
import Derived.Test.YtlcglapcmdpkfaaGreatCn
namespace Go.Proofs.YtlcglapcmdpkfaaGreat
open Go.RowKit Go.Maps Go.Shelf
set_option linter.unusedSimpArgs false
set_option linter.unusedVariables false
def openM : Option SS → Option SS → Option SS
 | none, none => none
 | none, some y => some y
 | some x, none => some x
 | some x, some y => if x.epoch < y.epoch then some y else some x
def openR (d : DS) : Option SS := openM (loadR d 0) (loadR d 4)
def OpenIs (w : World) (dk : Nat → Prop) (p : Nat) (r : Option SS) (e : Ending) (w' : World) : Prop :=
 Only (fun _ => False) w w' ∧ match r with
 | none => e = .returned (.tuple #[.pointer none, .int .i64 6])
 | some x => ∃ s mc mn tv, e = .returned (.tuple #[.pointer (some ⟨s, 0, none⟩), .int .i64 0]) ∧ StAt w' dk s p mc mn tv x ∧ w.heap.size ≤ s ∧ w.heap.size ≤ mc ∧ w.heap.size ≤ mn
set_option maxRecDepth 100000 in
set_option maxHeartbeats 2000000 in
theorem open_any (p S B : Nat) (pv : Value) (d : DS) (w : World) (h : DiskAt w B p S pv d) (hl : d.life ≠ 0) (hb : ByteD d) (hn : 3 ≤ d.n / 4) (dk : Nat → Prop) (hdk : ∀ k, dk k → k < w.heap.size) :
  Calls Tryz.prog 45 #[.pointer (some ⟨p, 0, none⟩)] w fun e w' => Hid (OpenIs w dk p (openR d) e w') := by
 have HD : Hid (DiskAt w B p S pv d) := h
 obtain ⟨w1, hw1⟩ : ∃ w1, w1 = w.alloc (.cells (secL (d.sec 0)).toArray 67) := ⟨_, rfl⟩
 have HRd : Hid (Calls Tryz.prog 8 #[.pointer (some ⟨p, 0, none⟩), .int .i64 0] w fun e w' => e = .returned (.tuple #[.slice (some ⟨w.heap.size, 0, none⟩) 32 32, .int .i64 0]) ∧ w' = w1) := by
  rw [hw1]
  exact read_any p S 0 B pv d w h hl (by omega)
 have o1 : Only (fun _ => False) w w1 := by rw [hw1]; exact (Only.refl _ w).alloc _
 have O1 : Hid (Only (fun _ => False) w w1) := o1
 have h1 : DiskAt w1 B p S pv d := h.frame o1 (fun _ _ e => e)
 obtain ⟨c, hc⟩ := h1.c0
 have HCn : Hid (Calls Tryz.prog 28 _ _ _) := count_any p S d.n c w1 h1.n2 hc
 have HL0 : Hid (Calls Tryz.prog 74 #[.pointer (some ⟨p, 0, none⟩), .int .i64 0] w1 fun e w' => LoadIs w1 dk p (loadR d 0) e w') := load_any p S B 0 pv d w1 h1 hl hb hn (.inl rfl) dk (fun k hk => Nat.lt_of_lt_of_le (hdk k hk) o1.size)
 have HL4 : Hid (∀ w2, Only (fun _ => False) w1 w2 → Calls Tryz.prog 74 #[.pointer (some ⟨p, 0, none⟩), .int .i64 4] w2 fun e w' => LoadIs w2 dk p (loadR d 4) e w') := fun w2 ho => load_any p S B 4 pv d w2 (h1.frame ho (fun _ _ e => e)) hl hb hn (.inr rfl) dk (fun k hk => Nat.lt_of_lt_of_le (hdk k hk) (Nat.le_trans o1.size ho.size))
 unfold openR
 obtain ⟨L0, hL0⟩ : ∃ q, q = loadR d 0 := ⟨_, rfl⟩
 obtain ⟨L4, hL4⟩ : ∃ q, q = loadR d 4 := ⟨_, rfl⟩
 rw [← hL0] at HL0 ⊢
 rw [← hL4] at HL4 ⊢
 clear hL0 hL4
 obtain ⟨nn, hnn⟩ : ∃ nn, nn = d.n / 4 := ⟨_, rfl⟩
 rw [← hnn] at hn HCn
 have hn' : ¬ (nn : Int) < 3 := by omega
 clear h h1 hc hw1 o1 hnn hl hb hdk
 go_enter Tryz.func45, Tryz.ntmps45
 go_wp2_with fail
 refine (show Calls Tryz.prog 8 _ _ _ from HRd.out).mono ?_
 rintro e wa ⟨rfl, hwa⟩
 rw [hwa]
 clear hwa HRd
 go_wp2_with fail
 refine (show Calls Tryz.prog 28 _ _ _ from HCn.out).mono ?_
 rintro e wb ⟨rfl, hwb⟩
 rw [hwb]
 clear hwb HCn
 go_wp2_with fail
 refine (show Calls Tryz.prog 74 _ _ _ from HL0.out).mono ?_
 rintro e w2 ⟨ho2, hm2⟩
 clear HL0
 have HLq : Hid (Calls Tryz.prog 74 _ _ _) := HL4.out w2 ho2
 have O2 : Hid (Only (fun _ => False) w w2) := O1.out.trans ho2 (fun _ _ e => e)
 have sz1 := O1.out.size
 have sz2 := ho2.size
 clear HL4 ho2
 cases L0 with
 | none =>
   simp only at hm2
   subst hm2
   go_wp2_with fail
   refine (show Calls Tryz.prog 74 _ _ _ from HLq.out).mono ?_
   rintro e w3 ⟨ho3, hm3⟩
   clear HLq
   have O3 : Hid (Only (fun _ => False) w w3) := O2.out.trans ho3 (fun _ _ e => e)
   clear ho3
   cases L4 with
   | none =>
     simp only at hm3
     subst hm3
     have HEND : Hid (OpenIs w dk p (openM none none) (.returned (.tuple #[.pointer none, .int .i64 6])) w3) := by
      exact ⟨O3.out, rfl⟩
     go_wp2
     go_ret2
     exact HEND.out
   | some y =>
     obtain ⟨s2, mc, mn, tv, rfl, hs2, q1, q2, q3⟩ := hm3
     have HEND : Hid (OpenIs w dk p (openM none (some y)) (.returned (.tuple #[.pointer (some ⟨s2, 0, none⟩), .int .i64 0])) w3.drew) := by
      refine ⟨O3.out.drew, ?_⟩
      exact ⟨s2, mc, mn, tv, rfl, hs2.still ((Only.refl _ w3).drew), by omega, by omega, by omega⟩
     clear hs2
     go_wp2_with fail
     refine wp_region_held_drew (S := fun _ => True) (by kernel_rfl) trivial (fun hHeld => ?_)
     refine t8 (i := 0) (v := .pointer none) rfl hHeld ?_
     simp only [Act.put, z9]
     refine t8 (i := 1) (v := .bool true) rfl hHeld ?_
     simp only [Act.put, z9]
     refine t8 (i := 2) (v := .bool true) rfl hHeld ?_
     simp only [Act.put, z9]
     refine t9 (i := 3) rfl hHeld ?_
     simp only [Act.put, z9]
     refine t9 (i := 4) rfl hHeld ?_
     simp only [Act.put, z9]
     refine t9 (i := 5) rfl hHeld ?_
     simp only [Act.put, z9]
     refine t9 (i := 6) rfl hHeld ?_
     simp only [Act.put, z9]
     refine t9 (i := 7) rfl hHeld ?_
     simp only [Act.put, z9]
     refine t9 (i := 8) rfl hHeld ?_
     simp only [Act.put, z9]
     refine t9 (i := 9) rfl hHeld ?_
     simp only [Act.put, z9]
     refine t9 (i := 10) rfl hHeld ?_
     simp only [Act.put, z9]
     refine t9 (i := 11) rfl hHeld ?_
     simp only [Act.put, z9]
     refine t9 (i := 12) rfl hHeld ?_
     simp only [Act.put, z9]
     refine t9 (i := 13) rfl hHeld ?_
     simp only [Act.put, z9]
     refine t9 (i := 14) rfl hHeld ?_
     simp only [Act.put, z9]
     refine t9 (i := 15) rfl hHeld ?_
     simp only [Act.put, z9]
     refine t8 (i := 16) (v := .bool true) rfl hHeld ?_
     simp only [Act.put, z9]
     refine wpAnyH_done (by kernel_rfl) ?_ _
     clear hHeld
     go_wp2
     go_ret2
     exact HEND.out
 | some x =>
   obtain ⟨s1, mc1, mn1, tv1, rfl, hs1, q11, q12, q13⟩ := hm2
   go_wp2_with fail
   refine (show Calls Tryz.prog 74 _ _ _ from HLq.out).mono ?_
   rintro e w3 ⟨ho3, hm3⟩
   clear HLq
   have O3 : Hid (Only (fun _ => False) w w3) := O2.out.trans ho3 (fun _ _ e => e)
   have hs1' := hs1.still ho3
   have HS1 : Hid (StAt w3 dk s1 p mc1 mn1 tv1 x) := hs1'
   have ep1 := hs1'.c2
   clear ho3 hs1 hs1'
   cases L4 with
   | none =>
     simp only at hm3
     subst hm3
     have HEND : Hid (OpenIs w dk p (openM (some x) none) (.returned (.tuple #[.pointer (some ⟨s1, 0, none⟩), .int .i64 0])) w3.drew) := by
      refine ⟨O3.out.drew, ?_⟩
      exact ⟨s1, mc1, mn1, tv1, rfl, HS1.out.still ((Only.refl _ w3).drew), by omega, by omega, by omega⟩
     clear ep1
     go_wp2_with fail
     refine wp_region_held_drew (S := fun _ => True) (by kernel_rfl) trivial (fun hHeld => ?_)
     refine t8 (i := 0) (v := .pointer (some ⟨s1, 0, none⟩)) rfl hHeld ?_
     simp only [Act.put, z9]
     refine t8 (i := 1) (v := .bool false) rfl hHeld ?_
     simp only [Act.put, z9]
     refine t8 (i := 2) (v := .bool false) rfl hHeld ?_
     simp only [Act.put, z9]
     refine t8 (i := 3) (v := .pointer none) rfl hHeld ?_
     simp only [Act.put, z9]
     refine t8 (i := 4) (v := .bool false) rfl hHeld ?_
     simp only [Act.put, z9]
     refine t8 (i := 5) (v := .bool false) rfl hHeld ?_
     simp only [Act.put, z9]
     refine t9 (i := 6) rfl hHeld ?_
     simp only [Act.put, z9]
     refine t9 (i := 7) rfl hHeld ?_
     simp only [Act.put, z9]
     refine t9 (i := 8) rfl hHeld ?_
     simp only [Act.put, z9]
     refine t9 (i := 9) rfl hHeld ?_
     simp only [Act.put, z9]
     refine t9 (i := 10) rfl hHeld ?_
     simp only [Act.put, z9]
     refine t9 (i := 11) rfl hHeld ?_
     simp only [Act.put, z9]
     refine t9 (i := 12) rfl hHeld ?_
     simp only [Act.put, z9]
     refine t9 (i := 13) rfl hHeld ?_
     simp only [Act.put, z9]
     refine t9 (i := 14) rfl hHeld ?_
     simp only [Act.put, z9]
     refine t8 (i := 15) (v := .bool false) rfl hHeld ?_
     simp only [Act.put, z9]
     refine t8 (i := 16) (v := .bool false) rfl hHeld ?_
     simp only [Act.put, z9]
     refine wpAnyH_done (by kernel_rfl) ?_ _
     clear hHeld
     go_wp2
     go_ret2
     exact HEND.out
   | some y =>
     obtain ⟨s2, mc, mn, tv, rfl, hs2, q1, q2, q3⟩ := hm3
     have ep2 := hs2.c2
     obtain ⟨e1, he1⟩ : ∃ e1, e1 = x.epoch := ⟨_, rfl⟩
     obtain ⟨e2, he2⟩ : ∃ e2, e2 = y.epoch := ⟨_, rfl⟩
     rw [← he1] at ep1
     rw [← he2] at ep2
     have HS2 : Hid (StAt w3 dk s2 p mc mn tv y) := hs2
     by_cases hlt : e1 < e2
     ·have hlt' : (e1 : Int) < (e2 : Int) := by omega
      have HEND : Hid (OpenIs w dk p (openM (some x) (some y)) (.returned (.tuple #[.pointer (some ⟨s2, 0, none⟩), .int .i64 0])) w3.drew) := by
       refine ⟨O3.out.drew, ?_⟩
       rw [show openM (some x) (some y) = some y from if_pos (by omega)]
       exact ⟨s2, mc, mn, tv, rfl, HS2.out.still ((Only.refl _ w3).drew), by omega, by omega, by omega⟩
      clear hs2 he1 he2
      go_wp2_with fail
      refine wp_region_held_drew (S := fun w' => w'.cell? ⟨s1, 2, none⟩ = some (.int .u64 (e1 : Nat)) ∧ w'.cell? ⟨s2, 2, none⟩ = some (.int .u64 (e2 : Nat))) (by kernel_rfl) ⟨ep1, ep2⟩ (fun hHeld => ?_)
      refine t8 (i := 0) (v := .pointer (some ⟨s1, 0, none⟩)) rfl hHeld ?_
      simp only [Act.put, z9]
      refine t8 (i := 1) (v := .bool false) rfl hHeld ?_
      simp only [Act.put, z9]
      refine t8 (i := 2) (v := .bool false) rfl hHeld ?_
      simp only [Act.put, z9]
      refine t8 (i := 3) (v := .pointer (some ⟨s2, 0, none⟩)) rfl hHeld ?_
      simp only [Act.put, z9]
      refine t8 (i := 4) (v := .bool true) rfl hHeld ?_
      simp only [Act.put, z9]
      refine t8 (i := 5) (v := .bool true) rfl hHeld ?_
      simp only [Act.put, z9]
      refine t8 (i := 6) (v := .pointer (some ⟨s2, 0, none⟩)) rfl hHeld ?_
      simp only [Act.put, z9]
      refine t8 (i := 7) (v := .pointer (some ⟨s2, 0, none⟩)) rfl hHeld ?_
      simp only [Act.put, z9]
      refine t8 (i := 8) (v := .pointer (some ⟨s2, 2, none⟩)) rfl hHeld ?_
      simp only [Act.put, z9]
      refine t8 (i := 9) (v := .int .u64 (e2 : Nat)) rfl hHeld ?_
      simp only [Act.put, z9]
      refine t8 (i := 10) (v := .pointer (some ⟨s1, 0, none⟩)) rfl hHeld ?_
      simp only [Act.put, z9]
      refine t8 (i := 11) (v := .pointer (some ⟨s1, 0, none⟩)) rfl hHeld ?_
      simp only [Act.put, z9]
      refine t8 (i := 12) (v := .pointer (some ⟨s1, 2, none⟩)) rfl hHeld ?_
      simp only [Act.put, z9]
      refine t8 (i := 13) (v := .int .u64 (e1 : Nat)) rfl hHeld ?_
      simp only [Act.put, z9]
      refine t8 (i := 14) (v := .bool true) rfl hHeld ?_
      simp only [Act.put, z9]
      refine t8 (i := 15) (v := .bool true) rfl hHeld ?_
      simp only [Act.put, z9]
      refine t8 (i := 16) (v := .bool true) rfl hHeld ?_
      simp only [Act.put, z9]
      refine wpAnyH_done (by kernel_rfl) ?_ _
      clear hHeld
      go_wp2
      go_ret2
      exact HEND.out
     ·have hlt' : ¬ (e1 : Int) < (e2 : Int) := by omega
      have HEND : Hid (OpenIs w dk p (openM (some x) (some y)) (.returned (.tuple #[.pointer (some ⟨s1, 0, none⟩), .int .i64 0])) w3.drew) := by
       refine ⟨O3.out.drew, ?_⟩
       rw [show openM (some x) (some y) = some x from if_neg (by omega)]
       exact ⟨s1, mc1, mn1, tv1, rfl, HS1.out.still ((Only.refl _ w3).drew), by omega, by omega, by omega⟩
      clear hs2 he1 he2
      go_wp2_with fail
      refine wp_region_held_drew (S := fun w' => w'.cell? ⟨s1, 2, none⟩ = some (.int .u64 (e1 : Nat)) ∧ w'.cell? ⟨s2, 2, none⟩ = some (.int .u64 (e2 : Nat))) (by kernel_rfl) ⟨ep1, ep2⟩ (fun hHeld => ?_)
      refine t8 (i := 0) (v := .pointer (some ⟨s1, 0, none⟩)) rfl hHeld ?_
      simp only [Act.put, z9]
      refine t8 (i := 1) (v := .bool false) rfl hHeld ?_
      simp only [Act.put, z9]
      refine t8 (i := 2) (v := .bool false) rfl hHeld ?_
      simp only [Act.put, z9]
      refine t8 (i := 3) (v := .pointer (some ⟨s2, 0, none⟩)) rfl hHeld ?_
      simp only [Act.put, z9]
      refine t8 (i := 4) (v := .bool true) rfl hHeld ?_
      simp only [Act.put, z9]
      refine t8 (i := 5) (v := .bool true) rfl hHeld ?_
      simp only [Act.put, z9]
      refine t8 (i := 6) (v := .pointer (some ⟨s2, 0, none⟩)) rfl hHeld ?_
      simp only [Act.put, z9]
      refine t8 (i := 7) (v := .pointer (some ⟨s2, 0, none⟩)) rfl hHeld ?_
      simp only [Act.put, z9]
      refine t8 (i := 8) (v := .pointer (some ⟨s2, 2, none⟩)) rfl hHeld ?_
      simp only [Act.put, z9]
      refine t8 (i := 9) (v := .int .u64 (e2 : Nat)) rfl hHeld ?_
      simp only [Act.put, z9]
      refine t8 (i := 10) (v := .pointer (some ⟨s1, 0, none⟩)) rfl hHeld ?_
      simp only [Act.put, z9]
      refine t8 (i := 11) (v := .pointer (some ⟨s1, 0, none⟩)) rfl hHeld ?_
      simp only [Act.put, z9]
      refine t8 (i := 12) (v := .pointer (some ⟨s1, 2, none⟩)) rfl hHeld ?_
      simp only [Act.put, z9]
      refine t8 (i := 13) (v := .int .u64 (e1 : Nat)) rfl hHeld ?_
      simp only [Act.put, z9]
      refine t8 (i := 14) (v := .bool false) rfl hHeld ?_
      simp only [Act.put, z9]
      refine t8 (i := 15) (v := .bool false) rfl hHeld ?_
      simp only [Act.put, z9]
      refine t8 (i := 16) (v := .bool false) rfl hHeld ?_
      simp only [Act.put, z9]
      refine wpAnyH_done (by kernel_rfl) ?_ _
      clear hHeld
      go_wp2
      go_ret2
      exact HEND.out
end Go.Proofs.YtlcglapcmdpkfaaGreat
