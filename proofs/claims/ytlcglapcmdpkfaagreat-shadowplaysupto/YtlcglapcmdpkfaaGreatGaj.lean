/-       -/
import Derived.Test.YtlcglapcmdpkfaaGreatGaa
import Derived.Test.YtlcglapcmdpkfaaGreatGai
import Derived.Test.YtlcglapcmdpkfaaGreatGae
import Derived.Test.YtlcglapcmdpkfaaGreatGad
import Derived.Test.YtlcglapcmdpkfaaGreatGag
import Derived.BigQuiet
namespace Go.Proofs.YtlcglapcmdpkfaaGreat
open Go.RowKit Go.Maps Go.Shelf
set_option linter.unusedSimpArgs false
set_option linter.unusedVariables false
set_option maxRecDepth 100000
set_option maxHeartbeats 16000000
def openM : Option SS → Option SS → Option SS
 | none, none => none
 | none, some y => some y
 | some x, none => some x
 | some x, some y => if x.epoch < y.epoch then some y else some x
def openR (d : DS) : Option SS := openM (loadR d 0) (loadR d 4)
def OpenIs (w : World) (dk : Nat → Prop) (p : Nat) (r : Option SS) (e : Ending) (w' : World) : Prop :=
 Only (fun _ => False) w w' ∧ match r with
 | none => e = .returned (.tuple #[.pointer none, .int .i64 6])
 | some x => ∃ s mc mn tv, e = .returned (.tuple #[.pointer (some ⟨s, 0, none⟩), .int .i64 0]) ∧ StAt w' dk s p mc mn tv x ∧ w.heap.size ≤ s ∧ w.heap.size ≤ mc ∧ w.heap.size ≤ mn
theorem open_any (p S B : Nat) (pv : Value) (d : DS) (w : World) (h : DiskAt w B p S pv d) (hl : d.life ≠ 0) (hb : ByteD d) (hn : 3 ≤ d.n / 4) (dk : Nat → Prop) (hdk : ∀ k, dk k → k < w.heap.size) :
  Calls Tryz.prog 45 #[.pointer (some ⟨p, 0, none⟩)] w fun e w' => Hid (OpenIs w dk p (openR d) e w') := by
 have HD : Hid (DiskAt w B p S pv d) := h
 obtain ⟨w1, hw1⟩ : ∃ w1, w1 = w.alloc (.cells (secL (d.sec 0)).toArray 67) := ⟨_, rfl⟩
 have HRd : Hid (Calls Tryz.prog 8 #[.pointer (some ⟨p, 0, none⟩), .int .i64 0] w fun e w' => e = .returned (.tuple #[.slice (some ⟨w.heap.size, 0, none⟩) 32 32, .int .i64 0]) ∧ w' = w1) := by
  rw [hw1]
  exact read_any p S 0 B pv d w h hl (by omega)
 have o1 : Only (fun _ => False) w w1 := by rw [hw1]; exact (Only.refl _ w).alloc _
 have O1 : Hid (Only (fun _ => False) w w1) := o1
 have h1 : DiskAt w1 B p S pv d := h.frame o1 (fun _ _ e => e)
 obtain ⟨c, hc⟩ := h1.c0
 have HCn : Hid (Calls Tryz.prog 28 _ _ _) := count_any p S d.n c w1 h1.n2 hc
 have HL0 : Hid (Calls Tryz.prog 74 #[.pointer (some ⟨p, 0, none⟩), .int .i64 0] w1 fun e w' => LoadIs w1 dk p (loadR d 0) e w') := load_any p S B 0 pv d w1 h1 hl hb hn (.inl rfl) dk (fun k hk => Nat.lt_of_lt_of_le (hdk k hk) o1.size)
 have HL4 : Hid (∀ w2, Only (fun _ => False) w1 w2 → Calls Tryz.prog 74 #[.pointer (some ⟨p, 0, none⟩), .int .i64 4] w2 fun e w' => LoadIs w2 dk p (loadR d 4) e w') := fun w2 ho => load_any p S B 4 pv d w2 (h1.frame ho (fun _ _ e => e)) hl hb hn (.inr rfl) dk (fun k hk => Nat.lt_of_lt_of_le (hdk k hk) (Nat.le_trans o1.size ho.size))
 unfold openR
 obtain ⟨L0, hL0⟩ : ∃ q, q = loadR d 0 := ⟨_, rfl⟩
 obtain ⟨L4, hL4⟩ : ∃ q, q = loadR d 4 := ⟨_, rfl⟩
 rw [← hL0] at HL0 ⊢
 rw [← hL4] at HL4 ⊢
 clear hL0 hL4
 obtain ⟨nn, hnn⟩ : ∃ nn, nn = d.n / 4 := ⟨_, rfl⟩
 rw [← hnn] at hn HCn
 have hn' : ¬ (nn : Int) < 3 := by omega
 clear h h1 hc hw1 o1 hnn hl hb hdk
 go_enter Tryz.func45, Tryz.ntmps45
 go_wp2_with fail
 refine (show Calls Tryz.prog 8 _ _ _ from HRd.out).mono ?_
 rintro e wa ⟨rfl, hwa⟩
 rw [hwa]
 clear hwa HRd
 go_wp2_with fail
 refine (show Calls Tryz.prog 28 _ _ _ from HCn.out).mono ?_
 rintro e wb ⟨rfl, hwb⟩
 rw [hwb]
 clear hwb HCn
 go_wp2_with fail
 refine (show Calls Tryz.prog 74 _ _ _ from HL0.out).mono ?_
 rintro e w2 ⟨ho2, hm2⟩
 clear HL0
 have HLq : Hid (Calls Tryz.prog 74 _ _ _) := HL4.out w2 ho2
 have O2 : Hid (Only (fun _ => False) w w2) := O1.out.trans ho2 (fun _ _ e => e)
 have sz1 := O1.out.size
 have sz2 := ho2.size
 clear HL4 ho2
 cases L0 with
 | none =>
   simp only at hm2
   subst hm2
   go_wp2_with fail
   refine (show Calls Tryz.prog 74 _ _ _ from HLq.out).mono ?_
   rintro e w3 ⟨ho3, hm3⟩
   clear HLq
   have O3 : Hid (Only (fun _ => False) w w3) := O2.out.trans ho3 (fun _ _ e => e)
   clear ho3
   cases L4 with
   | none =>
     simp only at hm3
     subst hm3
     have HEND : Hid (OpenIs w dk p (openM none none) (.returned (.tuple #[.pointer none, .int .i64 6])) w3) := by
      exact ⟨O3.out, rfl⟩
     go_wp2
     go_ret2
     exact HEND.out
   | some y =>
     obtain ⟨s2, mc, mn, tv, rfl, hs2, q1, q2, q3⟩ := hm3
     have HEND : Hid (OpenIs w dk p (openM none (some y)) (.returned (.tuple #[.pointer (some ⟨s2, 0, none⟩), .int .i64 0])) w3.drew) := by
      refine ⟨O3.out.drew, ?_⟩
      exact ⟨s2, mc, mn, tv, rfl, hs2.still ((Only.refl _ w3).drew), by omega, by omega, by omega⟩
     clear hs2
     go_wp2_with fail
     refine wp_region_held_drew (S := fun _ => True) (by kernel_rfl) trivial (fun hHeld => ?_)
     refine t8 (i := 0) (v := .pointer none) rfl hHeld ?_
     simp only [Act.put, z9]
     refine t8 (i := 1) (v := .bool true) rfl hHeld ?_
     simp only [Act.put, z9]
     refine t8 (i := 2) (v := .bool true) rfl hHeld ?_
     simp only [Act.put, z9]
     refine t9 (i := 3) rfl hHeld ?_
     simp only [Act.put, z9]
     refine t9 (i := 4) rfl hHeld ?_
     simp only [Act.put, z9]
     refine t9 (i := 5) rfl hHeld ?_
     simp only [Act.put, z9]
     refine t9 (i := 6) rfl hHeld ?_
     simp only [Act.put, z9]
     refine t9 (i := 7) rfl hHeld ?_
     simp only [Act.put, z9]
     refine t9 (i := 8) rfl hHeld ?_
     simp only [Act.put, z9]
     refine t9 (i := 9) rfl hHeld ?_
     simp only [Act.put, z9]
     refine t9 (i := 10) rfl hHeld ?_
     simp only [Act.put, z9]
     refine t9 (i := 11) rfl hHeld ?_
     simp only [Act.put, z9]
     refine t9 (i := 12) rfl hHeld ?_
     simp only [Act.put, z9]
     refine t9 (i := 13) rfl hHeld ?_
     simp only [Act.put, z9]
     refine t9 (i := 14) rfl hHeld ?_
     simp only [Act.put, z9]
     refine t9 (i := 15) rfl hHeld ?_
     simp only [Act.put, z9]
     refine t8 (i := 16) (v := .bool true) rfl hHeld ?_
     simp only [Act.put, z9]
     refine wpAnyH_done (by kernel_rfl) ?_ _
     clear hHeld
     go_wp2
     go_ret2
     exact HEND.out
 | some x =>
   obtain ⟨s1, mc1, mn1, tv1, rfl, hs1, q11, q12, q13⟩ := hm2
   go_wp2_with fail
   refine (show Calls Tryz.prog 74 _ _ _ from HLq.out).mono ?_
   rintro e w3 ⟨ho3, hm3⟩
   clear HLq
   have O3 : Hid (Only (fun _ => False) w w3) := O2.out.trans ho3 (fun _ _ e => e)
   have hs1' := hs1.still ho3
   have HS1 : Hid (StAt w3 dk s1 p mc1 mn1 tv1 x) := hs1'
   have ep1 := hs1'.c2
   clear ho3 hs1 hs1'
   cases L4 with
   | none =>
     simp only at hm3
     subst hm3
     have HEND : Hid (OpenIs w dk p (openM (some x) none) (.returned (.tuple #[.pointer (some ⟨s1, 0, none⟩), .int .i64 0])) w3.drew) := by
      refine ⟨O3.out.drew, ?_⟩
      exact ⟨s1, mc1, mn1, tv1, rfl, HS1.out.still ((Only.refl _ w3).drew), by omega, by omega, by omega⟩
     clear ep1
     go_wp2_with fail
     refine wp_region_held_drew (S := fun _ => True) (by kernel_rfl) trivial (fun hHeld => ?_)
     refine t8 (i := 0) (v := .pointer (some ⟨s1, 0, none⟩)) rfl hHeld ?_
     simp only [Act.put, z9]
     refine t8 (i := 1) (v := .bool false) rfl hHeld ?_
     simp only [Act.put, z9]
     refine t8 (i := 2) (v := .bool false) rfl hHeld ?_
     simp only [Act.put, z9]
     refine t8 (i := 3) (v := .pointer none) rfl hHeld ?_
     simp only [Act.put, z9]
     refine t8 (i := 4) (v := .bool false) rfl hHeld ?_
     simp only [Act.put, z9]
     refine t8 (i := 5) (v := .bool false) rfl hHeld ?_
     simp only [Act.put, z9]
     refine t9 (i := 6) rfl hHeld ?_
     simp only [Act.put, z9]
     refine t9 (i := 7) rfl hHeld ?_
     simp only [Act.put, z9]
     refine t9 (i := 8) rfl hHeld ?_
     simp only [Act.put, z9]
     refine t9 (i := 9) rfl hHeld ?_
     simp only [Act.put, z9]
     refine t9 (i := 10) rfl hHeld ?_
     simp only [Act.put, z9]
     refine t9 (i := 11) rfl hHeld ?_
     simp only [Act.put, z9]
     refine t9 (i := 12) rfl hHeld ?_
     simp only [Act.put, z9]
     refine t9 (i := 13) rfl hHeld ?_
     simp only [Act.put, z9]
     refine t9 (i := 14) rfl hHeld ?_
     simp only [Act.put, z9]
     refine t8 (i := 15) (v := .bool false) rfl hHeld ?_
     simp only [Act.put, z9]
     refine t8 (i := 16) (v := .bool false) rfl hHeld ?_
     simp only [Act.put, z9]
     refine wpAnyH_done (by kernel_rfl) ?_ _
     clear hHeld
     go_wp2
     go_ret2
     exact HEND.out
   | some y =>
     obtain ⟨s2, mc, mn, tv, rfl, hs2, q1, q2, q3⟩ := hm3
     have ep2 := hs2.c2
     obtain ⟨e1, he1⟩ : ∃ e1, e1 = x.epoch := ⟨_, rfl⟩
     obtain ⟨e2, he2⟩ : ∃ e2, e2 = y.epoch := ⟨_, rfl⟩
     rw [← he1] at ep1
     rw [← he2] at ep2
     have HS2 : Hid (StAt w3 dk s2 p mc mn tv y) := hs2
     by_cases hlt : e1 < e2
     ·have hlt' : (e1 : Int) < (e2 : Int) := by omega
      have HEND : Hid (OpenIs w dk p (openM (some x) (some y)) (.returned (.tuple #[.pointer (some ⟨s2, 0, none⟩), .int .i64 0])) w3.drew) := by
       refine ⟨O3.out.drew, ?_⟩
       rw [show openM (some x) (some y) = some y from if_pos (by omega)]
       exact ⟨s2, mc, mn, tv, rfl, HS2.out.still ((Only.refl _ w3).drew), by omega, by omega, by omega⟩
      clear hs2 he1 he2
      go_wp2_with fail
      refine wp_region_held_drew (S := fun w' => w'.cell? ⟨s1, 2, none⟩ = some (.int .u64 (e1 : Nat)) ∧ w'.cell? ⟨s2, 2, none⟩ = some (.int .u64 (e2 : Nat))) (by kernel_rfl) ⟨ep1, ep2⟩ (fun hHeld => ?_)
      refine t8 (i := 0) (v := .pointer (some ⟨s1, 0, none⟩)) rfl hHeld ?_
      simp only [Act.put, z9]
      refine t8 (i := 1) (v := .bool false) rfl hHeld ?_
      simp only [Act.put, z9]
      refine t8 (i := 2) (v := .bool false) rfl hHeld ?_
      simp only [Act.put, z9]
      refine t8 (i := 3) (v := .pointer (some ⟨s2, 0, none⟩)) rfl hHeld ?_
      simp only [Act.put, z9]
      refine t8 (i := 4) (v := .bool true) rfl hHeld ?_
      simp only [Act.put, z9]
      refine t8 (i := 5) (v := .bool true) rfl hHeld ?_
      simp only [Act.put, z9]
      refine t8 (i := 6) (v := .pointer (some ⟨s2, 0, none⟩)) rfl hHeld ?_
      simp only [Act.put, z9]
      refine t8 (i := 7) (v := .pointer (some ⟨s2, 0, none⟩)) rfl hHeld ?_
      simp only [Act.put, z9]
      refine t8 (i := 8) (v := .pointer (some ⟨s2, 2, none⟩)) rfl hHeld ?_
      simp only [Act.put, z9]
      refine t8 (i := 9) (v := .int .u64 (e2 : Nat)) rfl hHeld ?_
      simp only [Act.put, z9]
      refine t8 (i := 10) (v := .pointer (some ⟨s1, 0, none⟩)) rfl hHeld ?_
      simp only [Act.put, z9]
      refine t8 (i := 11) (v := .pointer (some ⟨s1, 0, none⟩)) rfl hHeld ?_
      simp only [Act.put, z9]
      refine t8 (i := 12) (v := .pointer (some ⟨s1, 2, none⟩)) rfl hHeld ?_
      simp only [Act.put, z9]
      refine t8 (i := 13) (v := .int .u64 (e1 : Nat)) rfl hHeld ?_
      simp only [Act.put, z9]
      refine t8 (i := 14) (v := .bool true) rfl hHeld ?_
      simp only [Act.put, z9]
      refine t8 (i := 15) (v := .bool true) rfl hHeld ?_
      simp only [Act.put, z9]
      refine t8 (i := 16) (v := .bool true) rfl hHeld ?_
      simp only [Act.put, z9]
      refine wpAnyH_done (by kernel_rfl) ?_ _
      clear hHeld
      go_wp2
      go_ret2
      exact HEND.out
     ·have hlt' : ¬ (e1 : Int) < (e2 : Int) := by omega
      have HEND : Hid (OpenIs w dk p (openM (some x) (some y)) (.returned (.tuple #[.pointer (some ⟨s1, 0, none⟩), .int .i64 0])) w3.drew) := by
       refine ⟨O3.out.drew, ?_⟩
       rw [show openM (some x) (some y) = some x from if_neg (by omega)]
       exact ⟨s1, mc1, mn1, tv1, rfl, HS1.out.still ((Only.refl _ w3).drew), by omega, by omega, by omega⟩
      clear hs2 he1 he2
      go_wp2_with fail
      refine wp_region_held_drew (S := fun w' => w'.cell? ⟨s1, 2, none⟩ = some (.int .u64 (e1 : Nat)) ∧ w'.cell? ⟨s2, 2, none⟩ = some (.int .u64 (e2 : Nat))) (by kernel_rfl) ⟨ep1, ep2⟩ (fun hHeld => ?_)
      refine t8 (i := 0) (v := .pointer (some ⟨s1, 0, none⟩)) rfl hHeld ?_
      simp only [Act.put, z9]
      refine t8 (i := 1) (v := .bool false) rfl hHeld ?_
      simp only [Act.put, z9]
      refine t8 (i := 2) (v := .bool false) rfl hHeld ?_
      simp only [Act.put, z9]
      refine t8 (i := 3) (v := .pointer (some ⟨s2, 0, none⟩)) rfl hHeld ?_
      simp only [Act.put, z9]
      refine t8 (i := 4) (v := .bool true) rfl hHeld ?_
      simp only [Act.put, z9]
      refine t8 (i := 5) (v := .bool true) rfl hHeld ?_
      simp only [Act.put, z9]
      refine t8 (i := 6) (v := .pointer (some ⟨s2, 0, none⟩)) rfl hHeld ?_
      simp only [Act.put, z9]
      refine t8 (i := 7) (v := .pointer (some ⟨s2, 0, none⟩)) rfl hHeld ?_
      simp only [Act.put, z9]
      refine t8 (i := 8) (v := .pointer (some ⟨s2, 2, none⟩)) rfl hHeld ?_
      simp only [Act.put, z9]
      refine t8 (i := 9) (v := .int .u64 (e2 : Nat)) rfl hHeld ?_
      simp only [Act.put, z9]
      refine t8 (i := 10) (v := .pointer (some ⟨s1, 0, none⟩)) rfl hHeld ?_
      simp only [Act.put, z9]
      refine t8 (i := 11) (v := .pointer (some ⟨s1, 0, none⟩)) rfl hHeld ?_
      simp only [Act.put, z9]
      refine t8 (i := 12) (v := .pointer (some ⟨s1, 2, none⟩)) rfl hHeld ?_
      simp only [Act.put, z9]
      refine t8 (i := 13) (v := .int .u64 (e1 : Nat)) rfl hHeld ?_
      simp only [Act.put, z9]
      refine t8 (i := 14) (v := .bool false) rfl hHeld ?_
      simp only [Act.put, z9]
      refine t8 (i := 15) (v := .bool false) rfl hHeld ?_
      simp only [Act.put, z9]
      refine t8 (i := 16) (v := .bool false) rfl hHeld ?_
      simp only [Act.put, z9]
      refine wpAnyH_done (by kernel_rfl) ?_ _
      clear hHeld
      go_wp2
      go_ret2
      exact HEND.out
end Go.Proofs.YtlcglapcmdpkfaaGreat
namespace Go.Proofs.YtlcglapcmdpkfaaGreat
open Go.RowKit
set_option linter.unusedSimpArgs false
set_option linter.unusedVariables false
set_option maxRecDepth 100000
set_option maxHeartbeats 16000000
structure RW where
 x : Wr
 g : Nat
 c : Nat
def RW.cells (y : RW) : List Value := [.int .i64 y.x.at_, .slice (some ⟨y.g, 0, none⟩) 32 y.c]
def refL (l : List RW) : List Value := l.flatMap RW.cells
theorem refL_snoc (l : List RW) (x : RW) : refL (l ++ [x]) = refL l ++ x.cells := by simp [refL]
theorem refL_get : ∀ (ws : List RW) (j : Nat) (h : j < ws.length) (q : Nat), q < 2 → (refL ws)[j * 2 + q]? = (ws[j]).cells[q]?
 | x :: r, 0, h, q, hq => by
   simp only [refL, List.flatMap_cons, Nat.zero_mul, Nat.zero_add, List.getElem_cons_zero]
   rw [List.getElem?_append_left (by simp [RW.cells]; exact hq)]
 | x :: r, j + 1, h, q, hq => by
   simp only [List.length_cons] at h
   have ih := refL_get r j (by omega) q hq
   simp only [refL, List.flatMap_cons, List.getElem_cons_succ] at *
   rw [List.getElem?_append_right (by simp [RW.cells]; omega), ← ih]
   congr 1
   simp [RW.cells]; omega
structure RefAt (w : World) (B r K : Nat) (pv : Value) (d : DS) (rs : List RW) : Prop where
 rB : B ≤ r
 KB : B ≤ K
 rK : r ≠ K
 c0 : w.cell? ⟨r, 0, none⟩ = some (.int .i64 d.n)
 c1 : w.cell? ⟨r, 1, none⟩ = some (.slice (some ⟨K, 0, none⟩) (d.n * 32) (d.n * 32))
 c2 : w.cell? ⟨r, 2, none⟩ = some pv
 c3 : w.cell? ⟨r, 3, none⟩ = some (.int .i64 d.life)
 f2 : w.frozen? ⟨r, 2, none⟩ = false
 f3 : w.frozen? ⟨r, 3, none⟩ = false
 kept : w.rangeAt K 0 (allL d.n (undoW d.pend d.sec))
 kth : w.there K 0 (d.n * 32)
 own : w.ownsRow B 69 2 pv rs.length (refL rs)
 hr : pv.ownBlock ≠ some r
 hK : pv.ownBlock ≠ some K
 tie : rs.map RW.x = d.pend
 at_ : ∀ x ∈ rs, B ≤ x.g ∧ w.rangeAt x.g 0 (secL x.x.aft) ∧ x.g ≠ r ∧ x.g ≠ K ∧ pv.ownBlock ≠ some x.g
 bd : ∀ x ∈ d.pend, x.at_ < d.n
 n1 : 1 ≤ d.n
 n2 : d.n ≤ 8192
 l1 : -1 ≤ d.life
 l2 : d.life ≤ 9223372036854775807
def refB (r K : Nat) (pv : Value) (rs : List RW) : Nat → Prop := fun k => k = r ∨ k = K ∨ pv.ownBlock = some k ∨ ∃ x ∈ rs, k = x.g
theorem RefAt.frame {w w' : World} {B r K : Nat} {pv : Value} {d : DS} {rs : List RW} {bs : Nat → Prop} (h : RefAt w B r K pv d rs) (ho : Only bs w w') (hn : ∀ k, refB r K pv rs k → ¬ bs k) : RefAt w' B r K pv d rs := by
 have nr := hn r (.inl rfl)
 have nK := hn K (.inr (.inl rfl))
 exact { rB := h.rB, KB := h.KB, rK := h.rK, c0 := ho.cell h.c0 nr, c1 := ho.cell h.c1 nr, c2 := ho.cell h.c2 nr, c3 := ho.cell h.c3 nr,
         f2 := (ho.frozen (World.block_lt_of_cell? w _ h.c2) nr).trans h.f2, f3 := (ho.frozen (World.block_lt_of_cell? w _ h.c3) nr).trans h.f3,
         kept := ho.range h.kept nK, kth := ho.there h.kth nK, own := ho.owns h.own (fun k hk => hn k (.inr (.inr (.inl hk)))), hr := h.hr, hK := h.hK, tie := h.tie,
         at_ := fun x hx => by obtain ⟨h1, h2, h3⟩ := h.at_ x hx; exact ⟨h1, ho.range h2 (hn _ (.inr (.inr (.inr ⟨x, hx, rfl⟩)))), h3⟩,
         bd := h.bd, n1 := h.n1, n2 := h.n2, l1 := h.l1, l2 := h.l2 }
theorem RefAt.lt {w : World} {B r K : Nat} {pv : Value} {d : DS} {rs : List RW} (h : RefAt w B r K pv d rs) : ∀ k, refB r K pv rs k → B ≤ k ∧ k < w.heap.size := by
 rintro k (rfl | rfl | hk | ⟨x, hx, rfl⟩)
 ·exact ⟨h.rB, World.block_lt_of_cell? w _ h.c0⟩
 ·exact ⟨h.KB, range_lt h.n1 h.kept⟩
 ·exact h.own.lt k hk
 ·obtain ⟨h1, h2, _⟩ := h.at_ x hx
  exact ⟨h1, World.block_lt_of_cell? w _ (h2 0 _ (secL_get _ 0 (by omega)))⟩
theorem RefAt.len {w : World} {B r K : Nat} {pv : Value} {d : DS} {rs : List RW} (h : RefAt w B r K pv d rs) : rs.length = d.pend.length := by
 rw [← h.tie]; simp
theorem RefAt.form {w : World} {B r K : Nat} {pv : Value} {d : DS} {rs : List RW} (h : RefAt w B r K pv d rs) : ∃ a c, pv = .slice a rs.length c := by
 rcases h.own.2 with ⟨e, e0⟩ | ⟨g, cap, cur, e, _⟩
 ·exact ⟨none, 0, by rw [e, e0]⟩
 ·exact ⟨_, _, e⟩
theorem RefAt.get {w : World} {B r K : Nat} {a : Option Addr} {m c : Nat} {d : DS} {rs : List RW} (h : RefAt w B r K (.slice a m c) d rs) (i : Nat) (hi : i < rs.length) :
  ∃ g, a = some ⟨g, 0, none⟩ ∧ w.cell? ⟨g, i * 2, none⟩ = some (.int .i64 (rs[i]).x.at_) ∧ w.cell? ⟨g, i * 2 + 1, none⟩ = some (.slice (some ⟨(rs[i]).g, 0, none⟩) 32 (rs[i]).c) ∧ g ≠ r ∧ g ≠ K := by
 obtain ⟨g, cap, hv, _⟩ := h.own.form (by omega)
 simp only [Value.slice.injEq] at hv
 obtain ⟨rfl, rfl, rfl⟩ := hv
 have o := h.own
 refine ⟨g, rfl, ?_, ?_, fun e => h.hr (by rw [e]; rfl), fun e => h.hK (by rw [e]; rfl)⟩
 ·rw [o.cellAt (i * 2) (by omega)]
  exact refL_get rs i hi 0 (by omega)
 ·rw [o.cellAt (i * 2 + 1) (by omega)]
  exact refL_get rs i hi 1 (by omega)
theorem Only.drewN {bs : Nat → Prop} {a w : World} (h : Only bs a w) (n : Nat) : Only bs a (w.drewN n) := ⟨h.os, h.tape, h.output, h.size, h.block⟩
structure RPg where
 i : Int
 at_ : Nat
 b : List Nat
 v : Value
def RPg.p (y : RPg) : Int × Nat × List Nat := (y.i, y.at_, y.b)
def RPg.cells (y : RPg) : List Value := [.int .i64 y.i, .int .i64 (y.at_ : Nat), y.v]
def rpgL (l : List RPg) : List Value := l.flatMap RPg.cells
theorem rpgL_length (l : List RPg) : (rpgL l).length = l.length * 3 := by
 induction l with
 | nil => rfl
 | cons x r ih => simp only [rpgL, List.flatMap_cons, List.length_append, List.length_cons] at *; rw [ih]; simp [RPg.cells]; omega
theorem rpgL_append (l m : List RPg) : rpgL (l ++ m) = rpgL l ++ rpgL m := by simp [rpgL]
theorem rpgL_get : ∀ (ws : List RPg) (j : Nat) (h : j < ws.length) (q : Nat), q < 3 → (rpgL ws)[j * 3 + q]? = (ws[j]).cells[q]?
 | x :: r, 0, h, q, hq => by
   simp only [rpgL, List.flatMap_cons, Nat.zero_mul, Nat.zero_add, List.getElem_cons_zero]
   rw [List.getElem?_append_left (by simp [RPg.cells]; exact hq)]
 | x :: r, j + 1, h, q, hq => by
   simp only [List.length_cons] at h
   have ih := rpgL_get r j (by omega) q hq
   simp only [rpgL, List.flatMap_cons, List.getElem_cons_succ] at *
   rw [List.getElem?_append_right (by simp [RPg.cells]; omega), ← ih]
   congr 1
   simp [RPg.cells]; omega
structure PgsAt (w : World) (B : Nat) (av : Nat → Prop) (nv : Value) (l : List RPg) : Prop where
 own : w.ownsRow B 103 3 nv l.length (rpgL l)
 dat : ∀ y ∈ l, BytesAt w y.v y.b ∧ ∀ b, y.v.ownBlock = some b → b < w.heap.size ∧ ¬ av b
theorem PgsAt.frame {w w' : World} {B : Nat} {av av' bs : Nat → Prop} {nv : Value} {l : List RPg} (h : PgsAt w B av nv l) (ho : Only bs w w') (hr : ∀ b, nv.ownBlock = some b → ¬ bs b) (hb : ∀ k, k < w.heap.size → bs k → av k) (ha : ∀ k, k < w.heap.size → av' k → av k) : PgsAt w' B av' nv l :=
 ⟨ho.owns h.own hr, fun y hy => ⟨(h.dat y hy).1.keep ho (fun b e e' => ((h.dat y hy).2 b e).2 (hb b ((h.dat y hy).2 b e).1 e')),
  fun b e => ⟨Nat.lt_of_lt_of_le ((h.dat y hy).2 b e).1 ho.size, fun e' => ((h.dat y hy).2 b e).2 (ha b ((h.dat y hy).2 b e).1 e')⟩⟩⟩
theorem PgsAt.nil (w : World) (B : Nat) (av : Nat → Prop) : PgsAt w B av (.slice none 0 0) [] := ⟨World.ownsRow_nil _ _ _ _, fun y hy => by cases hy⟩
theorem PgsAt.form {w : World} {B : Nat} {av : Nat → Prop} {nv : Value} {l : List RPg} (h : PgsAt w B av nv l) : ∃ a c, nv = .slice a l.length c ∧ l.length ≤ c := by
 rcases h.own.2 with ⟨rfl, h0⟩ | ⟨g, cap, cur, rfl, hb, hg, hc, _⟩
 ·exact ⟨none, 0, by rw [h0], by omega⟩
 ·exact ⟨_, _, rfl, hc⟩
theorem PgsAt.lt {w : World} {B : Nat} {av : Nat → Prop} {nv : Value} {l : List RPg} (h : PgsAt w B av nv l) (b : Nat) (hb : nv.ownBlock = some b) : B ≤ b ∧ b < w.heap.size := h.own.lt b hb
theorem PgsAt.get {w : World} {B : Nat} {av : Nat → Prop} {a : Option Addr} {m c : Nat} {l : List RPg} (h : PgsAt w B av (.slice a m c) l) (i : Nat) (hi : i < l.length) :
  ∃ g, a = some ⟨g, 0, none⟩ ∧ (∀ q, q < 3 → ∃ u, (l[i]).cells[q]? = some u ∧ w.cell? ⟨g, i * 3 + q, none⟩ = some u) ∧ (∀ q, q < 3 → w.frozen? ⟨g, i * 3 + q, none⟩ = false) := by
 rcases h.own.2 with ⟨hv, h0⟩ | ⟨g, cap, cur, hv, hb, hg, hc, hcm, hcs, ht⟩
 ·omega
 ·simp only [Value.slice.injEq] at hv
  obtain ⟨rfl, rfl, rfl⟩ := hv
  refine ⟨g, rfl, fun q hq => ?_, fun q hq => ?_⟩
  ·have e := rpgL_get l i hi q hq
   have hq2 : q < (l[i]).cells.length := by simp only [RPg.cells, List.length_cons, List.length_nil]; omega
   obtain ⟨u, hu⟩ : ∃ u, (l[i]).cells[q]? = some u := ⟨_, List.getElem?_eq_getElem hq2⟩
   refine ⟨u, hu, ?_⟩
   rw [hu, ← ht, List.getElem?_take] at e
   split at e
   ·rw [cell_of_row _ _ _ _ _ _ hg]
    simpa using e
   ·cases e
  ·simp [World.frozen?, hg]
theorem PgsAt.at {w : World} {B : Nat} {av : Nat → Prop} {a : Option Addr} {m c : Nat} {l : List RPg} (h : PgsAt w B av (.slice a m c) l) (i : Nat) (hi : i < l.length) :
  ∃ g, a = some ⟨g, 0, none⟩ ∧ w.cell? ⟨g, i * 3, none⟩ = some (.int .i64 (l[i]).i) ∧ w.cell? ⟨g, i * 3 + 1, none⟩ = some (.int .i64 ((l[i]).at_ : Nat)) ∧ w.cell? ⟨g, i * 3 + 2, none⟩ = some (l[i]).v := by
 obtain ⟨g, rfl, hq, _⟩ := h.get i hi
 obtain ⟨u0, e0, c0⟩ := hq 0 (by omega)
 obtain ⟨u1, e1, c1⟩ := hq 1 (by omega)
 obtain ⟨u2, e2, c2⟩ := hq 2 (by omega)
 simp only [RPg.cells, List.getElem?_cons_zero, List.getElem?_cons_succ, Option.some.injEq] at e0 e1 e2
 subst e0 e1 e2
 exact ⟨g, rfl, c0, c1, c2⟩
def muR (rk : Nat → Prop) (r : Nat) (nv : Value) : Nat → Prop := fun k => k = r ∨ nv.ownBlock = some k ∨ rk k
def rsL (q : Nat) (x : SS) (tv kv nv : Value) (dead : Bool) : List Value :=
 [.pointer (some ⟨q, 0, none⟩), .int .i64 ((x.sector / 4 : Nat) : Int), .int .u64 (x.epoch : Nat), tv, kv, nv, .bool dead]
structure RsAt (w : World) (rk : Nat → Prop) (B r q : Nat) (tv kv nv : Value) (x : SS) (lk ln : List RPg) : Prop where
 cells : w.rangeAt r 0 (rsL q x tv kv nv false)
 there : w.there r 0 7
 rB : B ≤ r
 k1 : ¬ rk r
 k2 : ∀ b, nv.ownBlock = some b → b ≠ r ∧ ¬ rk b
 tabs : RowAt w tv x.tabs.length 1 (fun j => .int .i64 (x.tabs.getD j 0 : Nat))
 tabsB : ∀ b, tv.ownBlock = some b → b < w.heap.size ∧ ¬ muR rk r nv b
 keptB : ∀ b, kv.ownBlock = some b → ¬ muR rk r nv b
 kept : PgsAt w B (muR rk r nv) kv lk
 now : PgsAt w B (muR rk r nv) nv ln
 comE : lk.map RPg.p = x.com
 nowE : ln.map RPg.p = x.now
 comR : Rise x.com
 nowR : Rise x.now
 wf : x.Wf
section
variable {w : World} {rk : Nat → Prop} {B r q : Nat} {tv kv nv : Value} {x : SS} {lk ln : List RPg}
theorem RsAt.lt (h : RsAt w rk B r q tv kv nv x lk ln) : r < w.heap.size := World.block_lt_of_cell? w _ (h.cells 0 _ rfl)
theorem RsAt.frame {w' : World} {rk' bs : Nat → Prop} (h : RsAt w rk B r q tv kv nv x lk ln) (ho : Only bs w w') (hb : ∀ k, k < w.heap.size → bs k → rk k) (hd : ∀ k, k < w.heap.size → rk' k → rk k) : RsAt w' rk' B r q tv kv nv x lk ln := by
 have hs := h.lt
 have ns : ¬ bs r := fun e => h.k1 (hb _ hs e)
 have ha : ∀ k, k < w.heap.size → muR rk' r nv k → muR rk r nv k := by
  rintro k hk (e | e | e)
  ·exact .inl e
  ·exact .inr (.inl e)
  ·exact .inr (.inr (hd k hk e))
 have hb' : ∀ k, k < w.heap.size → bs k → muR rk r nv k := fun k hk e => .inr (.inr (hb k hk e))
 exact { cells := ho.range h.cells ns, there := ho.there h.there ns, rB := h.rB, k1 := fun e => h.k1 (hd _ hs e)
         k2 := fun b e => ⟨(h.k2 b e).1, fun e' => (h.k2 b e).2 (hd _ (h.now.lt b e).2 e')⟩
         tabs := h.tabs.keep ho (fun b e e' => (h.tabsB b e).2 (hb' b (h.tabsB b e).1 e'))
         tabsB := fun b e => ⟨Nat.lt_of_lt_of_le (h.tabsB b e).1 ho.size, fun e' => (h.tabsB b e).2 (ha b (h.tabsB b e).1 e')⟩
         keptB := fun b e e' => h.keptB b e (ha b (h.kept.lt b e).2 e')
         kept := h.kept.frame ho (fun b e e' => h.keptB b e (hb' b (h.kept.lt b e).2 e')) hb' ha
         now := h.now.frame ho (fun b e e' => (h.k2 b e).2 (hb b (h.now.lt b e).2 e')) hb' ha
         comE := h.comE, nowE := h.nowE, comR := h.comR, nowR := h.nowR, wf := h.wf }
theorem RsAt.still {w' : World} (h : RsAt w rk B r q tv kv nv x lk ln) (ho : Only (fun _ => False) w w') : RsAt w' rk B r q tv kv nv x lk ln := h.frame ho (fun _ _ e => e.elim) (fun _ _ e => e)
theorem RsAt.c0 (h : RsAt w rk B r q tv kv nv x lk ln) : w.cell? ⟨r, 0, none⟩ = some (.pointer (some ⟨q, 0, none⟩)) := h.cells 0 _ rfl
theorem RsAt.c1 (h : RsAt w rk B r q tv kv nv x lk ln) : w.cell? ⟨r, 1, none⟩ = some (.int .i64 ((x.sector / 4 : Nat) : Int)) := h.cells 1 _ rfl
theorem RsAt.c2 (h : RsAt w rk B r q tv kv nv x lk ln) : w.cell? ⟨r, 2, none⟩ = some (.int .u64 (x.epoch : Nat)) := h.cells 2 _ rfl
theorem RsAt.c3 (h : RsAt w rk B r q tv kv nv x lk ln) : w.cell? ⟨r, 3, none⟩ = some tv := h.cells 3 _ rfl
theorem RsAt.c4 (h : RsAt w rk B r q tv kv nv x lk ln) : w.cell? ⟨r, 4, none⟩ = some kv := h.cells 4 _ rfl
theorem RsAt.c5 (h : RsAt w rk B r q tv kv nv x lk ln) : w.cell? ⟨r, 5, none⟩ = some nv := h.cells 5 _ rfl
theorem RsAt.c6 (h : RsAt w rk B r q tv kv nv x lk ln) : w.cell? ⟨r, 6, none⟩ = some (.bool false) := h.cells 6 _ rfl
theorem RsAt.fz (h : RsAt w rk B r q tv kv nv x lk ln) (j : Nat) (hj : j < 7) : w.frozen? ⟨r, j, none⟩ = false := by
 have := (h.there j hj).2
 simpa using this
theorem RsAt.nowLen (h : RsAt w rk B r q tv kv nv x lk ln) : ln.length = x.now.length := by rw [← h.nowE]; simp
theorem RsAt.comLen (h : RsAt w rk B r q tv kv nv x lk ln) : lk.length = x.com.length := by rw [← h.comE]; simp
end
theorem rbad_dead (r : Nat) (i : Int) (w : World) (h : w.cell? ⟨r, 6, none⟩ = some (.bool true)) :
  Calls Tryz.prog 52 #[.pointer (some ⟨r, 0, none⟩), .int .i64 i] w fun e w' => e = .returned (.int .i64 3) ∧ w' = w := by
 go_enter Tryz.func52, Tryz.ntmps52
 go_wp2
 go_ret
 exact ⟨rfl, rfl⟩
def badE (i : Int) : Int := if 0 ≤ i ∧ i < 728 then 0 else 4
theorem rbad_any (r : Nat) (i : Int) (w : World) (h : w.cell? ⟨r, 6, none⟩ = some (.bool false)) :
  Calls Tryz.prog 52 #[.pointer (some ⟨r, 0, none⟩), .int .i64 i] w fun e w' => e = .returned (.int .i64 (badE i)) ∧ w' = w := by
 by_cases h1 : i < 0
 ·rw [show badE i = 4 from if_neg (by omega)]
  go_enter Tryz.func52, Tryz.ntmps52
  go_wp2
  go_ret
  exact ⟨rfl, rfl⟩
 ·have h3 : decide (i < 0) = false := by simpa using h1
  by_cases h2 : 728 ≤ i
  ·rw [show badE i = 4 from if_neg (by omega)]
   go_enter Tryz.func52, Tryz.ntmps52
   go_wp2
   go_ret
   exact ⟨rfl, rfl⟩
  ·rw [show badE i = 0 from if_pos (by omega)]
   go_enter Tryz.func52, Tryz.ntmps52
   go_wp2
   go_ret
   exact ⟨rfl, rfl⟩
def fi : Pgs → Int → Nat
 | [], _ => 0
 | p :: r, i => if p.1 < i then fi r i + 1 else 0
def isAt (l : Pgs) (i : Int) : Bool := match l[fi l i]? with
 | some p => p.1 == i
 | none => false
theorem fi_le : ∀ (l : Pgs) (i : Int), fi l i ≤ l.length
 | [], _ => Nat.le_refl _
 | p :: r, i => by
   have := fi_le r i
   simp only [fi, List.length_cons]
   split <;> omega
theorem fi_lt : ∀ {l : Pgs} {i : Int} {k : Nat}, k < fi l i → ∃ h : k < l.length, (l[k]).1 < i
 | [], _, _, hk => by simp [fi] at hk
 | p :: r, i, k, hk => by
   simp only [fi] at hk
   split at hk
   ·rename_i hp
    cases k with
    | zero => exact ⟨by simp, hp⟩
    | succ k =>
      obtain ⟨h1, h2⟩ := fi_lt (l := r) (i := i) (k := k) (by omega)
      exact ⟨by simp; omega, h2⟩
   ·omega
theorem fi_end : ∀ {l : Pgs} {i : Int} (h : fi l i < l.length), ¬ (l[fi l i]).1 < i
 | [], _, h => by simp [fi] at h
 | p :: r, i, h => by
   by_cases hp : p.1 < i
   ·have e : fi (p :: r) i = fi r i + 1 := by simp [fi, hp]
    have h' : fi r i < r.length := by rw [e, List.length_cons] at h; omega
    have := fi_end h'
    simp only [e, List.getElem_cons_succ]
    exact this
   ·have e : fi (p :: r) i = 0 := by simp [fi, hp]
    simp only [e, List.getElem_cons_zero]
    exact hp
theorem fi_go {l : Pgs} {i : Int} {k : Nat} (hk : k ≤ fi l i) (h : k < l.length) (hlt : (l[k]).1 < i) : k < fi l i := by
 rcases Nat.lt_or_ge k (fi l i) with h1 | h1
 ·exact h1
 ·obtain rfl : k = fi l i := by omega
  exact absurd hlt (fi_end h)
theorem find_any {w : World} {rk : Nat → Prop} {B r q : Nat} {tv kv nv : Value} {x : SS} {lk ln : List RPg} (h : RsAt w rk B r q tv kv nv x lk ln) (i : Int) :
  Calls Tryz.prog 53 #[.pointer (some ⟨r, 0, none⟩), .int .i64 i] w fun e w' => e = .returned (.tuple #[.int .i64 (fi x.now i : Nat), .bool (isAt x.now i)]) ∧ Only (fun _ => False) w w' := by
 have hle := fi_le x.now i
 have hnl := h.nowLen
 have c5 := h.c5
 obtain ⟨a, c, hnv, hcc⟩ := h.now.form
 subst hnv
 obtain ⟨n, hn⟩ : ∃ n, n = ln.length := ⟨_, rfl⟩
 have HR : Hid (PgsAt w B (muR rk r (.slice a ln.length c)) (.slice a ln.length c) ln) := h.now
 have HE : Hid (ln.map RPg.p = x.now) := h.nowE
 have hn7 : n ≤ 9223372036854775807 := by
  have h1 := h.now.own
  rcases h1.2 with ⟨_, h0⟩ | ⟨g, cap, cur, hv, hb, hg, hc, hcm, _⟩
  ·omega
  ·simp only [maxLen] at hcm; omega
 have HN : Hid (n = ln.length ∧ n = x.now.length) := ⟨hn, by omega⟩
 rw [← hn] at c5
 have HG : Hid (∀ k, k < n → ∃ g u, a = some ⟨g, 0, none⟩ ∧ w.cell? ⟨g, k * 3, none⟩ = some (.int .i64 u) ∧ ∃ hk : k < x.now.length, u = (x.now[k]).1) := fun k hk => by
  have hk2 : k < ln.length := by rw [← HN.out.1]; exact hk
  obtain ⟨g, e, z0, _, _⟩ := HR.out.at k hk2
  refine ⟨g, _, e, z0, by rw [← HN.out.2]; exact hk, ?_⟩
  have := HE.out
  simp only [← this, List.getElem_map, RPg.p]
 clear h hnl hcc hn
 go_enter Tryz.func53, Tryz.ntmps53
 go_wp2_with fail
 go_loopw [6] (fun t wr => ∃ k : Nat, k ≤ fi x.now i ∧ t = .int .i64 k ∧ w = wr) (fun t _ => n - (intOf t).toNat)
 case atStart => exact ⟨0, Nat.zero_le _, rfl, rfl⟩
 case round =>
  obtain ⟨k, hk, rfl, rfl⟩ := hrel
  by_cases hlt : k < n
  ·obtain ⟨g, u, rfl, z0, hkx, hu⟩ := HG.out k hlt
   have i0 : (0 : Int) ≤ (k : Int) := Int.natCast_nonneg _
   have i1 : (k : Int) < (n : Int) := by omega
   have HU : Hid (∃ hkx : k < x.now.length, u = (x.now[k]).1) := ⟨hkx, hu⟩
   have HK : Hid (k ≤ fi x.now i) := hk
   clear hu hkx hk hle
   by_cases hui : u < i
   ·go_wp2
    go_roundw
    case rel =>
     obtain ⟨hkx, hu⟩ := HU.out
     exact ⟨k + 1, by have := fi_go HK.out hkx (by rw [← hu]; exact hui); omega, by go_num, trivial⟩
    case measure => simp [intOf]; omega
   ·have hd : decide (u < i) = false := by simpa using hui
    have HF : Hid (k = fi x.now i ∧ isAt x.now i = (u == i)) := by
     obtain ⟨hkx, hu⟩ := HU.out
     have e : k = fi x.now i := by
      rcases Nat.lt_or_ge k (fi x.now i) with h1 | h1
      ·obtain ⟨_, h2⟩ := fi_lt h1
       rw [← hu] at h2
       exact absurd h2 hui
      ·have := HK.out; omega
     refine ⟨e, ?_⟩
     unfold isAt
     rw [← e, List.getElem?_eq_getElem hkx, hu]
    have hd2 : decide ((k : Int) < (n : Int)) = true := by simpa using hlt
    go_wp2_with fail
    go_quiet (fail)
    go_wp2
    go_ret2
    obtain ⟨e1, e2⟩ := HF.out
    rw [e2, ← e1]
    exact ⟨rfl, (Only.refl _ _).drewN _⟩
  ·have hd2 : decide ((k : Int) < (n : Int)) = false := by simp; omega
   have HF : Hid (k = fi x.now i ∧ isAt x.now i = false) := by
    have e : k = fi x.now i := by have := HN.out.2; omega
    refine ⟨e, ?_⟩
    unfold isAt
    rw [← e, List.getElem?_eq_none (by have := HN.out.2; omega)]
   clear hk hle
   go_wp2_with fail
   go_quiet (fail)
   go_wp2
   go_ret2
   obtain ⟨e1, e2⟩ := HF.out
   rw [e2, ← e1]
   exact ⟨rfl, (Only.refl _ _).drewN _⟩
theorem kept_set {w : World} {K n k i : Nat} {s : Nat → Nat → Int} {f : Nat → Int} (hk : k < n) (hi : i < 32) (hr : w.rangeAt K 0 (allL n (upd s k (mix i f (s k))))) (ht : w.there K 0 (n * 32)) :
  (w.setCell ⟨K, k * 32 + i, none⟩ (.int .u8 (f i))).rangeAt K 0 (allL n (upd s k (mix (i + 1) f (s k)))) ∧ (w.setCell ⟨K, k * 32 + i, none⟩ (.int .u8 (f i))).there K 0 (n * 32) := by
 have hs : w.setCell ⟨K, k * 32 + i, none⟩ (.int .u8 (f i)) = w.setCells K (k * 32 + i) [.int .u8 (f i)] := rfl
 refine ⟨fun q v hv => ?_, by rw [hs]; exact World.there_setCells ht _ _ _⟩
 obtain ⟨hq, hv⟩ := List.getElem?_eq_some_iff.1 hv
 simp only [allL, List.length_map, List.length_range] at hq
 simp only [allL, List.getElem_map, List.getElem_range] at hv
 subst hv
 rw [hs, Nat.zero_add]
 by_cases e : q = k * 32 + i
 ·subst e
  have e1 : (k * 32 + i) / 32 = k := by omega
  have e2 : (k * 32 + i) % 32 = i := by omega
  have := World.cell?_setCells_in K [.int .u8 (f i)] (k * 32 + i) w (fun j hj => by simp at hj; subst hj; have := (ht (k * 32 + i) (by omega)).1; simpa using this) 0 (by simp)
  rw [e1, e2]
  simpa [upd, mix] using this
 ·rw [World.cell?_setCells_out K _ _ _ _ (fun _ _ => by simp; omega)]
  have := hr q (.int .u8 (upd s k (mix i f (s k)) (q / 32) (q % 32))) (by simp [allL, hq])
  rw [Nat.zero_add] at this
  rw [this]
  congr 2
  simp only [upd]
  by_cases ek : q / 32 = k
  ·simp only [ek, if_true, mix]
   have : q % 32 ≠ i := fun e' => e (by omega)
   by_cases h1 : q % 32 < i
   ·rw [if_pos h1, if_pos (by omega)]
   ·rw [if_neg h1, if_neg (by omega)]
  ·simp only [ek, if_false]
theorem upd_self (s : Nat → Nat → Int) (k : Nat) (f : Nat → Int) : upd s k (mix 0 f (s k)) = s := by
 funext i
 by_cases e : i = k
 ·subst e; funext j; simp [upd, mix]
 ·simp [upd, e]
theorem done_any (r K n c g cg k m : Nat) (s : Nat → Nat → Int) (f : Nat → Int) (w : World) (h1 : w.cell? ⟨r, 1, none⟩ = some (.slice (some ⟨K, 0, none⟩) (n * 32) c)) (hk : k < n) (hn : n ≤ 8192) (hm : m ≤ 32)
  (hr : w.rangeAt K 0 (allL n s)) (ht : w.there K 0 (n * 32)) (hg : w.rangeAt g 0 (secL f)) (hrK : r ≠ K) (hgK : g ≠ K) :
  Calls Tryz.prog 69 #[.pointer (some ⟨r, 0, none⟩), .agg #[.int .i64 k, .slice (some ⟨g, 0, none⟩) 32 cg], .int .i64 m] w fun e w' => e = .returned (.tuple #[]) ∧ w'.rangeAt K 0 (allL n (upd s k (mix m f (s k)))) ∧ w'.there K 0 (n * 32) ∧ Only (fun b => b = K) w w' := by
 have hKl : K < w.heap.size := range_lt (by omega) hr
 obtain ⟨wB, hB⟩ : ∃ x, x = w.alloc (.cells #[.int .i64 k, .slice (some ⟨g, 0, none⟩) 32 cg] 69) := ⟨_, rfl⟩
 obtain ⟨b, hb⟩ : ∃ x, x = w.heap.size := ⟨_, rfl⟩
 have bB : wB.heap[b]? = some (.cells #[.int .i64 k, .slice (some ⟨g, 0, none⟩) 32 cg] 69 (0, 0)) := by rw [hB, hb]; exact heap_alloc_new w _
 have oB : Only (fun b => b = K) w wB := by rw [hB]; exact (Only.refl _ w).alloc _
 have oB' : Only (fun _ => False) w wB := by rw [hB]; exact (Only.refl _ w).alloc _
 have b0 : wB.cell? ⟨b, 0, none⟩ = some (.int .i64 k) := by rw [cell_of_row _ _ _ _ _ _ bB]; rfl
 have b1 : wB.cell? ⟨b, 1, none⟩ = some (.slice (some ⟨g, 0, none⟩) 32 cg) := by rw [cell_of_row _ _ _ _ _ _ bB]; rfl
 have hbK : b ≠ K := by omega
 have HB : Hid (wB = w.alloc (.cells #[.int .i64 k, .slice (some ⟨g, 0, none⟩) 32 cg] 69)) := hB
 have Hb : Hid (b = w.heap.size) := hb
 have OB : Hid (Only (fun b => b = K) w wB) := oB
 have HR : Hid (wB.rangeAt K 0 (allL n s)) := oB'.range hr (fun e => e)
 have HT : Hid (wB.there K 0 (n * 32)) := oB'.there ht (fun e => e)
 have HG : Hid (wB.rangeAt g 0 (secL f)) := oB'.range hg (fun e => e)
 have h1B := oB'.cell h1 (fun e => e)
 clear hB hb bB oB oB' hr ht hg
 go_enter Tryz.func69, Tryz.ntmps69
 go_wp2_with fail
 rw [← HB.out, ← Hb.out]
 go_loopw [6] (fun t wr => ∃ i : Nat, i ≤ m ∧ t = .int .i64 i ∧ wr.rangeAt K 0 (allL n (upd s k (mix i f (s k)))) ∧ wr.there K 0 (n * 32) ∧ Only (fun b => b = K) wB wr) (fun t _ => m - (intOf t).toNat)
 case atStart => exact ⟨0, Nat.zero_le _, rfl, by rw [upd_self]; exact HR.out, HT.out, Only.refl _ _⟩
 case round =>
  obtain ⟨i, hi, rfl, hri, hti, hoi⟩ := hrel
  by_cases hlt : i < m
  ·have i0 : (0 : Int) ≤ (i : Int) := Int.natCast_nonneg _
   have i1 : (i : Int) < (m : Int) := by omega
   have i2 : (i : Int) < 32 := by omega
   have k0 : (0 : Int) ≤ (k : Int) := Int.natCast_nonneg _
   have w1 : IntKind.i64.wrap ((k : Int) * 32) = (k : Int) * 32 := by rw [IntKind.wrap_i64]; omega
   have w2 : IntKind.i64.wrap ((k : Int) * 32 + (i : Int)) = (k : Int) * 32 + (i : Int) := by rw [IntKind.wrap_i64]; omega
   have j0 : (0 : Int) ≤ (k : Int) * 32 + (i : Int) := by omega
   have j1 : (k : Int) * 32 + (i : Int) < ((n * 32 : Nat) : Int) := by omega
   have y1 := hoi.cell h1B hrK
   have z0 := hoi.cell b0 hbK
   have z1 := hoi.cell b1 hbK
   have y2 := hoi.cell (HG.out i _ (secL_get f i (by omega))) hgK
   rw [Nat.zero_add] at y2
   have j2 : (k : Int) * 32 + (i : Int) < (n : Int) * 32 := by omega
   have j3 : k * 32 + i < n * 32 := by omega
   have tn : ((k : Int) * 32 + (i : Int)).toNat = k * 32 + i := by omega
   obtain ⟨ov, q0⟩ := Option.isSome_iff_exists.1 (hti (k * 32 + i) (by omega)).1
   have q1 := (hti (k * 32 + i) (by omega)).2
   rw [Nat.zero_add] at q0 q1
   have HN : Hid _ := kept_set hk (by omega) hri hti
   have HOI : Hid (Only (fun b => b = K) wB (wr.setCell ⟨K, k * 32 + i, none⟩ (.int .u8 (f i))).drew) := (hoi.setCell ⟨K, k * 32 + i, none⟩ (.int .u8 (f i)) (fun _ => rfl)).drew
   clear hri hti hoi
   go_wp2_with fail
   go_region_held3 (fun w' => w'.cell? ⟨r, 1, none⟩ = some (.slice (some ⟨K, 0, none⟩) (n * 32) c) ∧ w'.cell? ⟨b, 0, none⟩ = some (.int .i64 k) ∧ w'.cell? ⟨b, 1, none⟩ = some (.slice (some ⟨g, 0, none⟩) 32 cg) ∧ w'.cell? ⟨g, i, none⟩ = some (.int .u8 (f i))) (first | (refine ⟨(World.cell?_setCell_other _ _ _ _ (fun e => hrK (by injection e with e; exact e.symm))).trans y1, (World.cell?_setCell_other _ _ _ _ (fun e => hbK (by injection e with e; exact e.symm))).trans z0, (World.cell?_setCell_other _ _ _ _ (fun e => hbK (by injection e with e; exact e.symm))).trans z1, (World.cell?_setCell_other _ _ _ _ (fun e => hgK (by injection e with e; exact e.symm))).trans y2⟩) | go_keep) (fail)
   go_wp2
   go_roundw
   case rel => exact ⟨i + 1, by omega, by go_num, HN.out.1, HN.out.2, HOI.out⟩
   case measure => simp [intOf]; omega
  ·obtain rfl : i = m := by omega
   go_wp2
   go_end0
   exact ⟨rfl, hri, hti, OB.out.trans hoi (fun _ _ e => e)⟩
theorem ref_end {w w1 w' : World} {B r K : Nat} {pv : Value} {d : DS} {rs : List RW} (h : RefAt w B r K pv d rs) (s : Nat → Nat → Int) (l : Int) (hl1 : -1 ≤ l) (hl2 : l ≤ 9223372036854775807) (o : Only (fun b => b = K) w w1) (hk : w1.rangeAt K 0 (allL d.n s)) (ht : w1.there K 0 (d.n * 32))
  (o2 : Only (fun b => b = r) w1 w') (e0 : ∀ v, w1.cell? ⟨r, 0, none⟩ = some v → w'.cell? ⟨r, 0, none⟩ = some v) (e1 : ∀ v, w1.cell? ⟨r, 1, none⟩ = some v → w'.cell? ⟨r, 1, none⟩ = some v) (e2 : w'.cell? ⟨r, 2, none⟩ = some (.slice none 0 0)) (e3 : w'.cell? ⟨r, 3, none⟩ = some (.int .i64 l)) (ff : ∀ a, w'.frozen? a = w1.frozen? a) :
  RefAt w' B r K (.slice none 0 0) ⟨d.n, s, [], l⟩ [] ∧ Only (fun b => b = r ∨ b = K) w w' := by
 have hKr : K ≠ r := Ne.symm h.rK
 refine ⟨{ rB := h.rB, KB := h.KB, rK := h.rK, c0 := e0 _ (o.cell h.c0 h.rK), c1 := e1 _ (o.cell h.c1 h.rK), c2 := e2, c3 := e3,
           f2 := by rw [ff, o.frozen (World.block_lt_of_cell? w _ h.c2) h.rK]; exact h.f2
           f3 := by rw [ff, o.frozen (World.block_lt_of_cell? w _ h.c3) h.rK]; exact h.f3
           kept := o2.range hk hKr, kth := o2.there ht hKr, own := World.ownsRow_nil w' _ 69 2, hr := by simp [Value.ownBlock], hK := by simp [Value.ownBlock], tie := rfl,
           at_ := fun x hx => by cases hx
           bd := fun x hx => by cases hx
           n1 := h.n1, n2 := h.n2, l1 := hl1, l2 := hl2 }, (o.mono (fun _ _ e => .inr e)).trans o2 (fun _ _ e => .inl e)⟩
theorem ref_life {w : World} {B r K : Nat} {pv : Value} {d : DS} {rs : List RW} (h : RefAt w B r K pv d rs) (l : Int) (hl1 : -1 ≤ l) (hl2 : l ≤ 9223372036854775807) :
  RefAt (w.setCell ⟨r, 3, none⟩ (.int .i64 l)) B r K pv { d with life := l } rs ∧ Only (fun b => b = r) w (w.setCell ⟨r, 3, none⟩ (.int .i64 l)) := by
 have oP : Only (fun b => b = r) w (w.setCell ⟨r, 3, none⟩ (.int .i64 l)) := (Only.refl (fun b => b = r) w).setCell _ _ (fun _ => rfl)
 have hKr : K ≠ r := Ne.symm h.rK
 refine ⟨{ rB := h.rB, KB := h.KB, rK := h.rK
           c0 := by rw [World.cell?_setCell_other _ _ _ _ (by simp)]; exact h.c0
           c1 := by rw [World.cell?_setCell_other _ _ _ _ (by simp)]; exact h.c1
           c2 := by rw [World.cell?_setCell_other _ _ _ _ (by simp)]; exact h.c2
           c3 := World.cell?_setCell_same _ _ _ h.c3
           f2 := by simpa using h.f2
           f3 := by simpa using h.f3
           kept := oP.range h.kept hKr, kth := oP.there h.kth hKr, own := oP.owns h.own (fun k hk e => h.hr (by rw [hk, e])), hr := h.hr, hK := h.hK, tie := h.tie,
           at_ := fun x hx => by obtain ⟨h1, h2, h3, h4⟩ := h.at_ x hx; exact ⟨h1, oP.range h2 h3, h3, h4⟩
           bd := h.bd, n1 := h.n1, n2 := h.n2, l1 := hl1, l2 := hl2 }, oP⟩
theorem rlive_bad (r : Nat) (n : Int) (w : World) (hn : n < -1) :
  Calls Tryz.prog 39 #[.pointer (some ⟨r, 0, none⟩), .int .i64 n] w fun e w' => e = .returned (.int .i64 2) ∧ w' = w := by
 go_enter Tryz.func39, Tryz.ntmps39
 go_wp2
 go_ret
 exact ⟨rfl, rfl⟩
theorem rlive_core (r : Nat) (n : Int) (v : Value) (w : World) (hn : ¬ n < -1) (h3 : w.cell? ⟨r, 3, none⟩ = some v) (hf : w.frozen? ⟨r, 3, none⟩ = false) :
  Calls Tryz.prog 39 #[.pointer (some ⟨r, 0, none⟩), .int .i64 n] w fun e w' => e = .returned (.int .i64 0) ∧ w' = w.setCell ⟨r, 3, none⟩ (.int .i64 n) := by
 go_enter Tryz.func39, Tryz.ntmps39
 go_wp2
 go_ret
 exact ⟨rfl, rfl⟩
theorem rlive_any {w : World} {B r K : Nat} {pv : Value} {d : DS} {rs : List RW} (h : RefAt w B r K pv d rs) (n : Int) (hl1 : -1 ≤ n) (hl2 : n ≤ 9223372036854775807) :
  Calls Tryz.prog 39 #[.pointer (some ⟨r, 0, none⟩), .int .i64 n] w fun e w' => e = .returned (.int .i64 0) ∧ RefAt w' B r K pv { d with life := n } rs ∧ Only (fun b => b = r) w w' := by
 refine (rlive_core r n _ w (by omega) h.c3 h.f3).mono ?_
 rintro e w' ⟨rfl, rfl⟩
 exact ⟨rfl, ref_life h n hl1 hl2⟩
theorem allL_mix (n : Nat) (s : Nat → Nat → Int) (k : Nat) (f g : Nat → Int) : allL n (upd s k (mix 32 f g)) = allL n (upd s k f) := by
 refine allL_congr n _ _ (fun i _ j hj => ?_)
 simp only [upd]
 split
 ·simp [mix, hj]
 ·rfl
theorem rbarrier_dead (r : Nat) (w : World) (h3 : w.cell? ⟨r, 3, none⟩ = some (.int .i64 0)) :
  Calls Tryz.prog 72 #[.pointer (some ⟨r, 0, none⟩)] w fun e w' => e = .returned (.int .i64 3) ∧ w' = w := by
 go_enter Tryz.func72, Tryz.ntmps72
 go_wp2
 go_ret
 exact ⟨rfl, rfl⟩
theorem rbarrier_any {w : World} {B r K : Nat} {pv : Value} {d : DS} {rs : List RW} (h : RefAt w B r K pv d rs) (hg : Good d) (hl : d.life ≠ 0) (hlen : d.pend.length ≤ 140737488351232) :
  Calls Tryz.prog 72 #[.pointer (some ⟨r, 0, none⟩)] w fun e w' => e = .returned (.int .i64 0) ∧ RefAt w' B r K (.slice none 0 0) { d with pend := [], life := aged d.life } [] ∧ Only (fun b => b = r ∨ b = K) w w' := by
 obtain ⟨a, c, hpv⟩ := h.form
 subst hpv
 have HR : Hid (RefAt w B r K (.slice a rs.length c) d rs) := h
 have HG : Hid (Good d) := hg
 have hl1 := h.l1
 have hl2 := h.l2
 have c2 := h.c2
 have c3 := h.c3
 have f2 := h.f2
 have f3 := h.f3
 have hrl := h.len
 have hlz : (d.life == 0) = false := by simpa using hl
 obtain ⟨m, hm⟩ : ∃ m, m = rs.length := ⟨_, rfl⟩
 have hm2 : m ≤ 140737488351232 := by omega
 have HM : Hid (m = rs.length) := hm
 rw [← hm] at c2
 have hrK := h.rK
 clear h hg
 have fin : Hid (∀ w1, Only (fun b => b = K) w w1 → w1.rangeAt K 0 (allL d.n (doAll (d.pend.take m) (undoW d.pend d.sec))) → w1.rangeAt K 0 (allL d.n d.sec)) := fun w1 _ hk => by
  have e : d.pend.take m = d.pend := List.take_of_length_le (by rw [HM.out]; omega)
  rw [e, HG.out] at hk
  exact hk
 go_enter Tryz.func72, Tryz.ntmps72
 go_wp2_with fail
 go_loopw [3] (fun t wr => ∃ i : Nat, i ≤ m ∧ t = .int .i64 i ∧ wr.rangeAt K 0 (allL d.n (doAll (d.pend.take i) (undoW d.pend d.sec))) ∧ wr.there K 0 (d.n * 32) ∧ Only (fun b => b = K) w wr) (fun t _ => m - (intOf t).toNat)
 case atStart => exact ⟨0, Nat.zero_le _, rfl, HR.out.kept, HR.out.kth, Only.refl _ _⟩
 case round =>
  obtain ⟨i, hi, rfl, hri, hti, hoi⟩ := hrel
  have y2 := hoi.cell c2 hrK
  have y3 := hoi.cell c3 hrK
  by_cases hlt : i < m
  ·have i0 : (0 : Int) ≤ (i : Int) := Int.natCast_nonneg _
   have i1 : (i : Int) < (m : Int) := by omega
   have hirs : i < rs.length := by omega
   obtain ⟨g, hga, x0, x1, hgr, hgK⟩ := HR.out.get i hirs
   subst hga
   have z0 := hoi.cell x0 hgK
   have z1 := hoi.cell x1 hgK
   obtain ⟨_, hxr, hxg, hxK, _⟩ := HR.out.at_ _ (List.getElem_mem hirs)
   have hxx : (rs[i]).x = d.pend[i]'(by omega) := by
    have := HR.out.tie
    simp only [← this, List.getElem_map]
   have HD := done_any r K d.n _ (rs[i]).g (rs[i]).c (rs[i]).x.at_ 32 _ (rs[i]).x.aft wr (hoi.cell HR.out.c1 hrK) (HR.out.bd _ (by rw [hxx]; exact List.getElem_mem _)) HR.out.n2 (Nat.le_refl _) hri hti (hoi.range hxr hxK) hrK hxK
   have HD' : Hid (Calls Tryz.prog 69 #[.pointer (some ⟨r, 0, none⟩), .agg #[.int .i64 (rs[i]).x.at_, .slice (some ⟨(rs[i]).g, 0, none⟩) 32 (rs[i]).c], .int .i64 32] wr fun e w' => e = .returned (.tuple #[]) ∧ Hid (w'.rangeAt K 0 (allL d.n (doAll (d.pend.take (i + 1)) (undoW d.pend d.sec))) ∧ w'.there K 0 (d.n * 32) ∧ Only (fun b => b = K) w w')) := by
    refine HD.mono ?_
    rintro e w' ⟨rfl, k1, k2, k3⟩
    rw [allL_mix, hxx] at k1
    rw [doAll_take _ _ i (by omega)]
    exact ⟨rfl, k1, k2, hoi.trans k3 (fun _ _ e => e)⟩
   clear HD hri hti hoi hxr hxx hxg hxK x0 x1
   obtain ⟨k, hk⟩ : ∃ k, k = (rs[i]).x.at_ := ⟨_, rfl⟩
   obtain ⟨gg, hgg⟩ : ∃ k, k = (rs[i]).g := ⟨_, rfl⟩
   obtain ⟨gc, hgc⟩ : ∃ k, k = (rs[i]).c := ⟨_, rfl⟩
   rw [← hk, ← hgg, ← hgc] at HD'
   rw [← hk] at z0
   rw [← hgg, ← hgc] at z1
   clear hk hgg hgc
   go_wp2_with fail
   refine HD'.out.mono ?_
   rintro e w2 ⟨rfl, HE⟩
   clear HD' y2 y3 z0 z1
   go_wp2
   go_roundw
   case rel => exact ⟨i + 1, by omega, by go_num, HE.out.1, HE.out.2.1, HE.out.2.2⟩
   case measure => simp [intOf]; omega
  ·obtain rfl : i = m := by omega
   have yf2 : wr.frozen? ⟨r, 2, none⟩ = false := (hoi.frozen (World.block_lt_of_cell? w _ c2) hrK).trans f2
   have yf3 : wr.frozen? ⟨r, 3, none⟩ = false := (hoi.frozen (World.block_lt_of_cell? w _ c3) hrK).trans f3
   have HRI : Hid (wr.rangeAt K 0 (allL d.n d.sec)) := fin.out _ hoi hri
   have HTI : Hid (wr.there K 0 (d.n * 32)) := hti
   have HOI : Hid (Only (fun b => b = K) w wr) := hoi
   clear hri hti hoi fin
   by_cases hl0 : 0 < d.life
   ·have hag : aged d.life = d.life - 1 := by simp [aged]; omega
    go_wp2
    go_ret
    refine ⟨rfl, ?_⟩
    rw [hag]
    refine ref_end HR.out d.sec (d.life - 1) (by omega) (by omega) HOI.out HRI.out HTI.out (((Only.refl (fun b => b = r) wr).setCell _ _ (fun _ => rfl)).setCell _ _ (fun _ => rfl)) ?_ ?_ ?_ ?_ ?_
    ·intro v hv; rw [World.cell?_setCell_other _ _ _ _ (by simp), World.cell?_setCell_other _ _ _ _ (by simp)]; exact hv
    ·intro v hv; rw [World.cell?_setCell_other _ _ _ _ (by simp), World.cell?_setCell_other _ _ _ _ (by simp)]; exact hv
    ·rw [World.cell?_setCell_other _ _ _ _ (by simp)]; exact World.cell?_setCell_same _ _ _ y2
    ·exact World.cell?_setCell_same _ _ _ (by rw [World.cell?_setCell_other _ _ _ _ (by simp)]; exact y3)
    ·intro a; simp
   ·have hl9 : d.life = -1 := by omega
    go_wp2
    go_ret
    refine ⟨rfl, ?_⟩
    rw [show aged (-1) = -1 from rfl]
    refine ref_end HR.out d.sec (-1) (by omega) (by omega) HOI.out HRI.out HTI.out ((Only.refl (fun b => b = r) wr).setCell _ _ (fun _ => rfl)) ?_ ?_ ?_ ?_ ?_
    ·intro v hv; rw [World.cell?_setCell_other _ _ _ _ (by simp)]; exact hv
    ·intro v hv; rw [World.cell?_setCell_other _ _ _ _ (by simp)]; exact hv
    ·exact World.cell?_setCell_same _ _ _ y2
    ·rw [World.cell?_setCell_other _ _ _ _ (by simp), ← hl9]; exact y3
    ·intro a; simp
theorem crashTo_stop (kp : Nat → Bool) (torn : Int) (cut : Nat) (ws : List Wr) (s : Nat → Nat → Int) (i : Nat) (h : ∀ j, i ≤ j → kp j = false) : ∀ n, crashTo kp torn cut ws s (i + n) = crashTo kp torn cut ws s i
 | 0 => rfl
 | n + 1 => by rw [← Nat.add_assoc, crashTo_no _ _ _ _ _ _ (h _ (by omega))]; exact crashTo_stop kp torn cut ws s i h n
theorem rcrash_bad (r : Nat) (kv : Value) (torn cut : Int) (w : World) (h : cut < 0 ∨ 32 < cut) :
  Calls Tryz.prog 37 #[.pointer (some ⟨r, 0, none⟩), kv, .int .i64 torn, .int .i64 cut] w fun e w' => e = .returned (.int .i64 2) ∧ w' = w := by
 rcases h with h | h
 ·go_enter Tryz.func37, Tryz.ntmps37
  go_wp2
  go_ret
  exact ⟨rfl, rfl⟩
 ·have h' : ¬ cut < 0 := by omega
  go_enter Tryz.func37, Tryz.ntmps37
  go_wp2
  go_ret
  exact ⟨rfl, rfl⟩
theorem rcrash_any {w : World} {B r K : Nat} {pv : Value} {d : DS} {rs : List RW} (h : RefAt w B r K pv d rs) (hlen : d.pend.length ≤ 140737488351232) (kv : Value) (kl : Nat) (kf : Nat → Bool) (torn : Int) (cut : Nat) (hcut : (cut : Int) ≤ 32) (hkv : DFlags w kv kl kf K) :
  Calls Tryz.prog 37 #[.pointer (some ⟨r, 0, none⟩), kv, .int .i64 torn, .int .i64 cut] w fun e w' => e = .returned (.int .i64 0) ∧ RefAt w' B r K (.slice none 0 0) ⟨d.n, crashTo (fun i => decide (i < kl) && kf i) torn cut d.pend (undoW d.pend d.sec) d.pend.length, [], -1⟩ [] ∧ Only (fun b => b = r ∨ b = K) w w' := by
 obtain ⟨a, c, hpv⟩ := h.form
 subst hpv
 obtain ⟨ka, kc, rfl, hkm, hka⟩ := hkv
 have HR : Hid (RefAt w B r K (.slice a rs.length c) d rs) := h
 have HKA : Hid (∀ i, i < kl → ∃ kb ko, ka = some ⟨kb, ko, none⟩ ∧ kb ≠ K ∧ w.cell? ⟨kb, ko + i, none⟩ = some (.bool (kf i))) := hka
 have c2 := h.c2
 have c3 := h.c3
 have f2 := h.f2
 have f3 := h.f3
 have hrl := h.len
 obtain ⟨m, hm⟩ : ∃ m, m = rs.length := ⟨_, rfl⟩
 have hm2 : m ≤ 140737488351232 := by omega
 have hmp : m = d.pend.length := by omega
 have hkl : kl ≤ 9223372036854775807 := hkm
 have HM : Hid (m = rs.length) := hm
 rw [← hm] at c2
 have hrK := h.rK
 obtain ⟨kp, hkp⟩ : ∃ kp : Nat → Bool, kp = fun i => decide (i < kl) && kf i := ⟨_, rfl⟩
 have HKP : Hid (kp = fun i => decide (i < kl) && kf i) := hkp
 rw [← hkp]
 have hc1 : ¬ (cut : Int) < 0 := by omega
 have hc2 : ¬ (32 : Int) < (cut : Int) := by omega
 have FIN : Hid (∀ (wr : World) (i : Nat), Only (fun b => b = K) w wr → wr.rangeAt K 0 (allL d.n (crashTo kp torn cut d.pend (undoW d.pend d.sec) i)) → wr.there K 0 (d.n * 32) → i ≤ m → (i < m → kl ≤ i) →
   RefAt ((wr.setCell ⟨r, 2, none⟩ (.slice none 0 0)).setCell ⟨r, 3, none⟩ (.int .i64 (-1))) B r K (.slice none 0 0) ⟨d.n, crashTo kp torn cut d.pend (undoW d.pend d.sec) d.pend.length, [], -1⟩ [] ∧ Only (fun b => b = r ∨ b = K) w ((wr.setCell ⟨r, 2, none⟩ (.slice none 0 0)).setCell ⟨r, 3, none⟩ (.int .i64 (-1)))) := by
  intro wr i ho hr ht hi hs
  have e : crashTo kp torn cut d.pend (undoW d.pend d.sec) d.pend.length = crashTo kp torn cut d.pend (undoW d.pend d.sec) i := by
   by_cases hlt : i < m
   ·have hkl := hs hlt
    have := crashTo_stop kp torn cut d.pend (undoW d.pend d.sec) i (fun j hj => by rw [hkp]; simp; omega) (d.pend.length - i)
    rw [show i + (d.pend.length - i) = d.pend.length by omega] at this
    exact this
   ·rw [show d.pend.length = i by omega]
  rw [e]
  have y2 := ho.cell c2 hrK
  have y3 := ho.cell c3 hrK
  refine ref_end h _ (-1) (by omega) (by omega) ho hr ht (((Only.refl (fun b => b = r) wr).setCell _ _ (fun _ => rfl)).setCell _ _ (fun _ => rfl)) ?_ ?_ ?_ ?_ ?_
  ·intro v hv; rw [World.cell?_setCell_other _ _ _ _ (by simp), World.cell?_setCell_other _ _ _ _ (by simp)]; exact hv
  ·intro v hv; rw [World.cell?_setCell_other _ _ _ _ (by simp), World.cell?_setCell_other _ _ _ _ (by simp)]; exact hv
  ·rw [World.cell?_setCell_other _ _ _ _ (by simp)]; exact World.cell?_setCell_same _ _ _ y2
  ·exact World.cell?_setCell_same _ _ _ (by rw [World.cell?_setCell_other _ _ _ _ (by simp)]; exact y3)
  ·intro a; simp
 clear h hkp hka
 go_enter Tryz.func37, Tryz.ntmps37
 go_wp2_with fail
 go_loopw [9] (fun t wr => ∃ i : Nat, i ≤ m ∧ t = .int .i64 i ∧ wr.rangeAt K 0 (allL d.n (crashTo kp torn cut d.pend (undoW d.pend d.sec) i)) ∧ wr.there K 0 (d.n * 32) ∧ Only (fun b => b = K) w wr) (fun t _ => m - (intOf t).toNat)
 case atStart => exact ⟨0, Nat.zero_le _, rfl, HR.out.kept, HR.out.kth, Only.refl _ _⟩
 case round =>
  obtain ⟨i, hi, rfl, hri, hti, hoi⟩ := hrel
  have y2 := hoi.cell c2 hrK
  have y3 := hoi.cell c3 hrK
  have yf2 : wr.frozen? ⟨r, 2, none⟩ = false := (hoi.frozen (World.block_lt_of_cell? w _ c2) hrK).trans f2
  have yf3 : wr.frozen? ⟨r, 3, none⟩ = false := (hoi.frozen (World.block_lt_of_cell? w _ c3) hrK).trans f3
  by_cases hlt : i < m
  ·have i0 : (0 : Int) ≤ (i : Int) := Int.natCast_nonneg _
   have i1 : (i : Int) < (m : Int) := by omega
   by_cases hk : i < kl
   ·have hk2 : (i : Int) < (kl : Int) := by omega
    obtain ⟨kb, ko, hkae, hkK, hkc⟩ := HKA.out i hk
    subst hkae
    have hkx := hoi.cell hkc hkK
    have hirs : i < rs.length := by omega
    cases hkf : kf i with
    | false =>
      rw [hkf] at hkx
      have HN : Hid (wr.rangeAt K 0 (allL d.n (crashTo kp torn cut d.pend (undoW d.pend d.sec) (i + 1)))) := by
       rw [crashTo_no _ _ _ _ _ _ (by rw [HKP.out]; simp [hkf])]; exact hri
      have HTI : Hid (wr.there K 0 (d.n * 32)) := hti
      have HOI : Hid (Only (fun b => b = K) w wr) := hoi
      clear hri hti hoi hkf hkc
      go_wp2
      go_roundw
      case rel => exact ⟨i + 1, by omega, by go_num, HN.out, HTI.out, HOI.out⟩
      case measure => simp [intOf]; omega
    | true =>
      rw [hkf] at hkx
      obtain ⟨g, hga, x0, x1, hgr, hgK⟩ := HR.out.get i hirs
      subst hga
      have z0 := hoi.cell x0 hgK
      have z1 := hoi.cell x1 hgK
      obtain ⟨_, hxr, hxg, hxK, _⟩ := HR.out.at_ _ (List.getElem_mem hirs)
      have hxx : (rs[i]).x = d.pend[i]'(by omega) := by
       have := HR.out.tie
       simp only [← this, List.getElem_map]
      have HDD : Hid (∀ q : Nat, q ≤ 32 → (q = if (i : Int) = torn then cut else 32) → Calls Tryz.prog 69 #[.pointer (some ⟨r, 0, none⟩), .agg #[.int .i64 (rs[i]).x.at_, .slice (some ⟨(rs[i]).g, 0, none⟩) 32 (rs[i]).c], .int .i64 q] wr fun e w' => e = .returned (.tuple #[]) ∧ Hid (w'.rangeAt K 0 (allL d.n (crashTo kp torn cut d.pend (undoW d.pend d.sec) (i + 1))) ∧ w'.there K 0 (d.n * 32) ∧ Only (fun b => b = K) w w')) := by
       intro q hq hqe
       refine (done_any r K d.n _ (rs[i]).g (rs[i]).c (rs[i]).x.at_ q _ (rs[i]).x.aft wr (hoi.cell HR.out.c1 hrK) (HR.out.bd _ (by rw [hxx]; exact List.getElem_mem _)) HR.out.n2 hq hri hti (hoi.range hxr hxK) hrK hxK).mono ?_
       rintro e w' ⟨rfl, k1, k2, k3⟩
       refine ⟨rfl, ?_, k2, hoi.trans k3 (fun _ _ e => e)⟩
       rw [crashTo_yes kp torn cut d.pend _ i (rs[i]).x (by rw [hxx]; exact List.getElem?_eq_getElem (by omega)) (by rw [HKP.out]; simp [hkf, hk]), ← hqe]
       exact k1
      clear hri hti hoi hxr hxx hxg hxK x0 x1 hkf hkc
      obtain ⟨k, hk⟩ : ∃ k, k = (rs[i]).x.at_ := ⟨_, rfl⟩
      obtain ⟨gg, hgg⟩ : ∃ k, k = (rs[i]).g := ⟨_, rfl⟩
      obtain ⟨gc, hgc⟩ : ∃ k, k = (rs[i]).c := ⟨_, rfl⟩
      rw [← hk, ← hgg, ← hgc] at HDD
      rw [← hk] at z0
      rw [← hgg, ← hgc] at z1
      clear hk hgg hgc
      by_cases htn : (i : Int) = torn
      ·have HD' : Hid _ := HDD.out cut (by omega) (by rw [if_pos htn])
       clear HDD
       subst htn
       go_wp2_with fail
       refine Calls.mono HD'.out ?_
       rintro e w2 ⟨rfl, HE⟩
       clear HD' y2 y3 z0 z1 yf2 yf3 hkx
       go_wp2
       go_roundw
       case rel => exact ⟨i + 1, by omega, by go_num, HE.out.1, HE.out.2.1, HE.out.2.2⟩
       case measure => simp [intOf]; omega
      ·have HD' : Hid _ := HDD.out 32 (by omega) (by rw [if_neg htn])
       clear HDD
       have hkx' := hkx
       go_wp2_with fail
       refine Calls.mono HD'.out ?_
       rintro e w2 ⟨rfl, HE⟩
       clear HD' y2 y3 z0 z1 yf2 yf3 hkx
       go_wp2
       go_roundw
       case rel => exact ⟨i + 1, by omega, by go_num, HE.out.1, HE.out.2.1, HE.out.2.2⟩
       case measure => simp [intOf]; omega
   ·have hk2 : ¬ (i : Int) < (kl : Int) := by omega
    have HE : Hid _ := FIN.out wr i hoi hri hti hi (fun _ => by omega)
    clear hri hti hoi
    go_wp2
    go_ret
    exact ⟨rfl, HE.out⟩
  ·obtain rfl : i = m := by omega
   have HE : Hid _ := FIN.out wr i hoi hri hti hi (fun h => by omega)
   clear hri hti hoi
   go_wp2
   go_ret
   exact ⟨rfl, HE.out⟩
end Go.Proofs.YtlcglapcmdpkfaaGreat
