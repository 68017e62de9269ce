/- What Open answers. Pages lie apart: those of the data and those of the tables; how many are free behind a commit. What a root names is read back: numbers, tables, pages. -/
import Derived.Test.YtpoakkdkibameaaGreatGar
import Derived.Test.YtpoakkdkibameaaGreatGae
import Derived.Test.YtpoakkdkibameaaGreatGao
namespace Go.Proofs.YtpoakkdkibameaaGreat
open Go.RowKit Go.Maps Go.Shelf
set_option linter.unusedSimpArgs false
set_option linter.unusedVariables false

/-- Of two stores the one that was committed last. -/
def openM : Option SS → Option SS → Option SS
  | none, none => none
  | none, some y => some y
  | some x, none => some x
  | some x, some y => if x.epoch < y.epoch then some y else some x
/-- The store that Open finds. -/
def openR (d : DS) : Option SS := openM (loadR d 0) (loadR d 4)
/-- What Open answers. -/
def OpenIs (w : World) (dk : Nat → Prop) (p : Nat) (r : Option SS) (e : Ending) (w' : World) : Prop :=
  Only (fun _ => False) w w' ∧ match r with
  | none => e = .returned (.tuple #[.pointer none, .int .i64 6])
  | some x => ∃ s mc mn tv, e = .returned (.tuple #[.pointer (some ⟨s, 0, none⟩), .int .i64 0]) ∧ StAt w' dk s p mc mn tv x ∧ w.heap.size ≤ s ∧ w.heap.size ≤ mc ∧ w.heap.size ≤ mn

set_option maxRecDepth 100000 in
set_option maxHeartbeats 2000000 in
theorem open_any (p S B : Nat) (pv : Value) (d : DS) (w : World) (h : DiskAt w B p S pv d) (hl : d.life ≠ 0) (hb : ByteD d) (hn : 3 ≤ d.n / 4) (dk : Nat → Prop) (hdk : ∀ k, dk k → k < w.heap.size) :
    Calls Tryz.prog 20 #[.pointer (some ⟨p, 0, none⟩)] w fun e w' => Hid (OpenIs w dk p (openR d) e w') := by
  have HD : Hid (DiskAt w B p S pv d) := h
  obtain ⟨w1, hw1⟩ : ∃ w1, w1 = w.alloc (.cells (secL (d.sec 0)).toArray 79) := ⟨_, rfl⟩
  have HRd : Hid (Calls Tryz.prog 10 #[.pointer (some ⟨p, 0, none⟩), .int .i64 0] w fun e w' => e = .returned (.tuple #[.slice (some ⟨w.heap.size, 0, none⟩) 32 32, .int .i64 0]) ∧ w' = w1) := by
    rw [hw1]
    exact read_any p S 0 B pv d w h hl (by omega)
  have o1 : Only (fun _ => False) w w1 := by rw [hw1]; exact (Only.refl _ w).alloc _
  have O1 : Hid (Only (fun _ => False) w w1) := o1
  have h1 : DiskAt w1 B p S pv d := h.frame o1 (fun _ _ e => e)
  obtain ⟨c, hc⟩ := h1.c0
  have HCn : Hid (Calls Tryz.prog 49 _ _ _) := count_any p S d.n c w1 h1.n2 hc
  have HL0 : Hid (Calls Tryz.prog 50 #[.pointer (some ⟨p, 0, none⟩), .int .i64 0] w1 fun e w' => LoadIs w1 dk p (loadR d 0) e w') := load_any p S B 0 pv d w1 h1 hl hb hn (.inl rfl) dk (fun k hk => Nat.lt_of_lt_of_le (hdk k hk) o1.size)
  have HL4 : Hid (∀ w2, Only (fun _ => False) w1 w2 → Calls Tryz.prog 50 #[.pointer (some ⟨p, 0, none⟩), .int .i64 4] w2 fun e w' => LoadIs w2 dk p (loadR d 4) e w') := fun w2 ho => load_any p S B 4 pv d w2 (h1.frame ho (fun _ _ e => e)) hl hb hn (.inr rfl) dk (fun k hk => Nat.lt_of_lt_of_le (hdk k hk) (Nat.le_trans o1.size ho.size))
  unfold openR
  obtain ⟨L0, hL0⟩ : ∃ q, q = loadR d 0 := ⟨_, rfl⟩
  obtain ⟨L4, hL4⟩ : ∃ q, q = loadR d 4 := ⟨_, rfl⟩
  rw [← hL0] at HL0 ⊢
  rw [← hL4] at HL4 ⊢
  clear hL0 hL4
  obtain ⟨nn, hnn⟩ : ∃ nn, nn = d.n / 4 := ⟨_, rfl⟩
  rw [← hnn] at hn HCn
  have hn' : ¬ (nn : Int) < 3 := by omega
  clear h h1 hc hw1 o1 hnn hl hb hdk
  go_enter Tryz.func20, Tryz.ntmps20
  go_wp2_with fail
  refine (show Calls Tryz.prog 10 _ _ _ from HRd.out).mono ?_
  rintro e wa ⟨rfl, hwa⟩
  rw [hwa]
  clear hwa HRd
  go_wp2_with fail
  refine (show Calls Tryz.prog 49 _ _ _ from HCn.out).mono ?_
  rintro e wb ⟨rfl, hwb⟩
  rw [hwb]
  clear hwb HCn
  go_wp2_with fail
  refine (show Calls Tryz.prog 50 _ _ _ from HL0.out).mono ?_
  rintro e w2 ⟨ho2, hm2⟩
  clear HL0
  have HLq : Hid (Calls Tryz.prog 50 _ _ _) := HL4.out w2 ho2
  have O2 : Hid (Only (fun _ => False) w w2) := O1.out.trans ho2 (fun _ _ e => e)
  have sz1 := O1.out.size
  have sz2 := ho2.size
  clear HL4 ho2
  cases L0 with
  | none =>
    simp only at hm2
    subst hm2
    go_wp2_with fail
    refine (show Calls Tryz.prog 50 _ _ _ from HLq.out).mono ?_
    rintro e w3 ⟨ho3, hm3⟩
    clear HLq
    have O3 : Hid (Only (fun _ => False) w w3) := O2.out.trans ho3 (fun _ _ e => e)
    clear ho3
    cases L4 with
    | none =>
      simp only at hm3
      subst hm3
      have HEND : Hid (OpenIs w dk p (openM none none) (.returned (.tuple #[.pointer none, .int .i64 6])) w3) := by
        exact ⟨O3.out, rfl⟩
      go_wp2
      go_ret2
      exact HEND.out
    | some y =>
      obtain ⟨s2, mc, mn, tv, rfl, hs2, q1, q2, q3⟩ := hm3
      have HEND : Hid (OpenIs w dk p (openM none (some y)) (.returned (.tuple #[.pointer (some ⟨s2, 0, none⟩), .int .i64 0])) w3.drew) := by
        refine ⟨O3.out.drew, ?_⟩
        exact ⟨s2, mc, mn, tv, rfl, hs2.still ((Only.refl _ w3).drew), by omega, by omega, by omega⟩
      clear hs2
      go_wp2_with fail
      refine wp_region_held_drew (S := fun _ => True) (by kernel_rfl) trivial (fun hHeld => ?_)
      refine wpAnyH_take (i := 0) (v := .pointer none) rfl (by kernel_rfl) (by kernel_rfl) (by kernel_rfl) (fun _ _ _ h => h) (Or.inl ⟨by rfl, fun wx hSw => by go_simp⟩) hHeld ?_
      simp only [Act.put, List.setIfInBounds_toArray, List.set_cons_zero, List.set_cons_succ, List.getElem_toArray, List.getElem_cons_zero, List.getElem_cons_succ]
      refine wpAnyH_take (i := 1) (v := .bool true) rfl (by kernel_rfl) (by kernel_rfl) (by kernel_rfl) (fun _ _ _ h => h) (Or.inl ⟨by rfl, fun wx hSw => by go_simp⟩) hHeld ?_
      simp only [Act.put, List.setIfInBounds_toArray, List.set_cons_zero, List.set_cons_succ, List.getElem_toArray, List.getElem_cons_zero, List.getElem_cons_succ]
      refine wpAnyH_take (i := 2) (v := .bool true) rfl (by kernel_rfl) (by kernel_rfl) (by kernel_rfl) (fun _ _ _ h => h) (Or.inl ⟨by rfl, fun wx hSw => by go_simp⟩) hHeld ?_
      simp only [Act.put, List.setIfInBounds_toArray, List.set_cons_zero, List.set_cons_succ, List.getElem_toArray, List.getElem_cons_zero, List.getElem_cons_succ]
      refine wpAnyH_take (i := 3) (v := undef) rfl (by kernel_rfl) (by kernel_rfl) (by kernel_rfl) (fun _ _ _ h => h) (Or.inr ⟨by rfl, rfl⟩) hHeld ?_
      simp only [Act.put, List.setIfInBounds_toArray, List.set_cons_zero, List.set_cons_succ, List.getElem_toArray, List.getElem_cons_zero, List.getElem_cons_succ]
      refine wpAnyH_take (i := 4) (v := undef) rfl (by kernel_rfl) (by kernel_rfl) (by kernel_rfl) (fun _ _ _ h => h) (Or.inr ⟨by rfl, rfl⟩) hHeld ?_
      simp only [Act.put, List.setIfInBounds_toArray, List.set_cons_zero, List.set_cons_succ, List.getElem_toArray, List.getElem_cons_zero, List.getElem_cons_succ]
      refine wpAnyH_take (i := 5) (v := undef) rfl (by kernel_rfl) (by kernel_rfl) (by kernel_rfl) (fun _ _ _ h => h) (Or.inr ⟨by rfl, rfl⟩) hHeld ?_
      simp only [Act.put, List.setIfInBounds_toArray, List.set_cons_zero, List.set_cons_succ, List.getElem_toArray, List.getElem_cons_zero, List.getElem_cons_succ]
      refine wpAnyH_take (i := 6) (v := undef) rfl (by kernel_rfl) (by kernel_rfl) (by kernel_rfl) (fun _ _ _ h => h) (Or.inr ⟨by rfl, rfl⟩) hHeld ?_
      simp only [Act.put, List.setIfInBounds_toArray, List.set_cons_zero, List.set_cons_succ, List.getElem_toArray, List.getElem_cons_zero, List.getElem_cons_succ]
      refine wpAnyH_take (i := 7) (v := undef) rfl (by kernel_rfl) (by kernel_rfl) (by kernel_rfl) (fun _ _ _ h => h) (Or.inr ⟨by rfl, rfl⟩) hHeld ?_
      simp only [Act.put, List.setIfInBounds_toArray, List.set_cons_zero, List.set_cons_succ, List.getElem_toArray, List.getElem_cons_zero, List.getElem_cons_succ]
      refine wpAnyH_take (i := 8) (v := undef) rfl (by kernel_rfl) (by kernel_rfl) (by kernel_rfl) (fun _ _ _ h => h) (Or.inr ⟨by rfl, rfl⟩) hHeld ?_
      simp only [Act.put, List.setIfInBounds_toArray, List.set_cons_zero, List.set_cons_succ, List.getElem_toArray, List.getElem_cons_zero, List.getElem_cons_succ]
      refine wpAnyH_take (i := 9) (v := undef) rfl (by kernel_rfl) (by kernel_rfl) (by kernel_rfl) (fun _ _ _ h => h) (Or.inr ⟨by rfl, rfl⟩) hHeld ?_
      simp only [Act.put, List.setIfInBounds_toArray, List.set_cons_zero, List.set_cons_succ, List.getElem_toArray, List.getElem_cons_zero, List.getElem_cons_succ]
      refine wpAnyH_take (i := 10) (v := undef) rfl (by kernel_rfl) (by kernel_rfl) (by kernel_rfl) (fun _ _ _ h => h) (Or.inr ⟨by rfl, rfl⟩) hHeld ?_
      simp only [Act.put, List.setIfInBounds_toArray, List.set_cons_zero, List.set_cons_succ, List.getElem_toArray, List.getElem_cons_zero, List.getElem_cons_succ]
      refine wpAnyH_take (i := 11) (v := undef) rfl (by kernel_rfl) (by kernel_rfl) (by kernel_rfl) (fun _ _ _ h => h) (Or.inr ⟨by rfl, rfl⟩) hHeld ?_
      simp only [Act.put, List.setIfInBounds_toArray, List.set_cons_zero, List.set_cons_succ, List.getElem_toArray, List.getElem_cons_zero, List.getElem_cons_succ]
      refine wpAnyH_take (i := 12) (v := undef) rfl (by kernel_rfl) (by kernel_rfl) (by kernel_rfl) (fun _ _ _ h => h) (Or.inr ⟨by rfl, rfl⟩) hHeld ?_
      simp only [Act.put, List.setIfInBounds_toArray, List.set_cons_zero, List.set_cons_succ, List.getElem_toArray, List.getElem_cons_zero, List.getElem_cons_succ]
      refine wpAnyH_take (i := 13) (v := undef) rfl (by kernel_rfl) (by kernel_rfl) (by kernel_rfl) (fun _ _ _ h => h) (Or.inr ⟨by rfl, rfl⟩) hHeld ?_
      simp only [Act.put, List.setIfInBounds_toArray, List.set_cons_zero, List.set_cons_succ, List.getElem_toArray, List.getElem_cons_zero, List.getElem_cons_succ]
      refine wpAnyH_take (i := 14) (v := undef) rfl (by kernel_rfl) (by kernel_rfl) (by kernel_rfl) (fun _ _ _ h => h) (Or.inr ⟨by rfl, rfl⟩) hHeld ?_
      simp only [Act.put, List.setIfInBounds_toArray, List.set_cons_zero, List.set_cons_succ, List.getElem_toArray, List.getElem_cons_zero, List.getElem_cons_succ]
      refine wpAnyH_take (i := 15) (v := undef) rfl (by kernel_rfl) (by kernel_rfl) (by kernel_rfl) (fun _ _ _ h => h) (Or.inr ⟨by rfl, rfl⟩) hHeld ?_
      simp only [Act.put, List.setIfInBounds_toArray, List.set_cons_zero, List.set_cons_succ, List.getElem_toArray, List.getElem_cons_zero, List.getElem_cons_succ]
      refine wpAnyH_take (i := 16) (v := .bool true) rfl (by kernel_rfl) (by kernel_rfl) (by kernel_rfl) (fun _ _ _ h => h) (Or.inl ⟨by rfl, fun wx hSw => by go_simp⟩) hHeld ?_
      simp only [Act.put, List.setIfInBounds_toArray, List.set_cons_zero, List.set_cons_succ, List.getElem_toArray, List.getElem_cons_zero, List.getElem_cons_succ]
      refine wpAnyH_done (by kernel_rfl) ?_ _
      clear hHeld
      go_wp2
      go_ret2
      exact HEND.out
  | some x =>
    obtain ⟨s1, mc1, mn1, tv1, rfl, hs1, q11, q12, q13⟩ := hm2
    go_wp2_with fail
    refine (show Calls Tryz.prog 50 _ _ _ from HLq.out).mono ?_
    rintro e w3 ⟨ho3, hm3⟩
    clear HLq
    have O3 : Hid (Only (fun _ => False) w w3) := O2.out.trans ho3 (fun _ _ e => e)
    have hs1' := hs1.still ho3
    have HS1 : Hid (StAt w3 dk s1 p mc1 mn1 tv1 x) := hs1'
    have ep1 := hs1'.c2
    clear ho3 hs1 hs1'
    cases L4 with
    | none =>
      simp only at hm3
      subst hm3
      have HEND : Hid (OpenIs w dk p (openM (some x) none) (.returned (.tuple #[.pointer (some ⟨s1, 0, none⟩), .int .i64 0])) w3.drew) := by
        refine ⟨O3.out.drew, ?_⟩
        exact ⟨s1, mc1, mn1, tv1, rfl, HS1.out.still ((Only.refl _ w3).drew), by omega, by omega, by omega⟩
      clear ep1
      go_wp2_with fail
      refine wp_region_held_drew (S := fun _ => True) (by kernel_rfl) trivial (fun hHeld => ?_)
      refine wpAnyH_take (i := 0) (v := .pointer (some ⟨s1, 0, none⟩)) rfl (by kernel_rfl) (by kernel_rfl) (by kernel_rfl) (fun _ _ _ h => h) (Or.inl ⟨by rfl, fun wx hSw => by go_simp⟩) hHeld ?_
      simp only [Act.put, List.setIfInBounds_toArray, List.set_cons_zero, List.set_cons_succ, List.getElem_toArray, List.getElem_cons_zero, List.getElem_cons_succ]
      refine wpAnyH_take (i := 1) (v := .bool false) rfl (by kernel_rfl) (by kernel_rfl) (by kernel_rfl) (fun _ _ _ h => h) (Or.inl ⟨by rfl, fun wx hSw => by go_simp⟩) hHeld ?_
      simp only [Act.put, List.setIfInBounds_toArray, List.set_cons_zero, List.set_cons_succ, List.getElem_toArray, List.getElem_cons_zero, List.getElem_cons_succ]
      refine wpAnyH_take (i := 2) (v := .bool false) rfl (by kernel_rfl) (by kernel_rfl) (by kernel_rfl) (fun _ _ _ h => h) (Or.inl ⟨by rfl, fun wx hSw => by go_simp⟩) hHeld ?_
      simp only [Act.put, List.setIfInBounds_toArray, List.set_cons_zero, List.set_cons_succ, List.getElem_toArray, List.getElem_cons_zero, List.getElem_cons_succ]
      refine wpAnyH_take (i := 3) (v := .pointer none) rfl (by kernel_rfl) (by kernel_rfl) (by kernel_rfl) (fun _ _ _ h => h) (Or.inl ⟨by rfl, fun wx hSw => by go_simp⟩) hHeld ?_
      simp only [Act.put, List.setIfInBounds_toArray, List.set_cons_zero, List.set_cons_succ, List.getElem_toArray, List.getElem_cons_zero, List.getElem_cons_succ]
      refine wpAnyH_take (i := 4) (v := .bool false) rfl (by kernel_rfl) (by kernel_rfl) (by kernel_rfl) (fun _ _ _ h => h) (Or.inl ⟨by rfl, fun wx hSw => by go_simp⟩) hHeld ?_
      simp only [Act.put, List.setIfInBounds_toArray, List.set_cons_zero, List.set_cons_succ, List.getElem_toArray, List.getElem_cons_zero, List.getElem_cons_succ]
      refine wpAnyH_take (i := 5) (v := .bool false) rfl (by kernel_rfl) (by kernel_rfl) (by kernel_rfl) (fun _ _ _ h => h) (Or.inl ⟨by rfl, fun wx hSw => by go_simp⟩) hHeld ?_
      simp only [Act.put, List.setIfInBounds_toArray, List.set_cons_zero, List.set_cons_succ, List.getElem_toArray, List.getElem_cons_zero, List.getElem_cons_succ]
      refine wpAnyH_take (i := 6) (v := undef) rfl (by kernel_rfl) (by kernel_rfl) (by kernel_rfl) (fun _ _ _ h => h) (Or.inr ⟨by rfl, rfl⟩) hHeld ?_
      simp only [Act.put, List.setIfInBounds_toArray, List.set_cons_zero, List.set_cons_succ, List.getElem_toArray, List.getElem_cons_zero, List.getElem_cons_succ]
      refine wpAnyH_take (i := 7) (v := undef) rfl (by kernel_rfl) (by kernel_rfl) (by kernel_rfl) (fun _ _ _ h => h) (Or.inr ⟨by rfl, rfl⟩) hHeld ?_
      simp only [Act.put, List.setIfInBounds_toArray, List.set_cons_zero, List.set_cons_succ, List.getElem_toArray, List.getElem_cons_zero, List.getElem_cons_succ]
      refine wpAnyH_take (i := 8) (v := undef) rfl (by kernel_rfl) (by kernel_rfl) (by kernel_rfl) (fun _ _ _ h => h) (Or.inr ⟨by rfl, rfl⟩) hHeld ?_
      simp only [Act.put, List.setIfInBounds_toArray, List.set_cons_zero, List.set_cons_succ, List.getElem_toArray, List.getElem_cons_zero, List.getElem_cons_succ]
      refine wpAnyH_take (i := 9) (v := undef) rfl (by kernel_rfl) (by kernel_rfl) (by kernel_rfl) (fun _ _ _ h => h) (Or.inr ⟨by rfl, rfl⟩) hHeld ?_
      simp only [Act.put, List.setIfInBounds_toArray, List.set_cons_zero, List.set_cons_succ, List.getElem_toArray, List.getElem_cons_zero, List.getElem_cons_succ]
      refine wpAnyH_take (i := 10) (v := undef) rfl (by kernel_rfl) (by kernel_rfl) (by kernel_rfl) (fun _ _ _ h => h) (Or.inr ⟨by rfl, rfl⟩) hHeld ?_
      simp only [Act.put, List.setIfInBounds_toArray, List.set_cons_zero, List.set_cons_succ, List.getElem_toArray, List.getElem_cons_zero, List.getElem_cons_succ]
      refine wpAnyH_take (i := 11) (v := undef) rfl (by kernel_rfl) (by kernel_rfl) (by kernel_rfl) (fun _ _ _ h => h) (Or.inr ⟨by rfl, rfl⟩) hHeld ?_
      simp only [Act.put, List.setIfInBounds_toArray, List.set_cons_zero, List.set_cons_succ, List.getElem_toArray, List.getElem_cons_zero, List.getElem_cons_succ]
      refine wpAnyH_take (i := 12) (v := undef) rfl (by kernel_rfl) (by kernel_rfl) (by kernel_rfl) (fun _ _ _ h => h) (Or.inr ⟨by rfl, rfl⟩) hHeld ?_
      simp only [Act.put, List.setIfInBounds_toArray, List.set_cons_zero, List.set_cons_succ, List.getElem_toArray, List.getElem_cons_zero, List.getElem_cons_succ]
      refine wpAnyH_take (i := 13) (v := undef) rfl (by kernel_rfl) (by kernel_rfl) (by kernel_rfl) (fun _ _ _ h => h) (Or.inr ⟨by rfl, rfl⟩) hHeld ?_
      simp only [Act.put, List.setIfInBounds_toArray, List.set_cons_zero, List.set_cons_succ, List.getElem_toArray, List.getElem_cons_zero, List.getElem_cons_succ]
      refine wpAnyH_take (i := 14) (v := undef) rfl (by kernel_rfl) (by kernel_rfl) (by kernel_rfl) (fun _ _ _ h => h) (Or.inr ⟨by rfl, rfl⟩) hHeld ?_
      simp only [Act.put, List.setIfInBounds_toArray, List.set_cons_zero, List.set_cons_succ, List.getElem_toArray, List.getElem_cons_zero, List.getElem_cons_succ]
      refine wpAnyH_take (i := 15) (v := .bool false) rfl (by kernel_rfl) (by kernel_rfl) (by kernel_rfl) (fun _ _ _ h => h) (Or.inl ⟨by rfl, fun wx hSw => by go_simp⟩) hHeld ?_
      simp only [Act.put, List.setIfInBounds_toArray, List.set_cons_zero, List.set_cons_succ, List.getElem_toArray, List.getElem_cons_zero, List.getElem_cons_succ]
      refine wpAnyH_take (i := 16) (v := .bool false) rfl (by kernel_rfl) (by kernel_rfl) (by kernel_rfl) (fun _ _ _ h => h) (Or.inl ⟨by rfl, fun wx hSw => by go_simp⟩) hHeld ?_
      simp only [Act.put, List.setIfInBounds_toArray, List.set_cons_zero, List.set_cons_succ, List.getElem_toArray, List.getElem_cons_zero, List.getElem_cons_succ]
      refine wpAnyH_done (by kernel_rfl) ?_ _
      clear hHeld
      go_wp2
      go_ret2
      exact HEND.out
    | some y =>
      obtain ⟨s2, mc, mn, tv, rfl, hs2, q1, q2, q3⟩ := hm3
      have ep2 := hs2.c2
      obtain ⟨e1, he1⟩ : ∃ e1, e1 = x.epoch := ⟨_, rfl⟩
      obtain ⟨e2, he2⟩ : ∃ e2, e2 = y.epoch := ⟨_, rfl⟩
      rw [← he1] at ep1
      rw [← he2] at ep2
      have HS2 : Hid (StAt w3 dk s2 p mc mn tv y) := hs2
      by_cases hlt : e1 < e2
      · have hlt' : (e1 : Int) < (e2 : Int) := by omega
        have HEND : Hid (OpenIs w dk p (openM (some x) (some y)) (.returned (.tuple #[.pointer (some ⟨s2, 0, none⟩), .int .i64 0])) w3.drew) := by
          refine ⟨O3.out.drew, ?_⟩
          rw [show openM (some x) (some y) = some y from if_pos (by omega)]
          exact ⟨s2, mc, mn, tv, rfl, HS2.out.still ((Only.refl _ w3).drew), by omega, by omega, by omega⟩
        clear hs2 he1 he2
        go_wp2_with fail
        refine wp_region_held_drew (S := fun w' => w'.cell? ⟨s1, 2, none⟩ = some (.int .u64 (e1 : Nat)) ∧ w'.cell? ⟨s2, 2, none⟩ = some (.int .u64 (e2 : Nat))) (by kernel_rfl) ⟨ep1, ep2⟩ (fun hHeld => ?_)
        refine wpAnyH_take (i := 0) (v := .pointer (some ⟨s1, 0, none⟩)) rfl (by kernel_rfl) (by kernel_rfl) (by kernel_rfl) (fun _ _ _ h => h) (Or.inl ⟨by rfl, fun wx hSw => by go_simp⟩) hHeld ?_
        simp only [Act.put, List.setIfInBounds_toArray, List.set_cons_zero, List.set_cons_succ, List.getElem_toArray, List.getElem_cons_zero, List.getElem_cons_succ]
        refine wpAnyH_take (i := 1) (v := .bool false) rfl (by kernel_rfl) (by kernel_rfl) (by kernel_rfl) (fun _ _ _ h => h) (Or.inl ⟨by rfl, fun wx hSw => by go_simp⟩) hHeld ?_
        simp only [Act.put, List.setIfInBounds_toArray, List.set_cons_zero, List.set_cons_succ, List.getElem_toArray, List.getElem_cons_zero, List.getElem_cons_succ]
        refine wpAnyH_take (i := 2) (v := .bool false) rfl (by kernel_rfl) (by kernel_rfl) (by kernel_rfl) (fun _ _ _ h => h) (Or.inl ⟨by rfl, fun wx hSw => by go_simp⟩) hHeld ?_
        simp only [Act.put, List.setIfInBounds_toArray, List.set_cons_zero, List.set_cons_succ, List.getElem_toArray, List.getElem_cons_zero, List.getElem_cons_succ]
        refine wpAnyH_take (i := 3) (v := .pointer (some ⟨s2, 0, none⟩)) rfl (by kernel_rfl) (by kernel_rfl) (by kernel_rfl) (fun _ _ _ h => h) (Or.inl ⟨by rfl, fun wx hSw => by go_simp⟩) hHeld ?_
        simp only [Act.put, List.setIfInBounds_toArray, List.set_cons_zero, List.set_cons_succ, List.getElem_toArray, List.getElem_cons_zero, List.getElem_cons_succ]
        refine wpAnyH_take (i := 4) (v := .bool true) rfl (by kernel_rfl) (by kernel_rfl) (by kernel_rfl) (fun _ _ _ h => h) (Or.inl ⟨by rfl, fun wx hSw => by go_simp⟩) hHeld ?_
        simp only [Act.put, List.setIfInBounds_toArray, List.set_cons_zero, List.set_cons_succ, List.getElem_toArray, List.getElem_cons_zero, List.getElem_cons_succ]
        refine wpAnyH_take (i := 5) (v := .bool true) rfl (by kernel_rfl) (by kernel_rfl) (by kernel_rfl) (fun _ _ _ h => h) (Or.inl ⟨by rfl, fun wx hSw => by go_simp⟩) hHeld ?_
        simp only [Act.put, List.setIfInBounds_toArray, List.set_cons_zero, List.set_cons_succ, List.getElem_toArray, List.getElem_cons_zero, List.getElem_cons_succ]
        refine wpAnyH_take (i := 6) (v := .pointer (some ⟨s2, 0, none⟩)) rfl (by kernel_rfl) (by kernel_rfl) (by kernel_rfl) (fun _ _ _ h => h) (Or.inl ⟨by rfl, fun wx hSw => by go_simp⟩) hHeld ?_
        simp only [Act.put, List.setIfInBounds_toArray, List.set_cons_zero, List.set_cons_succ, List.getElem_toArray, List.getElem_cons_zero, List.getElem_cons_succ]
        refine wpAnyH_take (i := 7) (v := .pointer (some ⟨s2, 0, none⟩)) rfl (by kernel_rfl) (by kernel_rfl) (by kernel_rfl) (fun _ _ _ h => h) (Or.inl ⟨by rfl, fun wx hSw => by go_simp⟩) hHeld ?_
        simp only [Act.put, List.setIfInBounds_toArray, List.set_cons_zero, List.set_cons_succ, List.getElem_toArray, List.getElem_cons_zero, List.getElem_cons_succ]
        refine wpAnyH_take (i := 8) (v := .pointer (some ⟨s2, 2, none⟩)) rfl (by kernel_rfl) (by kernel_rfl) (by kernel_rfl) (fun _ _ _ h => h) (Or.inl ⟨by rfl, fun wx hSw => by go_simp⟩) hHeld ?_
        simp only [Act.put, List.setIfInBounds_toArray, List.set_cons_zero, List.set_cons_succ, List.getElem_toArray, List.getElem_cons_zero, List.getElem_cons_succ]
        refine wpAnyH_take (i := 9) (v := .int .u64 (e2 : Nat)) rfl (by kernel_rfl) (by kernel_rfl) (by kernel_rfl) (fun _ _ _ h => h) (Or.inl ⟨by rfl, fun wx hSw => by go_simp⟩) hHeld ?_
        simp only [Act.put, List.setIfInBounds_toArray, List.set_cons_zero, List.set_cons_succ, List.getElem_toArray, List.getElem_cons_zero, List.getElem_cons_succ]
        refine wpAnyH_take (i := 10) (v := .pointer (some ⟨s1, 0, none⟩)) rfl (by kernel_rfl) (by kernel_rfl) (by kernel_rfl) (fun _ _ _ h => h) (Or.inl ⟨by rfl, fun wx hSw => by go_simp⟩) hHeld ?_
        simp only [Act.put, List.setIfInBounds_toArray, List.set_cons_zero, List.set_cons_succ, List.getElem_toArray, List.getElem_cons_zero, List.getElem_cons_succ]
        refine wpAnyH_take (i := 11) (v := .pointer (some ⟨s1, 0, none⟩)) rfl (by kernel_rfl) (by kernel_rfl) (by kernel_rfl) (fun _ _ _ h => h) (Or.inl ⟨by rfl, fun wx hSw => by go_simp⟩) hHeld ?_
        simp only [Act.put, List.setIfInBounds_toArray, List.set_cons_zero, List.set_cons_succ, List.getElem_toArray, List.getElem_cons_zero, List.getElem_cons_succ]
        refine wpAnyH_take (i := 12) (v := .pointer (some ⟨s1, 2, none⟩)) rfl (by kernel_rfl) (by kernel_rfl) (by kernel_rfl) (fun _ _ _ h => h) (Or.inl ⟨by rfl, fun wx hSw => by go_simp⟩) hHeld ?_
        simp only [Act.put, List.setIfInBounds_toArray, List.set_cons_zero, List.set_cons_succ, List.getElem_toArray, List.getElem_cons_zero, List.getElem_cons_succ]
        refine wpAnyH_take (i := 13) (v := .int .u64 (e1 : Nat)) rfl (by kernel_rfl) (by kernel_rfl) (by kernel_rfl) (fun _ _ _ h => h) (Or.inl ⟨by rfl, fun wx hSw => by go_simp⟩) hHeld ?_
        simp only [Act.put, List.setIfInBounds_toArray, List.set_cons_zero, List.set_cons_succ, List.getElem_toArray, List.getElem_cons_zero, List.getElem_cons_succ]
        refine wpAnyH_take (i := 14) (v := .bool true) rfl (by kernel_rfl) (by kernel_rfl) (by kernel_rfl) (fun _ _ _ h => h) (Or.inl ⟨by rfl, fun wx hSw => by go_simp⟩) hHeld ?_
        simp only [Act.put, List.setIfInBounds_toArray, List.set_cons_zero, List.set_cons_succ, List.getElem_toArray, List.getElem_cons_zero, List.getElem_cons_succ]
        refine wpAnyH_take (i := 15) (v := .bool true) rfl (by kernel_rfl) (by kernel_rfl) (by kernel_rfl) (fun _ _ _ h => h) (Or.inl ⟨by rfl, fun wx hSw => by go_simp⟩) hHeld ?_
        simp only [Act.put, List.setIfInBounds_toArray, List.set_cons_zero, List.set_cons_succ, List.getElem_toArray, List.getElem_cons_zero, List.getElem_cons_succ]
        refine wpAnyH_take (i := 16) (v := .bool true) rfl (by kernel_rfl) (by kernel_rfl) (by kernel_rfl) (fun _ _ _ h => h) (Or.inl ⟨by rfl, fun wx hSw => by go_simp⟩) hHeld ?_
        simp only [Act.put, List.setIfInBounds_toArray, List.set_cons_zero, List.set_cons_succ, List.getElem_toArray, List.getElem_cons_zero, List.getElem_cons_succ]
        refine wpAnyH_done (by kernel_rfl) ?_ _
        clear hHeld
        go_wp2
        go_ret2
        exact HEND.out
      · have hlt' : ¬ (e1 : Int) < (e2 : Int) := by omega
        have HEND : Hid (OpenIs w dk p (openM (some x) (some y)) (.returned (.tuple #[.pointer (some ⟨s1, 0, none⟩), .int .i64 0])) w3.drew) := by
          refine ⟨O3.out.drew, ?_⟩
          rw [show openM (some x) (some y) = some x from if_neg (by omega)]
          exact ⟨s1, mc1, mn1, tv1, rfl, HS1.out.still ((Only.refl _ w3).drew), by omega, by omega, by omega⟩
        clear hs2 he1 he2
        go_wp2_with fail
        refine wp_region_held_drew (S := fun w' => w'.cell? ⟨s1, 2, none⟩ = some (.int .u64 (e1 : Nat)) ∧ w'.cell? ⟨s2, 2, none⟩ = some (.int .u64 (e2 : Nat))) (by kernel_rfl) ⟨ep1, ep2⟩ (fun hHeld => ?_)
        refine wpAnyH_take (i := 0) (v := .pointer (some ⟨s1, 0, none⟩)) rfl (by kernel_rfl) (by kernel_rfl) (by kernel_rfl) (fun _ _ _ h => h) (Or.inl ⟨by rfl, fun wx hSw => by go_simp⟩) hHeld ?_
        simp only [Act.put, List.setIfInBounds_toArray, List.set_cons_zero, List.set_cons_succ, List.getElem_toArray, List.getElem_cons_zero, List.getElem_cons_succ]
        refine wpAnyH_take (i := 1) (v := .bool false) rfl (by kernel_rfl) (by kernel_rfl) (by kernel_rfl) (fun _ _ _ h => h) (Or.inl ⟨by rfl, fun wx hSw => by go_simp⟩) hHeld ?_
        simp only [Act.put, List.setIfInBounds_toArray, List.set_cons_zero, List.set_cons_succ, List.getElem_toArray, List.getElem_cons_zero, List.getElem_cons_succ]
        refine wpAnyH_take (i := 2) (v := .bool false) rfl (by kernel_rfl) (by kernel_rfl) (by kernel_rfl) (fun _ _ _ h => h) (Or.inl ⟨by rfl, fun wx hSw => by go_simp⟩) hHeld ?_
        simp only [Act.put, List.setIfInBounds_toArray, List.set_cons_zero, List.set_cons_succ, List.getElem_toArray, List.getElem_cons_zero, List.getElem_cons_succ]
        refine wpAnyH_take (i := 3) (v := .pointer (some ⟨s2, 0, none⟩)) rfl (by kernel_rfl) (by kernel_rfl) (by kernel_rfl) (fun _ _ _ h => h) (Or.inl ⟨by rfl, fun wx hSw => by go_simp⟩) hHeld ?_
        simp only [Act.put, List.setIfInBounds_toArray, List.set_cons_zero, List.set_cons_succ, List.getElem_toArray, List.getElem_cons_zero, List.getElem_cons_succ]
        refine wpAnyH_take (i := 4) (v := .bool true) rfl (by kernel_rfl) (by kernel_rfl) (by kernel_rfl) (fun _ _ _ h => h) (Or.inl ⟨by rfl, fun wx hSw => by go_simp⟩) hHeld ?_
        simp only [Act.put, List.setIfInBounds_toArray, List.set_cons_zero, List.set_cons_succ, List.getElem_toArray, List.getElem_cons_zero, List.getElem_cons_succ]
        refine wpAnyH_take (i := 5) (v := .bool true) rfl (by kernel_rfl) (by kernel_rfl) (by kernel_rfl) (fun _ _ _ h => h) (Or.inl ⟨by rfl, fun wx hSw => by go_simp⟩) hHeld ?_
        simp only [Act.put, List.setIfInBounds_toArray, List.set_cons_zero, List.set_cons_succ, List.getElem_toArray, List.getElem_cons_zero, List.getElem_cons_succ]
        refine wpAnyH_take (i := 6) (v := .pointer (some ⟨s2, 0, none⟩)) rfl (by kernel_rfl) (by kernel_rfl) (by kernel_rfl) (fun _ _ _ h => h) (Or.inl ⟨by rfl, fun wx hSw => by go_simp⟩) hHeld ?_
        simp only [Act.put, List.setIfInBounds_toArray, List.set_cons_zero, List.set_cons_succ, List.getElem_toArray, List.getElem_cons_zero, List.getElem_cons_succ]
        refine wpAnyH_take (i := 7) (v := .pointer (some ⟨s2, 0, none⟩)) rfl (by kernel_rfl) (by kernel_rfl) (by kernel_rfl) (fun _ _ _ h => h) (Or.inl ⟨by rfl, fun wx hSw => by go_simp⟩) hHeld ?_
        simp only [Act.put, List.setIfInBounds_toArray, List.set_cons_zero, List.set_cons_succ, List.getElem_toArray, List.getElem_cons_zero, List.getElem_cons_succ]
        refine wpAnyH_take (i := 8) (v := .pointer (some ⟨s2, 2, none⟩)) rfl (by kernel_rfl) (by kernel_rfl) (by kernel_rfl) (fun _ _ _ h => h) (Or.inl ⟨by rfl, fun wx hSw => by go_simp⟩) hHeld ?_
        simp only [Act.put, List.setIfInBounds_toArray, List.set_cons_zero, List.set_cons_succ, List.getElem_toArray, List.getElem_cons_zero, List.getElem_cons_succ]
        refine wpAnyH_take (i := 9) (v := .int .u64 (e2 : Nat)) rfl (by kernel_rfl) (by kernel_rfl) (by kernel_rfl) (fun _ _ _ h => h) (Or.inl ⟨by rfl, fun wx hSw => by go_simp⟩) hHeld ?_
        simp only [Act.put, List.setIfInBounds_toArray, List.set_cons_zero, List.set_cons_succ, List.getElem_toArray, List.getElem_cons_zero, List.getElem_cons_succ]
        refine wpAnyH_take (i := 10) (v := .pointer (some ⟨s1, 0, none⟩)) rfl (by kernel_rfl) (by kernel_rfl) (by kernel_rfl) (fun _ _ _ h => h) (Or.inl ⟨by rfl, fun wx hSw => by go_simp⟩) hHeld ?_
        simp only [Act.put, List.setIfInBounds_toArray, List.set_cons_zero, List.set_cons_succ, List.getElem_toArray, List.getElem_cons_zero, List.getElem_cons_succ]
        refine wpAnyH_take (i := 11) (v := .pointer (some ⟨s1, 0, none⟩)) rfl (by kernel_rfl) (by kernel_rfl) (by kernel_rfl) (fun _ _ _ h => h) (Or.inl ⟨by rfl, fun wx hSw => by go_simp⟩) hHeld ?_
        simp only [Act.put, List.setIfInBounds_toArray, List.set_cons_zero, List.set_cons_succ, List.getElem_toArray, List.getElem_cons_zero, List.getElem_cons_succ]
        refine wpAnyH_take (i := 12) (v := .pointer (some ⟨s1, 2, none⟩)) rfl (by kernel_rfl) (by kernel_rfl) (by kernel_rfl) (fun _ _ _ h => h) (Or.inl ⟨by rfl, fun wx hSw => by go_simp⟩) hHeld ?_
        simp only [Act.put, List.setIfInBounds_toArray, List.set_cons_zero, List.set_cons_succ, List.getElem_toArray, List.getElem_cons_zero, List.getElem_cons_succ]
        refine wpAnyH_take (i := 13) (v := .int .u64 (e1 : Nat)) rfl (by kernel_rfl) (by kernel_rfl) (by kernel_rfl) (fun _ _ _ h => h) (Or.inl ⟨by rfl, fun wx hSw => by go_simp⟩) hHeld ?_
        simp only [Act.put, List.setIfInBounds_toArray, List.set_cons_zero, List.set_cons_succ, List.getElem_toArray, List.getElem_cons_zero, List.getElem_cons_succ]
        refine wpAnyH_take (i := 14) (v := .bool false) rfl (by kernel_rfl) (by kernel_rfl) (by kernel_rfl) (fun _ _ _ h => h) (Or.inl ⟨by rfl, fun wx hSw => by go_simp⟩) hHeld ?_
        simp only [Act.put, List.setIfInBounds_toArray, List.set_cons_zero, List.set_cons_succ, List.getElem_toArray, List.getElem_cons_zero, List.getElem_cons_succ]
        refine wpAnyH_take (i := 15) (v := .bool false) rfl (by kernel_rfl) (by kernel_rfl) (by kernel_rfl) (fun _ _ _ h => h) (Or.inl ⟨by rfl, fun wx hSw => by go_simp⟩) hHeld ?_
        simp only [Act.put, List.setIfInBounds_toArray, List.set_cons_zero, List.set_cons_succ, List.getElem_toArray, List.getElem_cons_zero, List.getElem_cons_succ]
        refine wpAnyH_take (i := 16) (v := .bool false) rfl (by kernel_rfl) (by kernel_rfl) (by kernel_rfl) (fun _ _ _ h => h) (Or.inl ⟨by rfl, fun wx hSw => by go_simp⟩) hHeld ?_
        simp only [Act.put, List.setIfInBounds_toArray, List.set_cons_zero, List.set_cons_succ, List.getElem_toArray, List.getElem_cons_zero, List.getElem_cons_succ]
        refine wpAnyH_done (by kernel_rfl) ?_ _
        clear hHeld
        go_wp2
        go_ret2
        exact HEND.out
end Go.Proofs.YtpoakkdkibameaaGreat
namespace Go.Proofs.YtpoakkdkibameaaGreat
open Go.RowKit Go.Maps Go.Shelf
set_option linter.unusedSimpArgs false
set_option linter.unusedVariables false

/-- No page of the disk is in use twice; what was not put since is as it was committed. -/
def Inv (x : SS) : Prop := (x.com.map (fun p => p.2.1) ++ x.tabs).Nodup ∧ ∀ p ∈ x.now, p.2.1 ≠ 0 → p ∈ x.com
theorem room_count {x : SS} (hw : x.Wf) (hn : (x.com.map (fun p => p.2.1) ++ x.tabs).Nodup) : freeN x x.size + x.com.length + x.tabs.length + 2 = x.size := by
  obtain ⟨U, hU⟩ : ∃ U, U = x.com.map (fun p => p.2.1) ++ x.tabs := ⟨_, rfl⟩
  have hUm : ∀ j, j ∈ U ↔ (∃ p ∈ x.com, p.2.1 = j) ∨ j ∈ x.tabs := fun j => by rw [hU]; simp only [List.mem_append, List.mem_map]
  have hU2 : ∀ j ∈ U, 2 ≤ j ∧ j < x.size := fun j hj => by
    rcases (hUm j).1 hj with ⟨p, hp, rfl⟩ | h
    · exact (hw.com p hp).2.1
    · exact hw.tabs.2 j h
  have hus : ∀ j, usedF x j = true ↔ j < 2 ∨ j ∈ U := fun j => by
    rw [hUm]
    unfold usedF
    simp only [Bool.or_eq_true, decide_eq_true_eq, List.any_eq_true, beq_iff_eq, or_assoc]
    constructor
    · rintro (h | ⟨p, hp, e⟩ | ⟨t, ht, e⟩)
      · exact .inl h
      · exact .inr (.inl ⟨p, hp, e⟩)
      · exact .inr (.inr (e ▸ ht))
    · rintro (h | ⟨p, hp, e⟩ | h)
      · exact .inl h
      · exact .inr (.inl ⟨p, hp, e⟩)
      · exact .inr (.inr ⟨j, h, rfl⟩)
  have hfr : ∀ j, j ∈ freeL x x.size ↔ j < x.size ∧ ¬ (j < 2 ∨ j ∈ U) := fun j => by
    rw [freeL_mem, ← hus]
    simp
  have nd : ([0, 1] ++ (U ++ freeL x x.size)).Nodup := by
    have h1 : (U ++ freeL x x.size).Nodup := by
      refine List.pairwise_append.2 ⟨by rw [hU]; exact hn, (freeL_rise x x.size).imp (fun h => Nat.ne_of_lt h), fun a ha b hb e => ?_⟩
      subst e
      exact ((hfr a).1 hb).2 (.inr ha)
    refine List.pairwise_append.2 ⟨by simp, h1, fun a ha b hb e => ?_⟩
    subst e
    have : a < 2 := by simp at ha; omega
    rcases List.mem_append.1 hb with h | h
    · have := hU2 a h; omega
    · exact ((hfr a).1 h).2 (.inl this)
  have P : (List.range x.size).Perm ([0, 1] ++ (U ++ freeL x x.size)) := (List.perm_ext_iff_of_nodup List.nodup_range nd).2 (fun j => by
    rw [List.mem_range, List.mem_append, List.mem_append, hfr]
    have hs := hw.size
    constructor
    · intro h
      by_cases h2 : j < 2
      · exact .inl (by simp; omega)
      · by_cases hj : j ∈ U
        · exact .inr (.inl hj)
        · exact .inr (.inr ⟨h, fun e => e.elim h2 hj⟩)
    · rintro (h | h | h)
      · simp at h; omega
      · exact (hU2 j h).2
      · exact h.1)
  have hl := P.length_eq
  simp only [List.length_range, List.length_append, freeL_len, hU, List.length_map, List.length_cons, List.length_nil] at hl
  omega
theorem lay_perm : ∀ (l : Pgs) (A : List Nat) (k : Nat), (freshN l).length ≤ k → (freshN l).length ≤ A.length → ((layK l A k).map (fun p => p.2.1)).Perm (((l.filter fun p => !(p.2.1 == 0)).map (fun p => p.2.1)) ++ A.take (freshN l).length)
  | [], A, k, _, _ => by simp [layK, freshN]
  | p :: l, A, k, hk, hA => by
    by_cases hz : p.2.1 = 0
    · have hz' : (p.2.1 == 0) = true := by simpa using hz
      have ef : (freshN (p :: l)).length = (freshN l).length + 1 := by simp [freshN, List.filter_cons, hz']
      rw [ef] at hk hA ⊢
      cases A with
      | nil => simp at hA
      | cons a r =>
        have ih := lay_perm l r (k - 1) (by omega) (by simp at hA; omega)
        simp only [layK, if_pos hz]
        rw [if_neg (by omega)]
        simp only [List.map_cons, List.filter_cons, hz', Bool.not_true, Bool.false_eq_true, if_false, List.take_succ_cons, List.getD_cons_zero, List.drop_succ_cons, List.drop_zero]
        exact (ih.cons a).trans List.perm_middle.symm
    · have hz' : (p.2.1 == 0) = false := by simpa using hz
      have ef : (freshN (p :: l)).length = (freshN l).length := by simp [freshN, List.filter_cons, hz']
      rw [ef] at hk hA ⊢
      have ih := lay_perm l A k hk hA
      simp only [layK, if_neg hz, List.map_cons, List.filter_cons, hz', Bool.not_false, if_true, List.cons_append]
      exact ih.cons _
theorem next_nodup {x : SS} (hw : x.Wf) (hr : Rise x.now) (hf : needN x ≤ freeN x x.size) (hi : Inv x) : ((laid x).map (fun p => p.2.1) ++ tbs x).Nodup := by
  obtain ⟨kept, hk⟩ : ∃ kept, kept = (x.now.filter fun p => !(p.2.1 == 0)).map (fun p => p.2.1) := ⟨_, rfl⟩
  have hp := lay_perm x.now (plA x) (freshN x.now).length (Nat.le_refl _) (by rw [plA_length]; exact Nat.le_refl _)
  rw [← hk, List.take_of_length_le (by rw [plA_length]; exact Nat.le_refl _), plA_true hw hf] at hp
  have hle : putN x ≤ needN x := by unfold needN needA; omega
  have he : (freeL x x.size).take (putN x) ++ tbs x = (freeL x x.size).take (needN x) := by
    unfold tbs
    have := List.take_append_drop (putN x) ((freeL x x.size).take (needN x))
    rw [List.take_take, Nat.min_eq_left hle] at this
    exact this
  have hP : ((laid x).map (fun p => p.2.1) ++ tbs x).Perm (kept ++ (freeL x x.size).take (needN x)) := by
    have := hp.append_right (tbs x)
    rw [List.append_assoc, he] at this
    unfold laid layP
    rw [plA_true hw hf]
    exact this
  refine hP.symm.nodup (List.pairwise_append.2 ⟨?_, ((freeL_rise x x.size).imp (fun h => Nat.ne_of_lt h)).sublist (List.take_sublist _ _), fun a ha b hb e => ?_⟩)
  · rw [hk]
    refine List.pairwise_map.2 ?_
    have hc : x.com.Pairwise (fun p q => p.2.1 ≠ q.2.1) := by
      have := (List.pairwise_append.1 hi.1).1
      exact List.pairwise_map.1 this
    have hcc : ∀ p ∈ x.com, ∀ q ∈ x.com, p.2.1 = q.2.1 → p = q := by
      intro p hp q hq e
      obtain ⟨i, h1, rfl⟩ := List.getElem_of_mem hp
      obtain ⟨j, h2, rfl⟩ := List.getElem_of_mem hq
      have hpw := List.pairwise_iff_getElem.1 hc
      rcases Nat.lt_trichotomy i j with h | h | h
      · exact absurd e (hpw i j h1 h2 h)
      · subst h; rfl
      · exact absurd e.symm (hpw j i h2 h1 h)
    have hrf : (x.now.filter fun p => !(p.2.1 == 0)).Pairwise (fun p q => p.1 < q.1) := List.Pairwise.filter _ hr
    refine List.Pairwise.imp_of_mem (fun {p q} hp hq h e => ?_) hrf
    have h1 := List.mem_filter.1 hp
    have h2 := List.mem_filter.1 hq
    have e2 := hcc p (hi.2 p h1.1 (by simpa using h1.2)) q (hi.2 q h2.1 (by simpa using h2.2)) e
    rw [e2] at h
    omega
  · subst e
    rw [hk] at ha
    obtain ⟨p, hp, rfl⟩ := List.mem_map.1 ha
    have h1 := List.mem_filter.1 hp
    have hpc := hi.2 p h1.1 (by simpa using h1.2)
    have := (freeL_mem.1 (List.mem_of_mem_take hb)).2
    unfold usedF at this
    simp only [Bool.or_eq_false_iff, List.any_eq_false] at this
    have := this.1.2 p hpc
    simp at this
theorem laid_places {x : SS} (hw : x.Wf) (hf : needN x ≤ freeN x x.size) : ∀ p ∈ laid x, p.2.1 ≠ 0 := fun p hp => by
  have := ((next_wf hw hf).com p hp).2.1.1
  omega
theorem layK_none : ∀ (l : Pgs) (A : List Nat) (k : Nat), (∀ p ∈ l, p.2.1 ≠ 0) → layK l A k = l
  | [], _, _, _ => rfl
  | p :: l, A, k, h => by
    simp only [layK, if_neg (h p (List.mem_cons_self ..))]
    rw [layK_none l A k (fun q hq => h q (List.mem_cons_of_mem _ hq))]
theorem fresh_none {l : Pgs} (h : ∀ p ∈ l, p.2.1 ≠ 0) : freshN l = [] := by
  unfold freshN
  rw [List.filter_eq_nil_iff.2 (fun p hp => by simpa using h p hp)]
  rfl
theorem next_need {x : SS} (hw : x.Wf) (hf : needN x ≤ freeN x x.size) : needN x.next = (tbs x).length := by
  have h := laid_places hw hf
  have e : x.next.now = laid x := rfl
  unfold needN needA putN layP
  rw [e, layK_none _ _ _ h, fresh_none h, tbs_length hf]
  simp
theorem stable_inv : Stable (fun x _ => Inv x) := by
  refine ⟨fun {w B0 s p S x d} h i zs hi hl hx => ⟨hx.1, fun q hq hz => ?_⟩, fun {w B0 s p S x d} h i hx => ⟨hx.1, fun q hq hz => hx.2 q ((delL_mem _ _ _).1 hq).1 hz⟩, fun {w B0 s p S x d} h hx => ⟨hx.1, fun q hq hz => hq⟩, fun {w B0 s p S x d} h hf hx => ?_⟩
  · rcases (putL_mem _ _ _ _).1 hq with rfl | hq
    · exact absurd rfl hz
    · exact hx.2 q hq.1 hz
  · obtain ⟨pv, mc, mn, tv, B, h1, h2, h3, h4⟩ := h.all
    exact ⟨next_nodup h3.wf h3.now.rise hf hx, fun q hq hz => hq⟩
end Go.Proofs.YtpoakkdkibameaaGreat
namespace Go.Proofs.YtpoakkdkibameaaGreat
open Go.RowKit Go.Maps Go.Shelf
set_option linter.unusedSimpArgs false
set_option linter.unusedVariables false

theorem getD_drop {zs : List Nat} {k c : Nat} {r : List Nat} (h : zs.drop k = c :: r) : k < zs.length ∧ zs.getD k 0 = c ∧ zs.drop (k + 1) = r := by
  have hl : k < zs.length := by
    rcases Nat.lt_or_ge k zs.length with h1 | h1
    · exact h1
    · rw [List.drop_eq_nil_of_le h1] at h; cases h
  rw [List.drop_eq_getElem_cons hl] at h
  injection h with h1 h2
  exact ⟨hl, by simp [List.getD, hl, h1], h2⟩
/-- A number's bytes are read as it. -/
theorem rd_num {zs post : List Nat} {p : Nat} : ∀ (f i m n : Nat), f + i = 9 → n < 128 ^ f → (0 < n ∨ i = 0) → zs.drop (p + i) = num n ++ post → rd zs p i m = some (m + n * 2 ^ (7 * i), p + i + (num n).length)
  | 0, i, m, n, hf, hn, h0, hd => by
    have : n = 0 := by omega
    omega
  | f + 1, i, m, n, hf, hn, h0, hd => by
    by_cases e : n < 128
    · rw [num_small e] at hd ⊢
      obtain ⟨h1, h2, h3⟩ := getD_drop (r := post) hd
      rw [rd_last (by omega) h1 h2 e, if_neg (by omega), Nat.mod_eq_of_lt e]
      rfl
    · rw [num_big e] at hd ⊢
      obtain ⟨h1, h2, h3⟩ := getD_drop (r := num (n / 128) ++ post) hd
      have hlt : n / 128 < 128 ^ f := Nat.div_lt_of_lt_mul (by rw [Nat.pow_succ] at hn; omega)
      rw [rd_more (by omega) h1 h2 (by omega), rd_num f (i + 1) _ (n / 128) (by omega) hlt (.inl (by omega)) h3]
      have e1 : (n % 128 + 128) % 128 = n % 128 := by omega
      have e2 : 2 ^ (7 * (i + 1)) = 128 * 2 ^ (7 * i) := by rw [show 7 * (i + 1) = 7 * i + 7 by omega, Nat.pow_add]; omega
      rw [e1, e2]
      have e3 : n * 2 ^ (7 * i) = n % 128 * 2 ^ (7 * i) + n / 128 * (128 * 2 ^ (7 * i)) := by
        rw [← Nat.mul_assoc, ← Nat.add_mul]
        congr 1
        omega
      rw [e3, List.length_cons]
      congr 2
      · omega
      · omega
theorem rd_num' {zs post : List Nat} {p n : Nat} (hn : n < 9223372036854775808) (hd : zs.drop p = num n ++ post) : rd zs p 0 0 = some (n, p + (num n).length) := by
  have := rd_num (zs := zs) (post := post) (p := p) 9 0 0 n rfl (by omega) (.inr rfl) hd
  simpa using this

theorem acc4_app (A B : List Nat) : ∀ k, k ≤ A.length → acc4 (A ++ B) 0 k = acc4 A 0 k
  | 0, _ => rfl
  | k + 1, h => by
    simp only [acc4]
    rw [acc4_app A B k (by omega)]
    congr 2
    simp only [Nat.zero_add, List.getD]
    rw [List.getElem?_append_left (by omega)]
theorem acc4_lay (x : Nat) : ∀ k, acc4 (layB x k) 0 k = x % 2 ^ (8 * k)
  | 0 => by simp [acc4, Nat.mod_one]
  | k + 1 => by
    rw [layB_succ]
    simp only [acc4]
    rw [acc4_app _ _ k (by rw [layB_length]; exact Nat.le_refl _), acc4_lay x k]
    have e : (layB x k ++ [x / 2 ^ (8 * k) % 256]).getD (0 + k) 0 = x / 2 ^ (8 * k) % 256 := by
      simp only [Nat.zero_add, List.getD]
      rw [List.getElem?_append_right (by rw [layB_length]; exact Nat.le_refl _), layB_length]
      simp
    rw [e, show 8 * (k + 1) = 8 * k + 8 by omega, Nat.pow_add, Nat.mod_mul, Nat.mul_comm (2 ^ (8 * k))]
theorem nof_lay (x k : Nat) (h : x < 2 ^ (8 * k)) : nof (layB x k) = x := by
  unfold nof
  rw [layB_length, acc4_lay, Nat.mod_eq_of_lt h]
theorem part_mid (A B C : List Nat) (k m : Nat) (hA : A.length = k) (hB : B.length = m) : part (A ++ (B ++ C)) k m = nof B := by
  unfold part
  rw [← hA, List.drop_left, ← hB, List.take_left]
theorem part_last (A B : List Nat) (k m : Nat) (hA : A.length = k) (hB : B.length = m) : part (A ++ B) k m = nof B := by
  have := part_mid A B [] k m hA hB
  rwa [List.append_nil] at this
theorem acc4_zero : ∀ (n k : Nat), acc4 (List.replicate n 0) 0 k = 0
  | n, 0 => rfl
  | n, k + 1 => by
    simp only [acc4, acc4_zero n k, Nat.zero_add]
    have : (List.replicate n 0).getD k 0 = 0 := by
      simp only [List.getD, List.getElem?_replicate]
      split <;> rfl
    rw [this]
    simp
/-- What the bytes of a root say. -/
theorem root_says (E f c : Nat) (hE : E < 18446744073709551616) (hf : f < 4294967296) (hc : c < 4294967296) : rtE (rootB E f c) = E ∧ rtF (rootB E f c) = f ∧ rtC (rootB E f c) = c ∧ rtOk (rootB E f c) = (E != 0) := by
  have e0 : part (rootB E f c) 0 8 = E := by
    have := part_mid [] (layB E 8) (layB f 4 ++ (layB c 4 ++ (List.replicate 8 0 ++ layB E 8))) 0 8 rfl (layB_length _ _)
    rw [List.nil_append] at this
    rw [show rootB E f c = layB E 8 ++ (layB f 4 ++ (layB c 4 ++ (List.replicate 8 0 ++ layB E 8))) from rfl, this, nof_lay E 8 hE]
  have e1 : part (rootB E f c) 8 4 = f := by
    rw [show rootB E f c = layB E 8 ++ (layB f 4 ++ (layB c 4 ++ (List.replicate 8 0 ++ layB E 8))) from rfl, part_mid _ _ _ 8 4 (layB_length _ _) (layB_length _ _), nof_lay f 4 hf]
  have e2 : part (rootB E f c) 12 4 = c := by
    rw [show rootB E f c = (layB E 8 ++ layB f 4) ++ (layB c 4 ++ (List.replicate 8 0 ++ layB E 8)) by simp [rootB], part_mid _ _ _ 12 4 (by simp [layB_length]) (layB_length _ _), nof_lay c 4 hc]
  have e3 : part (rootB E f c) 16 8 = 0 := by
    rw [show rootB E f c = (layB E 8 ++ (layB f 4 ++ layB c 4)) ++ (List.replicate 8 0 ++ layB E 8) by simp [rootB], part_mid _ _ _ 16 8 (by simp [layB_length]) (by simp)]
    unfold nof
    exact acc4_zero _ _
  have e4 : part (rootB E f c) 24 8 = E := by
    rw [show rootB E f c = (layB E 8 ++ (layB f 4 ++ (layB c 4 ++ List.replicate 8 0))) ++ layB E 8 by simp [rootB], part_last _ _ 24 8 (by simp [layB_length]) (layB_length _ _), nof_lay E 8 hE]
  refine ⟨e0, e1, e2, ?_⟩
  unfold rtOk
  rw [e0, e3, e4]
  simp
theorem secN_byF (zs : List Nat) (h : zs.length = 32) : secN (byF zs) = zs := by
  apply List.ext_getElem
  · rw [secN_length, h]
  · intro i h1 h2
    simp [secN, byF, List.getD, h2]
theorem ld_page {d : DS} {f : Nat → Bool} {q id : Nat} {D : List Nat} (hq : q < d.n / 4) (hf : f q = false) (hp : unp (pgN d q 4) = some (id, D)) : ldR d f q id = (fun j => f j || j == q, some D) := by
  unfold ldR ldD
  rw [if_neg (by rw [hf]; simp; omega), hp]
  simp
theorem part_lay (z : Nat) (p : List Nat) (h : z < 4294967296) : part (layB z 4 ++ p) 0 4 = z := by
  have := part_mid [] (layB z 4) p 0 4 rfl (layB_length _ _)
  rw [List.nil_append] at this
  rw [this, nof_lay z 4 h]
theorem tb_step {d : DS} {t nx : Nat} {p : List Nat} {f : Nat → Bool} (h1 : t < d.n / 4) (h2 : t ≠ 0) (h3 : f t = false) (hx : nx < 4294967296) (hp : unp (pgN d t 4) = some (2, layB nx 4 ++ p)) (k : Nat) (at_ tab : List Nat) :
    tbR d (k + 1) f t at_ tab = tbR d k (fun j => f j || j == t) nx (at_ ++ [t]) (tab ++ p) := by
  have hld := ld_page (f := f) h1 h3 hp
  have e1 : (ldR d f t 2).1 = fun j => f j || j == t := congrArg Prod.fst hld
  have e2 : (ldR d f t 2).2 = some (layB nx 4 ++ p) := congrArg Prod.snd hld
  have hdr : (layB nx 4 ++ p).drop 4 = p := by
    have := List.drop_left (l₁ := layB nx 4) (l₂ := p)
    rwa [layB_length] at this
  have hl : ¬ (layB nx 4 ++ p).length < 4 := by rw [List.length_append, layB_length]; omega
  have h := tbR_go h2 e2 hl k at_ tab
  rw [e1, part_lay nx p hx, hdr] at h
  exact h
/-- The tables are read back. -/
theorem tb_chain (d : DS) : ∀ (ts : List Nat) (ps : List (List Nat)) (f : Nat → Bool) (at_ tab : List Nat) (k : Nat), ts.length = ps.length → ts.length < k → ts.Nodup → (∀ t ∈ ts, t < d.n / 4 ∧ t ≠ 0 ∧ f t = false ∧ t < 65536) → (∀ j, j < ts.length → unp (pgN d (ts.getD j 0) 4) = some (2, layB (ts.getD (j + 1) 0) 4 ++ ps.getD j [])) →
    tbR d k f (ts.getD 0 0) at_ tab = (fun j => f j || decide (j ∈ ts), some (at_ ++ ts, tab ++ ps.flatten))
  | [], [], f, at_, tab, k + 1, _, _, _, _, _ => by
    rw [show ([] : List Nat).getD 0 0 = 0 from rfl, tbR_end]
    simp
  | [], [], f, at_, tab, 0, _, h, _, _, _ => by simp at h
  | t :: ts, p :: ps, f, at_, tab, 0, _, h, _, _, _ => by simp at h
  | t :: ts, p :: ps, f, at_, tab, k + 1, hl, hk, hn, ht, hp => by
    obtain ⟨h1, h2, h3, h4⟩ := ht t (List.mem_cons_self ..)
    have hnd := List.nodup_cons.1 hn
    have hp0 : unp (pgN d t 4) = some (2, layB (ts.getD 0 0) 4 ++ p) := hp 0 (Nat.zero_lt_succ _)
    have hhd : ts.getD 0 0 < 4294967296 := by
      cases ts with
      | nil => exact Nat.zero_lt_succ _
      | cons a r =>
        have := (ht a (List.mem_cons_of_mem _ (List.mem_cons_self ..))).2.2.2
        show a < 4294967296
        omega
    have hl' : ts.length = ps.length := Nat.succ.inj hl
    have hk' : ts.length < k := Nat.lt_of_succ_lt_succ hk
    have ih := tb_chain d ts ps (fun j => f j || j == t) (at_ ++ [t]) (tab ++ p) k hl' hk' hnd.2 (fun a ha => by
      obtain ⟨q1, q2, q3, q4⟩ := ht a (List.mem_cons_of_mem _ ha)
      have hne : a ≠ t := fun e => hnd.1 (e ▸ ha)
      exact ⟨q1, q2, by simp only [q3, Bool.false_or, beq_eq_false_iff_ne]; exact hne, q4⟩) (fun j hj => hp (j + 1) (Nat.succ_lt_succ hj))
    have hs := tb_step (f := f) h1 h2 h3 hhd hp0 k at_ tab
    rw [ih] at hs
    refine hs.trans ?_
    simp only [List.append_assoc, List.flatten_cons, List.cons_append, List.nil_append, Prod.mk.injEq, and_true]
    funext j
    rw [Bool.or_assoc]
    congr 1
    by_cases e : j = t
    · simp [e]
    · simp [e]
theorem putL_snoc {α : Type} {l : List (Int × α)} (i : Int) (v : α) (h : ∀ p ∈ l, p.1 < i) : putL l i v = l ++ [(i, v)] := by
  unfold putL
  rw [delL_id (by rw [getL_none]; exact fun p hp e => by have := h p hp; omega)]
  induction l with
  | nil => rfl
  | cons p r ih =>
    have hp := h p (List.mem_cons_self ..)
    simp only [insL, List.cons_append]
    rw [if_neg (by simp; omega), ih (fun q hq => h q (List.mem_cons_of_mem _ hq))]
theorem tabB_cons (p : Int × Nat × List Nat) (l : Pgs) : tabB (p :: l) = num p.1.toNat ++ (num p.2.1 ++ tabB l) := by simp [tabB]
/-- The pages are read back. -/
theorem pgs_back (d : DS) (tab : List Nat) : ∀ (l pre : Pgs) (f : Nat → Bool) (least pos k : Nat), tab.drop pos = tabB l → pos ≤ tab.length → l.length < k → Rise (pre ++ l) → (∀ p ∈ l, (least : Int) ≤ p.1 ∧ 0 ≤ p.1 ∧ p.1 < 728) → (l.map (fun p => p.2.1)).Nodup →
    (∀ p ∈ l, p.2.1 < d.n / 4 ∧ f p.2.1 = false ∧ p.2.1 < 9223372036854775808 ∧ unp (pgN d p.2.1 4) = some (3 + 256 * p.1.toNat, p.2.2)) → ∃ f', pgsR d tab k f least pos pre = (f', some (pre ++ l))
  | [], pre, f, least, pos, 0, _, _, h, _, _, _, _ => by simp at h
  | [], pre, f, least, pos, k + 1, hd, hp, _, _, _, _, _ => by
    have : tab.length ≤ pos := by
      have := congrArg List.length hd
      simp [tabB] at this
      omega
    exact ⟨f, by rw [pgsR_end this, List.append_nil]⟩
  | p :: l, pre, f, least, pos, 0, _, _, h, _, _, _, _ => by simp at h
  | p :: l, pre, f, least, pos, k + 1, hd, hpos, hk, hr, hl, hn, hq => by
    obtain ⟨a1, a2, a3⟩ := hl p (List.mem_cons_self ..)
    obtain ⟨b1, b2, b3, b4⟩ := hq p (List.mem_cons_self ..)
    rw [tabB_cons] at hd
    have hlen := congrArg List.length hd
    simp only [List.length_drop, List.length_append] at hlen
    have hp1 := num_pos p.1.toNat
    have hp2 := num_pos p.2.1
    have r1 := rd_num' (zs := tab) (p := pos) (n := p.1.toNat) (by omega) hd
    have hd2 : tab.drop (pos + (num p.1.toNat).length) = num p.2.1 ++ tabB l := by
      rw [← List.drop_drop, hd, List.drop_left]
    have r2 := rd_num' (zs := tab) (p := pos + (num p.1.toNat).length) (n := p.2.1) b3 hd2
    have hd3 : tab.drop (pos + (num p.1.toNat).length + (num p.2.1).length) = tabB l := by
      rw [← List.drop_drop, hd2, List.drop_left]
    have hld := ld_page (f := f) (id := 3 + 256 * p.1.toNat) b1 b2 b4
    have hpi : ((p.1.toNat : Nat) : Int) = p.1 := by omega
    have hlt : ∀ q ∈ pre, q.1 < p.1 := fun q hq' => (List.pairwise_append.1 hr).2.2 q hq' p (List.mem_cons_self ..)
    have hput : putL pre ((p.1.toNat : Nat) : Int) (p.2.1, p.2.2) = pre ++ [p] := by rw [hpi, putL_snoc _ _ hlt]
    have hr' : Rise ((pre ++ [p]) ++ l) := by simpa using hr
    have hrl : ∀ q ∈ l, p.1 < q.1 := by
      have := (List.pairwise_append.1 hr).2.1
      exact (List.pairwise_cons.1 this).1
    have hnd := List.nodup_cons.1 (by simpa using hn : (p.2.1 :: l.map (fun p => p.2.1)).Nodup)
    obtain ⟨f', ih⟩ := pgs_back d tab l (pre ++ [p]) (fun j => f j || j == p.2.1) (p.1.toNat + 1) _ k hd3 (by omega) (by simp at hk; omega) hr' (fun q hq' => by
      have h1 := hrl q hq'
      have h2 := hl q (List.mem_cons_of_mem _ hq')
      exact ⟨by omega, h2.2⟩) hnd.2 (fun q hq' => by
      obtain ⟨c1, c2, c3, c4⟩ := hq q (List.mem_cons_of_mem _ hq')
      have : q.2.1 ≠ p.2.1 := fun e => hnd.1 (List.mem_map.2 ⟨q, hq', e⟩)
      exact ⟨c1, by simp [c2, this], c3, c4⟩)
    refine ⟨f', ?_⟩
    rw [pgsR_go (by omega) r1 (by omega) r2 (by rw [hld]) k, hld]
    simp only
    rw [hput, ih]
    simp
/-- A disk holds what the store x has committed. -/
structure Hold (x : SS) (d : DS) : Prop where
  root : secN (d.sec x.sector) = rootB x.epoch (x.tabs.getD 0 0) x.tabs.length
  tabs : x.tabs.length = tabN (tabB x.com).length
  tab : ∀ j, j < x.tabs.length → unp (pgN d (x.tabs.getD j 0) 4) = some (2, layB (x.tabs.getD (j + 1) 0) 4 ++ ((tabB x.com).drop (112 * j)).take 112)
  page : ∀ p ∈ x.com, unp (pgN d p.2.1 4) = some (3 + 256 * p.1.toNat, p.2.2)
  pos : 0 < x.epoch
theorem chunks_all (l : List Nat) : ∀ (k m : Nat), l.length ≤ 112 * (k + m) → ((List.range m).map fun j => (l.drop (112 * (k + j))).take 112).flatten = l.drop (112 * k)
  | k, 0, h => by rw [List.drop_eq_nil_of_le (by omega)]; rfl
  | k, m + 1, h => by
    rw [List.range_succ_eq_map, List.map_cons, List.map_map, List.flatten_cons]
    have ih := chunks_all l (k + 1) m (by omega)
    have e : ((fun j => (l.drop (112 * (k + j))).take 112) ∘ Nat.succ) = fun j => (l.drop (112 * (k + 1 + j))).take 112 := by
      funext j
      simp only [Function.comp, Nat.succ_eq_add_one]
      rw [show k + (j + 1) = k + 1 + j by omega]
    rw [e, ih, Nat.add_zero, show 112 * (k + 1) = 112 * k + 112 by omega, ← List.drop_drop]
    exact List.take_append_drop 112 (l.drop (112 * k))
theorem cnt_tk (n : Nat) (h : 2 ≤ n) : cnt tk n + 2 = n := by
  induction n with
  | zero => omega
  | succ k ih =>
    simp only [cnt]
    by_cases hk : 2 ≤ k
    · have := ih hk
      have e : tk k = false := by unfold tk; simp; omega
      rw [e]
      simp
      omega
    · have : k = 1 := by omega
      subst this
      rfl
theorem load_of {d : DS} {q : Nat} {zs at_ tab : List Nat} {f' f'' : Nat → Bool} {m : Pgs} (hz : secN (d.sec q) = zs) (hok : rtOk zs = true) (htb : tbR d (cnt tk (d.n / 4) + 1) tk (rtF zs) [] [] = (f', some (at_, tab))) (hc : at_.length = rtC zs) (hpg : pgsR d tab (tab.length + 1) f' 0 0 [] = (f'', some m)) :
    loadR d q = some ⟨d.n / 4, rtE zs, q, at_, m, m⟩ := by
  subst hz
  unfold loadR
  rw [if_pos hok, htb]
  unfold loadP
  simp only
  rw [if_pos hc, hpg]
  rfl
/-- What a disk holds is what is loaded. -/
theorem load_back {x : SS} {d : DS} (hw : x.Wf) (hr : Rise x.com) (hn : d.n / 4 = x.size) (hnd : (x.com.map (fun p => p.2.1) ++ x.tabs).Nodup) (h : Hold x d) : loadR d x.sector = some { x with now := x.com } := by
  obtain ⟨hN1, hN2, hN3⟩ := List.pairwise_append.1 hnd
  have hsz := hw.size
  have ht0 : x.tabs.getD 0 0 < 4294967296 := by
    cases e : x.tabs with
    | nil => simp
    | cons a r => have := (hw.tabs.2 a (by rw [e]; exact List.mem_cons_self ..)).2; simp; omega
  obtain ⟨s1, s2, s3, s4⟩ := root_says x.epoch (x.tabs.getD 0 0) x.tabs.length hw.epoch ht0 (by have := hw.tabs.1; omega)
  have hlen : x.tabs.length + x.com.length + 2 ≤ x.size := by
    have := room_count hw hnd
    omega
  have hch := tb_chain d x.tabs ((List.range x.tabs.length).map fun j => ((tabB x.com).drop (112 * (0 + j))).take 112) tk [] [] (cnt tk (d.n / 4) + 1) (by simp) (by have := cnt_tk (d.n / 4) (by omega); omega) hN2 (fun t ht => by
    have := hw.tabs.2 t ht
    refine ⟨by omega, by omega, by unfold tk; simp; omega, by omega⟩) (fun j hj => by
    have e : ((List.range x.tabs.length).map fun j => ((tabB x.com).drop (112 * (0 + j))).take 112).getD j [] = ((tabB x.com).drop (112 * j)).take 112 := by simp [List.getD, hj]
    rw [e]
    exact h.tab j hj)
  rw [chunks_all (tabB x.com) 0 x.tabs.length (by have := h.tabs; unfold tabN at this; omega)] at hch
  simp only [Nat.mul_zero, List.drop_zero, List.nil_append] at hch
  obtain ⟨f', hpg⟩ := pgs_back d (tabB x.com) x.com [] (fun j => tk j || decide (j ∈ x.tabs)) 0 0 ((tabB x.com).length + 1) rfl (Nat.zero_le _) (by
      have : ∀ l : Pgs, l.length ≤ (tabB l).length := by
        intro l
        induction l with
        | nil => simp
        | cons q r ih => rw [tabB_cons]; have := num_pos q.1.toNat; simp only [List.length_append, List.length_cons]; omega
      have := this x.com
      omega) (by simpa using hr) (fun p hp => by have := (hw.com p hp).1; exact ⟨by omega, this⟩) hN1 (fun p hp => by
      have h1 := (hw.com p hp).2.1
      refine ⟨by omega, ?_, by omega, h.page p hp⟩
      have e1 : tk p.2.1 = false := by unfold tk; simp; omega
      have e2 : ¬ p.2.1 ∈ x.tabs := fun e => hN3 p.2.1 (List.mem_map.2 ⟨p, hp, rfl⟩) p.2.1 e rfl
      simp [e1, e2])
  have hz := h.root
  generalize rootB x.epoch (x.tabs.getD 0 0) x.tabs.length = zs at hz s1 s2 s3 s4
  have hok : rtOk zs = true := by
    rw [s4]
    have := h.pos
    simp
    omega
  rw [← s2] at hch
  have := load_of hz hok hch (s3.symm) hpg
  rw [s1, hn] at this
  exact this
end Go.Proofs.YtpoakkdkibameaaGreat
