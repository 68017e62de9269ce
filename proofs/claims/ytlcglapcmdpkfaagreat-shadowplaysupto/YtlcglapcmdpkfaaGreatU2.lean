import Derived.Test.YtlcglapcmdpkfaaGreatU1
import Derived.Maps.RangeWalk
namespace Go.Proofs.YtlcglapcmdpkfaaGreat
open Go.RowKit Go.Maps
set_option linter.unusedSimpArgs false
set_option linter.unusedVariables false
def usedF (x : SS) (j : Nat) : Bool := decide (j < 2) || x.com.any (fun p => p.2.1 == j) || x.tabs.any (fun t => t == j)
theorem RowAt.shape {W : World} {v : Value} {k : Nat} {f : Nat → Value} (h : RowAt W v k 1 f) : ∃ a c, v = .slice a k c ∧ ∀ j, j < k → ∃ g o, a = some ⟨g, o, none⟩ ∧ W.cell? ⟨g, o + j, none⟩ = some (f j) := by
 rcases h with ⟨rfl, h0⟩ | ⟨ad, c, rfl, hkc, hc⟩
 ·exact ⟨none, 0, by rw [h0], fun j hj => by omega⟩
 ·refine ⟨some ad, c, rfl, fun j hj => ?_⟩
  obtain ⟨g, o, c', hv, hc', _⟩ := RowAt.at (W := W) (f := f) (.inr ⟨ad, c, rfl, hkc, hc⟩) (by omega)
  simp only [Value.slice.injEq, Option.some.injEq] at hv
  obtain ⟨rfl, _, rfl⟩ := hv
  exact ⟨g, o, rfl, hc' j (by omega)⟩
theorem Only.grows {w w' : World} {g : Nat} (h : Only (fun k => k = g) w w') : w.grownBy w' (some g) := ⟨h.os, h.tape, h.output, h.size, fun i hi hne => h.block i hi (fun e => hne (by rw [e]))⟩
theorem Only.grows0 {w w' : World} (h : Only (fun _ => False) w w') : w.grownBy w' none := ⟨h.os, h.tape, h.output, h.size, fun i hi _ => h.block i hi (fun e => e)⟩
theorem at_key {l : List (Int × Value)} {k : Int} {v : Value} (h : ∀ zd, (DataW.map (entL l)).atKey (.int .i64 k) zd = .held v) : getL l k = some v := by
 have h1 := h (.held (.bool true))
 have h2 := h (.held (.bool false))
 rw [entL_at] at h1 h2
 cases e : getL l k with
 | none => rw [e] at h1 h2; simp at h1 h2; rw [← h1] at h2; cases h2
 | some u => rw [e] at h1; simp at h1; rw [h1]
set_option maxRecDepth 100000 in
set_option maxHeartbeats 4000000 in
theorem used_any {w : World} {dk : Nat → Prop} {s p mc mn : Nat} {tv : Value} {x : SS} (h : StAt w dk s p mc mn tv x) :
  Calls Tryz.prog 56 #[.pointer (some ⟨s, 0, none⟩)] w fun e w' => e = .returned (.slice (some ⟨w.heap.size, 0, none⟩) x.size x.size) ∧ FBlk w' w.heap.size x.size (usedF x) ∧ Only (fun _ => False) w w' := by
 have c1 := h.c1
 have HT : Hid (Calls Tryz.prog 81 _ _ _) := taken_any x.size (by have := h.wf.size; omega) h.wf.size.2 w
 have HS : Hid (StAt w dk s p mc mn tv x) := h
 have hsl := h.lt
 have hml := h.com.lt
 obtain ⟨sl, hm, hb⟩ := h.com
 have HB : Hid (∀ q ∈ x.com, BytesAt w (sl q.1) q.2.2 ∧ ∀ b, (sl q.1).ownBlock = some b → b < w.heap.size ∧ ¬ mutB dk s mc mn b) := hb
 have HM : Hid (MapAt w mc (x.com.map fun p => (p.1, pgV sl p))) := hm
 clear h hm hb
 go_enter Tryz.func56, Tryz.ntmps56
 go_wp2_with fail
 refine (show Calls Tryz.prog 81 _ _ _ from HT.out).mono ?_
 rintro e w1 ⟨rfl, hf1, ho1⟩
 have c5 := (HS.out.still ho1).c5
 have hm1 := HM.out.frame ho1 (fun e => e)
 have H1 : Hid (FBlk w1 w.heap.size x.size (fun j => decide (j < 2)) ∧ Only (fun _ => False) w w1) := ⟨hf1, ho1⟩
 have s1 : w.heap.size < w1.heap.size := hf1.lt
 clear HT hf1 ho1
 go_wp2_with (at_range; refine wpList_range_own _ rfl _ 77 rfl 3 82 map_keyed Tryz.underlying77 hv mc _ _ rfl hm1.own ?_; intro w2 hrg0 hg0 hs0)
 go_frame
 obtain ⟨r, hr⟩ : ∃ r, r = w1.heap.size := ⟨_, rfl⟩
 rw [← hr] at hrg0 hs0 ⊢
 clear hm1 c5
 obtain ⟨D, hD⟩ : ∃ D, D = (DataW.map (entL (x.com.map fun p => (p.1, pgV sl p)))) := ⟨_, rfl⟩
 rw [← hD, List.length_map] at hrg0
 have HR0 : Hid (r = w1.heap.size) := hr
 have HD : Hid (D = (DataW.map (entL (x.com.map fun p => (p.1, pgV sl p))))) := hD
 clear hr hD
 go_loopw [18] (fun _ wr => ∃ (left : Lit → Bool) (cnt : Nat) (f : Nat → Bool), wr.ranges Tryz.prog 3 hv mc r x.com.length D left cnt ∧ FBlk wr w.heap.size x.size f ∧
   (∀ j, f j = true ↔ j < 2 ∨ ∃ q ∈ x.com, q.2.1 = j ∧ left (.int .i64 q.1) = false) ∧ Only (fun _ => False) w wr)
  (fun _ wr => wr.rangeLeft mc r)
 case atStart =>
  refine ⟨_, _, fun j => decide (j < 2), hrg0, ?_, fun j => ?_, ?_⟩
  ·exact (hg0.block _ s1 (by simp)).trans H1.out.1
  ·simp only [decide_eq_true_eq]
   constructor
   ·exact .inl
   ·rintro (e | ⟨q, hq, _, e⟩)
    ·exact e
    ·rw [HD.out, entL_has, getL_map] at e
     cases hfind : x.com.find? fun p => p.1 == q.1 with
     | none =>
       have := List.find?_eq_none.1 hfind q hq
       simp at this
     | some q' => rw [hfind] at e; cases e
  ·exact H1.out.2.grown hg0 (fun k e _ => by cases e)
 case round =>
  obtain ⟨left, cnt, f, hrg, hfb, hff, ho⟩ := hrel
  obtain ⟨w9, rfl⟩ : ∃ w9, w9 = wr := ⟨_, rfl⟩
  have hfl := hfb.lt
  go_wp2_with (at_next; refine wpList_next_ranges _ rfl _ rfl 3 map_keyed hv (Value.int .i64) (fun v : Value => v) (fun key kl hk => by obtain ⟨z, hz, _⟩ := Maps.keyOf_int_inv Tryz.underlying3 hk; exact ⟨z, hz⟩) (fun v y _ => ⟨v, rfl⟩) mc r _ _ _ _ rfl hrg ?_ ?_)
  ·intro hc0 hl0
   have HF : Hid (FBlk w9 w.heap.size x.size (fun j => decide (j < 2) || x.com.any (fun p => p.2.1 == j))) := hfb.congr (fun j _ => by
    rw [Bool.eq_iff_iff, hff]
    simp only [Bool.or_eq_true, decide_eq_true_eq, List.any_eq_true, beq_iff_eq]
    constructor
    ·rintro (e | ⟨q, hq, e, _⟩)
     ·exact .inl e
     ·exact .inr ⟨q, hq, e⟩
    ·rintro (e | ⟨q, hq, e⟩)
     ·exact .inl e
     ·exact .inr ⟨q, hq, e, hl0 _⟩)
   have HO : Hid (Only (fun _ => False) w w9) := ho
   clear hrg hfb hff ho hc0 hl0
   have hst := HS.out.still HO.out
   have c4 := hst.c4
   obtain ⟨a4, n4, hv4, hc4⟩ := hst.tabs.shape
   have hl4 := hst.wf.tabs.1
   rw [hv4] at c4
   have HC4 : Hid (∀ j, j < x.tabs.length → ∃ g o, a4 = some ⟨g, o, none⟩ ∧ w9.cell? ⟨g, o + j, none⟩ = some (.int .i64 (x.tabs.getD j 0 : Nat))) := hc4
   have HB4 : Hid (∀ g o, a4 = some ⟨g, o, none⟩ → g < w.heap.size) := fun g o e => (HS.out.tabsB g (by rw [hv4, e]; rfl)).1
   clear hst hc4 hv4
   go_wp2
   go_loopw [31] (fun t w4 => ∃ k : Nat, k ≤ x.tabs.length ∧ t = .int .i64 k ∧ FBlk w4 w.heap.size x.size (fun j => decide (j < 2) || x.com.any (fun p => p.2.1 == j) || (x.tabs.take k).any (fun t => t == j)) ∧ Only (fun k => k = w.heap.size) w9 w4) (fun t _ => x.tabs.length - (intOf t).toNat)
   case atStart => exact ⟨0, by omega, rfl, FBlk.congr HF.out (fun j _ => by simp), Only.refl _ _⟩
   case round =>
    obtain ⟨k, hk, rfl, hfb, ho⟩ := hrel
    obtain ⟨w5, rfl⟩ : ∃ w5, w5 = wr := ⟨_, rfl⟩
    have HB5 : Hid (FBlk w5 w.heap.size x.size (fun j => decide (j < 2) || x.com.any (fun p => p.2.1 == j) || (x.tabs.take k).any (fun t => t == j))) := hfb
    have HO5 : Hid (Only (fun k => k = w.heap.size) w9 w5) := ho
    clear hfb ho
    by_cases hlt : k < x.tabs.length
    ·have k1 : (k : Int) < (x.tabs.length : Int) := by omega
     have k0 : (0 : Int) ≤ (k : Int) := by omega
     obtain ⟨g, o, rfl, hc0⟩ := HC4.out k hlt
     have hg := HB4.out g o rfl
     have hc1 : w5.cell? ⟨g, o + k, none⟩ = some (.int .i64 (x.tabs.getD k 0 : Nat)) := HO5.out.cell hc0 (by simp; omega)
     obtain ⟨t, ht⟩ : ∃ t, t = x.tabs.getD k 0 := ⟨_, rfl⟩
     have hmem : t ∈ x.tabs := by rw [ht]; simp [List.getD, hlt]
     obtain ⟨t0, t1⟩ := HS.out.wf.tabs.2 t hmem
     have HTk : Hid (x.tabs.take (k + 1) = x.tabs.take k ++ [t]) := (by rw [List.take_succ_eq_append_getElem hlt, ht]; simp [List.getD, hlt] : _ = _)
     rw [← ht] at hc1
     have a0 : (0 : Int) ≤ (t : Int) := by omega
     have a1 : (t : Int) < (x.size : Int) := by omega
     have hcc := HB5.out.cell t t1
     have hfz := HB5.out.frozen t
     obtain ⟨bt, hbt⟩ : ∃ b, b = (decide (t < 2) || x.com.any (fun p => p.2.1 == t) || (x.tabs.take k).any (fun u => u == t)) := ⟨_, rfl⟩
     rw [← hbt] at hcc
     have HN : Hid (FBlk (w5.setCell ⟨w.heap.size, t, none⟩ (.bool true)) w.heap.size x.size (fun j => decide (j < 2) || x.com.any (fun p => p.2.1 == j) || (x.tabs.take (k + 1)).any (fun t => t == j))) := (HB5.out.set t).congr (fun j _ => by
      rw [HTk.out, List.any_append]
      simp only [List.any_cons, List.any_nil, Bool.or_false, Bool.or_assoc]
      rw [show (j == t) = (t == j) from Bool.beq_comm ..])
     have HN2 : Hid (Only (fun k => k = w.heap.size) w9 (w5.setCell ⟨w.heap.size, t, none⟩ (.bool true))) := HO5.out.setCell _ _ (fun _ => rfl)
     clear HB5 HO5 hc0 ht hmem HTk hbt t0 t1
     go_wp2
     go_roundw
     case rel => exact ⟨k + 1, by omega, by go_num, HN.out, HN2.out⟩
     case measure => simp [intOf]; omega
    ·have e : k = x.tabs.length := by omega
     subst e
     have k1 : ¬ (x.tabs.length : Int) < (x.tabs.length : Int) := by omega
     clear c4
     go_wp2
     go_ret
     refine ⟨rfl, FBlk.congr HB5.out (fun j _ => by rw [List.take_length]; rfl), HO.out.trans HO5.out (fun k hk e => by omega)⟩
  ·intro z v kl yd yp w3 cnt3 hkey hlk hvv hat hrg3 hlt hg3 hs3 hen
   obtain ⟨z', hz', rfl, hzw⟩ := Maps.keyOf_int_inv Tryz.underlying3 hkey
   obtain rfl : z = z' := by injection hz'
   simp only [hv, Option.some.injEq, Prod.mk.injEq] at hvv
   obtain ⟨rfl, rfl⟩ := hvv
   rw [HD.out] at hat
   have hget := at_key hat
   rw [getL_map] at hget
   cases hfind : x.com.find? fun p => p.1 == z with
   | none => rw [hfind] at hget; cases hget
   | some q =>
     rw [hfind] at hget
     simp only [Option.map_some, Option.some.injEq] at hget
     obtain ⟨hq1, rfl⟩ := find_key hfind
     obtain ⟨ad, n, c, hsl'⟩ := bytes_slice (HB.out q hq1).1
     obtain rfl : v = .agg #[.int .i64 (q.2.1 : Nat), .slice ad n c] := by rw [← hget, pgV, hsl']
     obtain ⟨hk1, ⟨ha1, ha2⟩, _⟩ := HS.out.wf.com q hq1
     have a0 : (0 : Int) ≤ (q.2.1 : Int) := by omega
     have a1 : (q.2.1 : Int) < (x.size : Int) := by omega
     have hgr : w.heap.size ≠ r := by have := HR0.out; omega
     have hf3 : FBlk w3 w.heap.size x.size f := (hg3.block _ hfl (by simpa using hgr)).trans hfb
     obtain ⟨wp, hwp⟩ : ∃ t, t = w3.alloc (.cells #[.int .i64 (q.2.1 : Nat), .slice ad n c] 82) := ⟨_, rfl⟩
     have op3 : Only (fun _ => False) w3 wp := by rw [hwp]; exact (Only.refl _ w3).alloc _
     have hfp := hf3.frame op3 (fun e => e)
     have hcc := hfp.cell q.2.1 (by omega)
     have hfz := hfp.frozen q.2.1
     rw [hwp] at hcc hfz
     have oS : Only (fun k => k = w.heap.size) wp (wp.setCell ⟨w.heap.size, q.2.1, none⟩ (.bool true)) := (Only.refl _ wp).setCell _ _ (fun _ => rfl)
     have HR : Hid (∀ w4, w4 = (w3.alloc (.cells #[.int .i64 (q.2.1 : Nat), .slice ad n c] 82)).setCell ⟨w.heap.size, q.2.1, none⟩ (.bool true) →
       w4.ranges Tryz.prog 3 hv mc r x.com.length D (fun z => left z && !z.sameKey (.int .i64 q.1)) cnt3 ∧ FBlk w4 w.heap.size x.size (fun j => f j || j == q.2.1) ∧ Only (fun _ => False) w w4 ∧
       (∀ j, (f j || j == q.2.1) = true ↔ j < 2 ∨ ∃ q' ∈ x.com, q'.2.1 = j ∧ (left (.int .i64 q'.1) && !(Lit.int .i64 q'.1).sameKey (.int .i64 q.1)) = false)) := by
      rintro w4 rfl
      rw [← hwp]
      refine ⟨((hrg3.kept op3.grows0 (by simp) (by simp)).kept oS.grows (by simp; omega) (by simp; exact fun e => hgr e.symm)), hfp.set q.2.1, ?_, fun j => ?_⟩
      ·exact ((ho.grown hg3 (fun k e hk => by injection e with e; have := HR0.out; omega)).trans op3 (fun _ _ e => e)).trans oS (fun k hk e => by omega)
      ·rw [Bool.or_eq_true, hff, beq_iff_eq]
       constructor
       ·rintro ((e | ⟨q', hq', e, e'⟩) | e)
        ·exact .inl e
        ·exact .inr ⟨q', hq', e, by rw [e']; rfl⟩
        ·exact .inr ⟨q, hq1, e.symm, by rw [sameKey_int]; simp⟩
       ·rintro (e | ⟨q', hq', e, e'⟩)
        ·exact .inl (.inl e)
        ·rw [sameKey_int] at e'
         by_cases ek : q'.1 = q.1
         ·have hr' : q' = q := by
           have g1 := (getL_mem HS.out.com.rise q'.1 q'.2).2 hq'
           have g2 := (getL_mem HS.out.com.rise q.1 q.2).2 hq1
           rw [ek, g2] at g1
           injection g1 with g1
           exact Prod.ext ek g1.symm
          subst hr'
          exact .inr e.symm
         ·have : (q'.1 == q.1) = false := by simpa using ek
          rw [this] at e'
          exact .inl (.inr ⟨q', hq', e, by simpa using e'⟩)
     have HL : Hid (w9.rangeLeft mc r = cnt) := hrg.left_eq
     have HLT : Hid _ := hlt
     clear hg3 hs3 hrg3 hfb hff ho hrg hlt hat hget hf3 oS op3 hfp hwp hkey hlk hz' hsl' hfind hk1
     go_wp2
     go_roundw
     case rel =>
      obtain ⟨g1, g2, g3, g4⟩ := HR.out _ rfl
      exact ⟨_, cnt3, _, g1, g2, g4, g3⟩
     case measure =>
      obtain ⟨g1, _⟩ := HR.out _ rfl
      rw [g1.left_eq, HL.out]
      exact HLT.out
end Go.Proofs.YtlcglapcmdpkfaaGreat
