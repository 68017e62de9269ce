/- Flags in a block; what taken answers. What used answers. Bytes that are appended to; what head and dataID answer. Lists of bytes that lie apart; a book of two. Laws for single operations within a fence, and a region without calls within a round; what slices.Backward's closure hands to a loop's body. A region that draws its order and holds calls, within a round of a loop over a function. slices.Values of numbers: its closure gives them in their order, to every loop body that keeps the block in which they lie. -/
import Derived.Test.YtpoakkdkibameabGae
import Derived.Maps.RangeWalk
import Derived.Test.YtpoakkdkibameabGab
import Derived.Test.YtpoakkdkibameabGaa
import Derived.Test.YtpoakkdkibameabGad
import Derived.RangeFuncNested
import Derived.RangeFuncBound
import Derived.RangeFuncCalls
import Derived.RangeFuncLeaves
import Derived.Shelf.Abstract
import Derived.Shelf.RegionOpen
import Derived.OwnWalkIn
import Derived.TacticsInMore
import Derived.LoopNIn
import Derived.LoopIn
import Derived.RangeFuncBox
namespace Go.Proofs.Ytpoakkdkibameab
open Go.RowKit Go.Maps
set_option linter.unusedSimpArgs false
set_option linter.unusedVariables false

/-- n flags. -/
def flF (n : Nat) (f : Nat → Bool) : List Bool := (List.range n).map f
theorem flF_length (n : Nat) (f : Nat → Bool) : (flF n f).length = n := by simp [flF]
theorem flF_getD (n : Nat) (f : Nat → Bool) (j : Nat) (h : j < n) : (flF n f).getD j false = f j := by simp [flF, List.getD, h]
theorem flF_set (n : Nat) (f : Nat → Bool) (k : Nat) : (flF n f).set k true = flF n (fun j => f j || j == k) := by
  apply List.ext_getElem
  · simp [flF]
  · intro i h1 h2
    simp [flF] at h1
    rw [List.getElem_set]
    by_cases e : k = i
    · subst e; simp [flF]
    · simp [flF, e, Ne.symm e]
/-- The block g holds n flags. -/
def FBlk (w : World) (g n : Nat) (f : Nat → Bool) : Prop := w.heap[g]? = some (.cells ((flF n f).map Value.bool).toArray 4 (0, 0))
theorem FBlk.lt {w : World} {g n : Nat} {f : Nat → Bool} (h : FBlk w g n f) : g < w.heap.size := (Array.getElem?_eq_some_iff.1 h).1
theorem FBlk.frame {w w' : World} {g n : Nat} {f : Nat → Bool} {bs : Nat → Prop} (h : FBlk w g n f) (ho : Only bs w w') (hn : ¬ bs g) : FBlk w' g n f := (ho.block g h.lt hn).trans h
theorem FBlk.cell {w : World} {g n : Nat} {f : Nat → Bool} (h : FBlk w g n f) (j : Nat) (hj : j < n) : w.cell? ⟨g, j, none⟩ = some (.bool (f j)) := by
  rw [cell_of_row _ _ _ _ _ _ h]
  simp [flF, hj]
theorem FBlk.frozen {w : World} {g n : Nat} {f : Nat → Bool} (h : FBlk w g n f) (j : Nat) : w.frozen? ⟨g, j, none⟩ = false := frozen_of_row _ _ _ _ _ h
theorem FBlk.set {w : World} {g n : Nat} {f : Nat → Bool} (h : FBlk w g n f) (k : Nat) : FBlk (w.setCell ⟨g, k, none⟩ (.bool true)) g n (fun j => f j || j == k) := by
  unfold FBlk
  rw [heap_setCell_same w g k _ _ _ h, ← flF_set]
  congr 2
  simp [List.map_set]
theorem FBlk.flags {w : World} {g n : Nat} {f : Nat → Bool} (h : FBlk w g n f) (hn : n ≤ 140737488351232) : FlagsAt w (.slice (some ⟨g, 0, none⟩) n n) (flF n f) := by
  refine ⟨.inr ⟨⟨g, 0, none⟩, n, by rw [flF_length], by rw [flF_length]; exact Nat.le_refl _, fun j hj => ?_⟩, by rw [flF_length]; exact hn⟩
  rw [flF_length] at hj
  rw [Addr.add_mid, Nat.zero_add, h.cell j (by omega)]
  show some (Value.bool (f j)) = some (Value.bool ((flF n f).getD j false))
  rw [flF_getD n f j (by omega)]
theorem FBlk.congr {w : World} {g n : Nat} {f f' : Nat → Bool} (h : FBlk w g n f) (e : ∀ j, j < n → f j = f' j) : FBlk w g n f' := by
  have : flF n f = flF n f' := by
    unfold flF
    apply List.map_congr_left
    intro j hj
    exact e j (List.mem_range.1 hj)
  unfold FBlk
  rw [← this]
  exact h
theorem made_fl (n : Nat) : madeCells (Value.bool false).cells n = ((flF n (fun _ => false)).map Value.bool).toArray := by
  apply Array.ext_getElem?
  intro i
  by_cases hi : i < n
  · simp [madeCells, hi, flF, Value.cells, Nat.mod_one]
  · rw [Array.getElem?_eq_none (by simp [madeCells]; omega), Array.getElem?_eq_none (by simp [flF]; omega)]
theorem make_fl (n : Nat) (hn : n ≤ 140737488351232) (w : World) : (Instr.makeSlice 81 (.int .i64 n) (.int .i64 n)).run Try.prog w = .ok (.slice (some ⟨w.heap.size, 0, none⟩) n n) (w.alloc (.cells ((flF n (fun _ => false)).map Value.bool).toArray 4)) := by
  obtain ⟨i0, hi0, hz0, hz1, hz2⟩ := info_parts info4
  have h := run_make (P := Try.prog) w 81 4 i0 _ Try.underlying81 hi0 hz0 .i64 .i64 n n (by omega) (Int.le_refl _) (by rw [hz2]; omega) (by omega)
  rw [hz1, Int.toNat_natCast, Nat.mul_one] at h
  rw [← made_fl]
  exact h

set_option maxRecDepth 100000 in
set_option maxHeartbeats 2000000 in
theorem taken_any (n : Nat) (hn : 2 ≤ n) (hn2 : n ≤ 2048) (w : World) :
    Calls Try.prog 55 #[.int .i64 n] w fun e w' => e = .returned (.slice (some ⟨w.heap.size, 0, none⟩) n n) ∧ FBlk w' w.heap.size n (fun j => decide (j < 2)) ∧ Only (fun _ => False) w w' := by
  obtain ⟨Z, hZ⟩ : ∃ Z, Z = ((flF n (fun _ => false)).map Value.bool).toArray := ⟨_, rfl⟩
  have hmk : (Instr.makeSlice 81 (.int .i64 n) (.int .i64 n)).run Try.prog w = .ok (.slice (some ⟨w.heap.size, 0, none⟩) n n) (w.alloc (.cells Z 4)) := by rw [hZ]; exact make_fl n (by omega) w
  have HB : Hid (FBlk (w.alloc (.cells Z 4)) w.heap.size n (fun _ => false)) := by rw [hZ]; exact heap_alloc_new w _
  have n0 : (0 : Int) < n := by omega
  have n1 : (1 : Int) < n := by omega
  clear hZ
  go_enter Try.func55, Try.ntmps55
  go_wp2
  clear hmk
  obtain ⟨wa, hwa⟩ : ∃ q, q = w.alloc (.cells Z 4) := ⟨_, rfl⟩
  have HO : Hid (Only (fun k => k = w.heap.size) w wa) := by rw [hwa]; exact ((Only.refl _ w).alloc _)
  rw [← hwa] at HB ⊢
  clear hwa
  go_loopw [7] (fun t wr => ∃ k : Int, (k = 0 ∨ k = 1 ∨ k = 2) ∧ t = .int .i64 k ∧ FBlk wr w.heap.size n (fun j => decide ((j : Int) < k)) ∧ Only (fun k => k = w.heap.size) w wr) (fun t _ => 2 - (intOf t).toNat)
  case atStart => exact ⟨0, .inl rfl, rfl, HB.out.congr (fun j _ => by rw [Bool.eq_iff_iff]; simp), HO.out⟩
  case round =>
    clear HB HO
    obtain ⟨k, hk, rfl, hb, ho⟩ := hrel
    obtain ⟨w2, rfl⟩ : ∃ w2, w2 = wr := ⟨_, rfl⟩
    have HB : Hid _ := hb
    have HO : Hid _ := ho
    rcases hk with rfl | rfl | rfl
    · have hc := hb.cell 0 (by omega)
      have hf := hb.frozen 0
      have HN : Hid (FBlk (w2.setCell ⟨w.heap.size, 0, none⟩ (.bool true)) w.heap.size n (fun j => decide ((j : Int) < 1))) := (hb.set 0).congr (fun j _ => by rw [Bool.eq_iff_iff]; simp; omega)
      have HN2 : Hid (Only (fun k => k = w.heap.size) w (w2.setCell ⟨w.heap.size, 0, none⟩ (.bool true))) := ho.setCell _ _ (fun _ => rfl)
      clear hb ho
      go_wp2
      go_roundw
      case rel => exact ⟨1, .inr (.inl rfl), by go_num, HN.out, HN2.out⟩
      case measure => simp [intOf]
    · have hc := hb.cell 1 (by omega)
      have hf := hb.frozen 1
      have HN : Hid (FBlk (w2.setCell ⟨w.heap.size, 1, none⟩ (.bool true)) w.heap.size n (fun j => decide ((j : Int) < 2))) := (hb.set 1).congr (fun j _ => by rw [Bool.eq_iff_iff]; simp; omega)
      have HN2 : Hid (Only (fun k => k = w.heap.size) w (w2.setCell ⟨w.heap.size, 1, none⟩ (.bool true))) := ho.setCell _ _ (fun _ => rfl)
      clear hb ho
      go_wp2
      go_roundw
      case rel => exact ⟨2, .inr (.inr rfl), by go_num, HN.out, HN2.out⟩
      case measure => simp [intOf]
    · clear hb ho
      go_wp2
      go_ret
      exact ⟨rfl, FBlk.congr HB.out (fun j _ => by rw [Bool.eq_iff_iff]; simp; omega), Only.mono HO.out (fun k hk e => by omega)⟩
end Go.Proofs.Ytpoakkdkibameab
namespace Go.Proofs.Ytpoakkdkibameab
open Go.RowKit Go.Maps
set_option linter.unusedSimpArgs false
set_option linter.unusedVariables false

/-- Which pages are roots', or in use by the committed root. -/
def usedF (x : SS) (j : Nat) : Bool := decide (j < 2) || x.com.any (fun p => p.2.1 == j) || x.tabs.any (fun t => t == j)
theorem RowAt.shape {W : World} {v : Value} {k : Nat} {f : Nat → Value} (h : RowAt W v k 1 f) : ∃ a c, v = .slice a k c ∧ ∀ j, j < k → ∃ g o, a = some ⟨g, o, none⟩ ∧ W.cell? ⟨g, o + j, none⟩ = some (f j) := by
  rcases h with ⟨rfl, h0⟩ | ⟨ad, c, rfl, hkc, hc⟩
  · exact ⟨none, 0, by rw [h0], fun j hj => by omega⟩
  · refine ⟨some ad, c, rfl, fun j hj => ?_⟩
    obtain ⟨g, o, c', hv, hc', _⟩ := RowAt.at (W := W) (f := f) (.inr ⟨ad, c, rfl, hkc, hc⟩) (by omega)
    simp only [Value.slice.injEq, Option.some.injEq] at hv
    obtain ⟨rfl, _, rfl⟩ := hv
    exact ⟨g, o, rfl, hc' j (by omega)⟩
theorem Only.grows {w w' : World} {g : Nat} (h : Only (fun k => k = g) w w') : w.grownBy w' (some g) := ⟨h.os, h.tape, h.output, h.size, fun i hi hne => h.block i hi (fun e => hne (by rw [e]))⟩
theorem Only.grows0 {w w' : World} (h : Only (fun _ => False) w w') : w.grownBy w' none := ⟨h.os, h.tape, h.output, h.size, fun i hi _ => h.block i hi (fun e => e)⟩
/-- What stands at a key. -/
theorem at_key {l : List (Int × Value)} {k : Int} {v : Value} (h : ∀ zd, (DataW.map (entL l)).atKey (.int .i64 k) zd = .held v) : getL l k = some v := by
  have h1 := h (.held (.bool true))
  have h2 := h (.held (.bool false))
  rw [entL_at] at h1 h2
  cases e : getL l k with
  | none => rw [e] at h1 h2; simp at h1 h2; rw [← h1] at h2; cases h2
  | some u => rw [e] at h1; simp at h1; rw [h1]

set_option maxRecDepth 100000 in
set_option maxHeartbeats 4000000 in
theorem used_any {w : World} {dk : Nat → Prop} {s p mc mn : Nat} {tv : Value} {x : SS} (h : StAt w dk s p mc mn tv x) :
    Calls Try.prog 37 #[.pointer (some ⟨s, 0, none⟩)] w fun e w' => e = .returned (.slice (some ⟨w.heap.size, 0, none⟩) x.size x.size) ∧ FBlk w' w.heap.size x.size (usedF x) ∧ Only (fun _ => False) w w' := by
  have c1 := h.c1
  have HT : Hid (Calls Try.prog 55 _ _ _) := taken_any x.size (by have := h.wf.size; omega) h.wf.size.2 w
  have HS : Hid (StAt w dk s p mc mn tv x) := h
  have hsl := h.lt
  have hml := h.com.lt
  obtain ⟨sl, hm, hb⟩ := h.com
  have HB : Hid (∀ q ∈ x.com, BytesAt w (sl q.1) q.2.2 ∧ ∀ b, (sl q.1).ownBlock = some b → b < w.heap.size ∧ ¬ mutB dk s mc mn b) := hb
  have HM : Hid (MapAt w mc (x.com.map fun p => (p.1, pgV sl p))) := hm
  clear h hm hb
  go_enter Try.func37, Try.ntmps37
  go_wp2_with fail
  refine (show Calls Try.prog 55 _ _ _ from HT.out).mono ?_
  rintro e w1 ⟨rfl, hf1, ho1⟩
  have c5 := (HS.out.still ho1).c5
  have hm1 := HM.out.frame ho1 (fun e => e)
  have H1 : Hid (FBlk w1 w.heap.size x.size (fun j => decide (j < 2)) ∧ Only (fun _ => False) w w1) := ⟨hf1, ho1⟩
  have s1 : w.heap.size < w1.heap.size := hf1.lt
  clear HT hf1 ho1
  go_wp2_with (at_range; refine wpList_range_own _ rfl _ 59 rfl 3 58 map_keyed Try.underlying59 hv mc _ _ rfl hm1.own ?_; intro w2 hrg0 hg0 hs0)
  go_frame
  obtain ⟨r, hr⟩ : ∃ r, r = w1.heap.size := ⟨_, rfl⟩
  rw [← hr] at hrg0 hs0 ⊢
  clear hm1 c5
  obtain ⟨D, hD⟩ : ∃ D, D = (DataW.map (entL (x.com.map fun p => (p.1, pgV sl p)))) := ⟨_, rfl⟩
  rw [← hD, List.length_map] at hrg0
  have HR0 : Hid (r = w1.heap.size) := hr
  have HD : Hid (D = (DataW.map (entL (x.com.map fun p => (p.1, pgV sl p))))) := hD
  clear hr hD
  go_loopw [18] (fun _ wr => ∃ (left : Lit → Bool) (cnt : Nat) (f : Nat → Bool), wr.ranges Try.prog 3 hv mc r x.com.length D left cnt ∧ FBlk wr w.heap.size x.size f ∧
      (∀ j, f j = true ↔ j < 2 ∨ ∃ q ∈ x.com, q.2.1 = j ∧ left (.int .i64 q.1) = false) ∧ Only (fun _ => False) w wr)
    (fun _ wr => wr.rangeLeft mc r)
  case atStart =>
    refine ⟨_, _, fun j => decide (j < 2), hrg0, ?_, fun j => ?_, ?_⟩
    · exact (hg0.block _ s1 (by simp)).trans H1.out.1
    · simp only [decide_eq_true_eq]
      constructor
      · exact .inl
      · rintro (e | ⟨q, hq, _, e⟩)
        · exact e
        · rw [HD.out, entL_has, getL_map] at e
          cases hfind : x.com.find? fun p => p.1 == q.1 with
          | none =>
            have := List.find?_eq_none.1 hfind q hq
            simp at this
          | some q' => rw [hfind] at e; cases e
    · exact H1.out.2.grown hg0 (fun k e _ => by cases e)
  case round =>
    obtain ⟨left, cnt, f, hrg, hfb, hff, ho⟩ := hrel
    obtain ⟨w9, rfl⟩ : ∃ w9, w9 = wr := ⟨_, rfl⟩
    have hfl := hfb.lt
    go_wp2_with (at_next; refine wpList_next_ranges _ rfl _ rfl 3 map_keyed hv (Value.int .i64) (fun v : Value => v) (fun key kl hk => by obtain ⟨z, hz, _⟩ := Maps.keyOf_int_inv Try.underlying3 hk; exact ⟨z, hz⟩) (fun v y _ => ⟨v, rfl⟩) mc r _ _ _ _ rfl hrg ?_ ?_)
    · intro hc0 hl0
      have HF : Hid (FBlk w9 w.heap.size x.size (fun j => decide (j < 2) || x.com.any (fun p => p.2.1 == j))) := hfb.congr (fun j _ => by
        rw [Bool.eq_iff_iff, hff]
        simp only [Bool.or_eq_true, decide_eq_true_eq, List.any_eq_true, beq_iff_eq]
        constructor
        · rintro (e | ⟨q, hq, e, _⟩)
          · exact .inl e
          · exact .inr ⟨q, hq, e⟩
        · rintro (e | ⟨q, hq, e⟩)
          · exact .inl e
          · exact .inr ⟨q, hq, e, hl0 _⟩)
      have HO : Hid (Only (fun _ => False) w w9) := ho
      clear hrg hfb hff ho hc0 hl0
      have hst := HS.out.still HO.out
      have c4 := hst.c4
      obtain ⟨a4, n4, hv4, hc4⟩ := hst.tabs.shape
      have hl4 := hst.wf.tabs.1
      rw [hv4] at c4
      have HC4 : Hid (∀ j, j < x.tabs.length → ∃ g o, a4 = some ⟨g, o, none⟩ ∧ w9.cell? ⟨g, o + j, none⟩ = some (.int .i64 (x.tabs.getD j 0 : Nat))) := hc4
      have HB4 : Hid (∀ g o, a4 = some ⟨g, o, none⟩ → g < w.heap.size) := fun g o e => (HS.out.tabsB g (by rw [hv4, e]; rfl)).1
      clear hst hc4 hv4
      go_wp2
      go_loopw [31] (fun t w4 => ∃ k : Nat, k ≤ x.tabs.length ∧ t = .int .i64 k ∧ FBlk w4 w.heap.size x.size (fun j => decide (j < 2) || x.com.any (fun p => p.2.1 == j) || (x.tabs.take k).any (fun t => t == j)) ∧ Only (fun k => k = w.heap.size) w9 w4) (fun t _ => x.tabs.length - (intOf t).toNat)
      case atStart => exact ⟨0, by omega, rfl, FBlk.congr HF.out (fun j _ => by simp), Only.refl _ _⟩
      case round =>
        obtain ⟨k, hk, rfl, hfb, ho⟩ := hrel
        obtain ⟨w5, rfl⟩ : ∃ w5, w5 = wr := ⟨_, rfl⟩
        have HB5 : Hid (FBlk w5 w.heap.size x.size (fun j => decide (j < 2) || x.com.any (fun p => p.2.1 == j) || (x.tabs.take k).any (fun t => t == j))) := hfb
        have HO5 : Hid (Only (fun k => k = w.heap.size) w9 w5) := ho
        clear hfb ho
        by_cases hlt : k < x.tabs.length
        · have k1 : (k : Int) < (x.tabs.length : Int) := by omega
          have k0 : (0 : Int) ≤ (k : Int) := by omega
          obtain ⟨g, o, rfl, hc0⟩ := HC4.out k hlt
          have hg := HB4.out g o rfl
          have hc1 : w5.cell? ⟨g, o + k, none⟩ = some (.int .i64 (x.tabs.getD k 0 : Nat)) := HO5.out.cell hc0 (by simp; omega)
          obtain ⟨t, ht⟩ : ∃ t, t = x.tabs.getD k 0 := ⟨_, rfl⟩
          have hmem : t ∈ x.tabs := by rw [ht]; simp [List.getD, hlt]
          obtain ⟨t0, t1⟩ := HS.out.wf.tabs.2 t hmem
          have HTk : Hid (x.tabs.take (k + 1) = x.tabs.take k ++ [t]) := (by rw [List.take_succ_eq_append_getElem hlt, ht]; simp [List.getD, hlt] : _ = _)
          rw [← ht] at hc1
          have a0 : (0 : Int) ≤ (t : Int) := by omega
          have a1 : (t : Int) < (x.size : Int) := by omega
          have hcc := HB5.out.cell t t1
          have hfz := HB5.out.frozen t
          obtain ⟨bt, hbt⟩ : ∃ b, b = (decide (t < 2) || x.com.any (fun p => p.2.1 == t) || (x.tabs.take k).any (fun u => u == t)) := ⟨_, rfl⟩
          rw [← hbt] at hcc
          have HN : Hid (FBlk (w5.setCell ⟨w.heap.size, t, none⟩ (.bool true)) w.heap.size x.size (fun j => decide (j < 2) || x.com.any (fun p => p.2.1 == j) || (x.tabs.take (k + 1)).any (fun t => t == j))) := (HB5.out.set t).congr (fun j _ => by
            rw [HTk.out, List.any_append]
            simp only [List.any_cons, List.any_nil, Bool.or_false, Bool.or_assoc]
            rw [show (j == t) = (t == j) from Bool.beq_comm ..])
          have HN2 : Hid (Only (fun k => k = w.heap.size) w9 (w5.setCell ⟨w.heap.size, t, none⟩ (.bool true))) := HO5.out.setCell _ _ (fun _ => rfl)
          clear HB5 HO5 hc0 ht hmem HTk hbt t0 t1
          go_wp2
          go_roundw
          case rel => exact ⟨k + 1, by omega, by go_num, HN.out, HN2.out⟩
          case measure => simp [intOf]; omega
        · have e : k = x.tabs.length := by omega
          subst e
          have k1 : ¬ (x.tabs.length : Int) < (x.tabs.length : Int) := by omega
          clear c4
          go_wp2
          go_ret
          refine ⟨rfl, FBlk.congr HB5.out (fun j _ => by rw [List.take_length]; rfl), HO.out.trans HO5.out (fun k hk e => by omega)⟩
    · intro z v kl yd yp w3 cnt3 hkey hlk hvv hat hrg3 hlt hg3 hs3 hen
      obtain ⟨z', hz', rfl, hzw⟩ := Maps.keyOf_int_inv Try.underlying3 hkey
      obtain rfl : z = z' := by injection hz'
      simp only [hv, Option.some.injEq, Prod.mk.injEq] at hvv
      obtain ⟨rfl, rfl⟩ := hvv
      rw [HD.out] at hat
      have hget := at_key hat
      rw [getL_map] at hget
      cases hfind : x.com.find? fun p => p.1 == z with
      | none => rw [hfind] at hget; cases hget
      | some q =>
        rw [hfind] at hget
        simp only [Option.map_some, Option.some.injEq] at hget
        obtain ⟨hq1, rfl⟩ := find_key hfind
        obtain ⟨ad, n, c, hsl'⟩ := bytes_slice (HB.out q hq1).1
        obtain rfl : v = .agg #[.int .i64 (q.2.1 : Nat), .slice ad n c] := by rw [← hget, pgV, hsl']
        obtain ⟨hk1, ⟨ha1, ha2⟩, _⟩ := HS.out.wf.com q hq1
        have a0 : (0 : Int) ≤ (q.2.1 : Int) := by omega
        have a1 : (q.2.1 : Int) < (x.size : Int) := by omega
        have hgr : w.heap.size ≠ r := by have := HR0.out; omega
        have hf3 : FBlk w3 w.heap.size x.size f := (hg3.block _ hfl (by simpa using hgr)).trans hfb
        obtain ⟨wp, hwp⟩ : ∃ t, t = w3.alloc (.cells #[.int .i64 (q.2.1 : Nat), .slice ad n c] 58) := ⟨_, rfl⟩
        have op3 : Only (fun _ => False) w3 wp := by rw [hwp]; exact (Only.refl _ w3).alloc _
        have hfp := hf3.frame op3 (fun e => e)
        have hcc := hfp.cell q.2.1 (by omega)
        have hfz := hfp.frozen q.2.1
        rw [hwp] at hcc hfz
        have oS : Only (fun k => k = w.heap.size) wp (wp.setCell ⟨w.heap.size, q.2.1, none⟩ (.bool true)) := (Only.refl _ wp).setCell _ _ (fun _ => rfl)
        have HR : Hid (∀ w4, w4 = (w3.alloc (.cells #[.int .i64 (q.2.1 : Nat), .slice ad n c] 58)).setCell ⟨w.heap.size, q.2.1, none⟩ (.bool true) →
            w4.ranges Try.prog 3 hv mc r x.com.length D (fun z => left z && !z.sameKey (.int .i64 q.1)) cnt3 ∧ FBlk w4 w.heap.size x.size (fun j => f j || j == q.2.1) ∧ Only (fun _ => False) w w4 ∧
            (∀ j, (f j || j == q.2.1) = true ↔ j < 2 ∨ ∃ q' ∈ x.com, q'.2.1 = j ∧ (left (.int .i64 q'.1) && !(Lit.int .i64 q'.1).sameKey (.int .i64 q.1)) = false)) := by
          rintro w4 rfl
          rw [← hwp]
          refine ⟨((hrg3.kept op3.grows0 (by simp) (by simp)).kept oS.grows (by simp; omega) (by simp; exact fun e => hgr e.symm)), hfp.set q.2.1, ?_, fun j => ?_⟩
          · exact ((ho.grown hg3 (fun k e hk => by injection e with e; have := HR0.out; omega)).trans op3 (fun _ _ e => e)).trans oS (fun k hk e => by omega)
          · rw [Bool.or_eq_true, hff, beq_iff_eq]
            constructor
            · rintro ((e | ⟨q', hq', e, e'⟩) | e)
              · exact .inl e
              · exact .inr ⟨q', hq', e, by rw [e']; rfl⟩
              · exact .inr ⟨q, hq1, e.symm, by rw [sameKey_int]; simp⟩
            · rintro (e | ⟨q', hq', e, e'⟩)
              · exact .inl (.inl e)
              · rw [sameKey_int] at e'
                by_cases ek : q'.1 = q.1
                · have hr' : q' = q := by
                    have g1 := (getL_mem HS.out.com.rise q'.1 q'.2).2 hq'
                    have g2 := (getL_mem HS.out.com.rise q.1 q.2).2 hq1
                    rw [ek, g2] at g1
                    injection g1 with g1
                    exact Prod.ext ek g1.symm
                  subst hr'
                  exact .inr e.symm
                · have : (q'.1 == q.1) = false := by simpa using ek
                  rw [this] at e'
                  exact .inl (.inr ⟨q', hq', e, by simpa using e'⟩)
        have HL : Hid (w9.rangeLeft mc r = cnt) := hrg.left_eq
        have HLT : Hid _ := hlt
        clear hg3 hs3 hrg3 hfb hff ho hrg hlt hat hget hf3 oS op3 hfp hwp hkey hlk hz' hsl' hfind hk1
        go_wp2
        go_roundw
        case rel =>
          obtain ⟨g1, g2, g3, g4⟩ := HR.out _ rfl
          exact ⟨_, cnt3, _, g1, g2, g4, g3⟩
        case measure =>
          obtain ⟨g1, _⟩ := HR.out _ rfl
          rw [g1.left_eq, HL.out]
          exact HLT.out
end Go.Proofs.Ytpoakkdkibameab
namespace Go.Proofs.Ytpoakkdkibameab
open Go.RowKit
set_option linter.unusedSimpArgs false
set_option linter.unusedVariables false

theorem Fresh.nil (w : World) (B : Nat) : Fresh w B (.slice none 0 0) [] := ⟨World.ownsRow_nil _ _ _ _, by simp, fun z h => by cases h⟩
theorem own_lt {w : World} {B : Nat} {v : Value} {zs : List Nat} (h : Fresh w B v zs) (b : Nat) (hb : v.ownBlock = some b) : B ≤ b ∧ b < w.heap.size := h.1.lt b hb
/-- append(v, u...) where v was made since B. -/
theorem app_fresh {w : World} {B : Nat} {v u : Value} {zs ys : List Nat} (h : Fresh w B v zs) (hu : BytesAt w u ys) (hB : B ≤ w.heap.size) (hl : zs.length + ys.length ≤ 140737488355328) :
    ∃ a cap w', (∀ ty, (Builtin.append_ #[23, 23] ty #[v, u]).run Try.prog w = .ok (.slice a (zs.length + ys.length) cap) w') ∧ Fresh w' B (.slice a (zs.length + ys.length) cap) (zs ++ ys) ∧ Only (fun i => B ≤ i) w w' := by
  obtain ⟨i0, hi0, hz0, hz1, hz2⟩ := info_parts info5
  rcases hu.1 with ⟨rfl, h0⟩ | ⟨ad, c, rfl, hkc, hc⟩
  · obtain rfl : ys = [] := List.eq_nil_of_length_eq_zero h0
    obtain ⟨a, cap, rfl⟩ := h.form
    refine ⟨a, cap, w, fun ty => run_append_owned_none _ B 23 ty 5 i0 1 Try.underlying23 hi0 _ zs.length (BL zs) h.1, by simpa using h, Only.refl _ _⟩
  · have hnews : ∀ j x, (BL ys)[j]? = some x → w.cell? (ad.add j) = some x := fun j x hx => by
      have hj : j < ys.length := by have := (List.getElem?_eq_some_iff.1 hx).1; rwa [BL_length] at this
      rw [hc j (by omega)]
      rw [BL_get _ _ hj] at hx
      rw [← hx]
      simp [List.getD, hj]
    have key := fun ty => run_append_own_at (P := Try.prog) w B 23 ty 5 i0 _ 1 1 Try.underlying23 hi0 hz0 hz1 hz2 rfl (by omega) v zs.length (BL zs) h.1 ad ys.length c (BL ys) (by rw [BL_length]; omega) hnews (BL_one ys) (by unfold maxLen; omega) (by omega) hB
    obtain ⟨v', w', hr, own', hg, _, _⟩ := key 0
    obtain ⟨a, cap, rfl⟩ := ownsRow_slice own'
    exact ⟨a, cap, w', fun ty => by rw [← hr]; rfl, Fresh.more own' hl h.2.2 hu.2.2, (Only.refl _ w).grown hg (fun k e hk => (own_lt h k e).1)⟩

/-- Numbers behind a slice. -/
def IntsAt (w : World) (v : Value) (l : List Nat) : Prop := RowAt w v l.length 1 (fun j => .int .i64 (l.getD j 0 : Nat))
set_option maxRecDepth 100000 in
set_option maxHeartbeats 1000000 in
theorem head_any (v : Value) (l : List Nat) (w : World) (h : IntsAt w v l) (hl : ∀ t ∈ l, t < 2048) :
    Calls Try.prog 59 #[v] w fun e w' => e = .returned (.int .u32 (l.getD 0 0 : Nat)) ∧ w' = w := by
  obtain ⟨a, c, rfl, hc⟩ := RowAt.shape h
  cases l with
  | nil =>
    clear h hc hl
    go_enter Try.func59, Try.ntmps59
    go_wp2
    go_ret
    exact ⟨rfl, rfl⟩
  | cons t r =>
    obtain ⟨g, o, rfl, hc0⟩ := hc 0 (by simp)
    have ht := hl t (List.mem_cons_self ..)
    have hc0' : w.cell? ⟨g, o, none⟩ = some (.int .i64 (t : Nat)) := hc0
    have e1 : IntKind.u32.wrap (t : Int) = (t : Int) := by rw [IntKind.wrap_u32]; omega
    obtain ⟨k, hk⟩ : ∃ k, k = (t :: r).length := ⟨_, rfl⟩
    have k1 : (0 : Int) < (k : Int) := by rw [hk]; simp
    have k2 : ((k : Int) == 0) = false := by simp; rw [hk]; simp
    rw [← hk]
    clear h hc hl hc0 ht hk
    go_enter Try.func59, Try.ntmps59
    go_wp2
    go_ret
    exact ⟨rfl, rfl⟩
set_option maxRecDepth 100000 in
set_option maxHeartbeats 1000000 in
theorem dataid_any (i : Nat) (hi : i < 728) (w : World) : Calls Try.prog 57 #[.int .i64 i] w fun e w' => e = .returned (.int .u32 ((3 + 256 * i : Nat) : Int)) ∧ w' = w := by
  have e1 : IntKind.u32.wrap (i : Int) = (i : Int) := by rw [IntKind.wrap_u32]; omega
  have e2 : IntKind.u32.wrap (256 * (i : Int)) = 256 * (i : Int) := by rw [IntKind.wrap_u32]; omega
  have e3 : IntKind.u32.wrap (3 + 256 * (i : Int)) = ((3 + 256 * i : Nat) : Int) := by rw [IntKind.wrap_u32]; omega
  go_enter Try.func57, Try.ntmps57
  go_wp2
  go_ret
  exact ⟨rfl, rfl⟩
/-- v[1:] -/
theorem slice_rest (g o k c : Nat) (hk : 1 ≤ k) (hc : k ≤ c) : ∃ a2 c2, (∀ w, (Instr.slice 41 (.slice (some ⟨g, o, none⟩) k c) (some (.int .i64 1)) none none).run Try.prog w = .ok (.slice a2 (k - 1) c2) w) ∧ (a2 = some ⟨g, o + 1, none⟩ ∨ k = 1 ∧ a2 = some ⟨g, o, none⟩) ∧ k - 1 ≤ c2 := by
  have k0 : (1 : Int) ≤ (k : Int) := by omega
  have kc : (k : Int) ≤ (c : Int) := by omega
  have e1 : ((k : Int) - 1).toNat = k - 1 := by omega
  have e2 : ((c : Int) - 1).toNat = c - 1 := by omega
  by_cases e : c = 1
  · have ek : k = 1 := by omega
    subst e ek
    exact ⟨some ⟨g, o, none⟩, 0, fun w => by go_simp, .inr ⟨rfl, rfl⟩, by omega⟩
  · have ec : ¬ c - 1 = 0 := by omega
    refine ⟨some ⟨g, o + 1, none⟩, c - 1, fun w => ?_, .inl rfl, by omega⟩
    go_simp
/-- make of four bytes that may be 116. -/
theorem make_tab (w : World) : (Instr.makeSlice 23 (.int .i64 4) (.int .i64 116)).run Try.prog w = .ok (.slice (some ⟨w.heap.size, 0, none⟩) 4 116) (w.alloc (.cells (BL (List.replicate 116 0)).toArray 5)) := by
  obtain ⟨i0, hi0, hz0, hz1, hz2⟩ := info_parts info5
  have h := run_make (P := Try.prog) w 23 5 i0 _ Try.underlying23 hi0 hz0 .i64 .i64 4 116 (by omega) (by omega) (by rw [hz2]; omega) (by omega)
  rw [hz1] at h
  rw [← zeros_made]
  exact h
end Go.Proofs.Ytpoakkdkibameab
namespace Go.Proofs.Ytpoakkdkibameab
open Go.RowKit
set_option linter.unusedSimpArgs false
set_option linter.unusedVariables false

theorem rows_apart {w : World} {B B' n m : Nat} {u v : Value} {xs ys : List Value} (hu : w.ownsRow B 5 1 u n xs) (hv : w.ownsRow B' 23 1 v m ys) (k : Nat) (h1 : u.ownBlock = some k) (h2 : v.ownBlock = some k) : False := by
  rcases hu.2 with ⟨rfl, _⟩ | ⟨g, cap, cur, rfl, _, hg, _⟩
  · cases h1
  · rcases hv.2 with ⟨rfl, _⟩ | ⟨g', cap', cur', rfl, _, hg', _⟩
    · cases h2
    · simp [Value.ownBlock] at h1 h2
      subst h1 h2
      rw [hg] at hg'
      simp at hg'
/-- Bytes zss behind the slices vs, each in a block of its own, all of which are P. -/
structure Fss (w : World) (P : Nat → Prop) (vs : List Value) (zss : List (List Nat)) : Prop where
  len : vs.length = zss.length
  at_ : ∀ j, j < vs.length → ∃ B, Fresh w B (vs.getD j undef) (zss.getD j [])
  blk : ∀ j b, j < vs.length → (vs.getD j undef).ownBlock = some b → P b
  sep : ∀ i j b, i < j → j < vs.length → (vs.getD i undef).ownBlock = some b → (vs.getD j undef).ownBlock ≠ some b
theorem Fss.frame {w w' : World} {P : Nat → Prop} {vs : List Value} {zss : List (List Nat)} (h : Fss w P vs zss) (ho : Only (fun _ => False) w w') : Fss w' P vs zss :=
  ⟨h.len, fun j hj => by obtain ⟨B, hB⟩ := h.at_ j hj; exact ⟨B, hB.frame ho⟩, h.blk, h.sep⟩
theorem Fss.one {w : World} {B : Nat} {v : Value} {zs : List Nat} {P : Nat → Prop} (h : Fresh w B v zs) (hP : ∀ b, v.ownBlock = some b → P b) : Fss w P [v] [zs] := by
  refine ⟨rfl, fun j hj => ?_, fun j b hj hb => ?_, fun i j b hij hj => ?_⟩
  · obtain rfl : j = 0 := by simp at hj; omega
    exact ⟨B, h⟩
  · obtain rfl : j = 0 := by simp at hj; omega
    exact hP b hb
  · simp at hj; omega
theorem getD_append {α : Type} (a b : List α) (d : α) (j : Nat) : (a ++ b).getD j d = if j < a.length then a.getD j d else b.getD (j - a.length) d := by
  simp only [List.getD]
  split
  · rename_i h; rw [List.getElem?_append_left h]
  · rename_i h; rw [List.getElem?_append_right (by omega)]
theorem Fss.append {w : World} {P Q : Nat → Prop} {vs us : List Value} {zss yss : List (List Nat)} (h : Fss w P vs zss) (k : Fss w Q us yss) (hd : ∀ b, P b → Q b → False) : Fss w (fun b => P b ∨ Q b) (vs ++ us) (zss ++ yss) := by
  have hl := h.len
  have kl := k.len
  refine ⟨by simp [hl, kl], fun j hj => ?_, fun j b hj hb => ?_, fun i j b hij hj h1 h2 => ?_⟩
  · rw [getD_append, getD_append, ← hl]
    rw [List.length_append] at hj
    split
    · rename_i e; exact h.at_ j e
    · exact k.at_ _ (by omega)
  · rw [getD_append] at hb
    rw [List.length_append] at hj
    split at hb
    · rename_i e; exact .inl (h.blk j b e hb)
    · exact .inr (k.blk _ b (by omega) hb)
  · rw [getD_append] at h1 h2
    rw [List.length_append] at hj
    split at h1
    · rename_i e1
      split at h2
      · rename_i e2; exact h.sep i j b hij e2 h1 h2
      · exact hd b (h.blk i b e1 h1) (k.blk _ b (by omega) h2)
    · split at h2
      · omega
      · exact k.sep (i - vs.length) (j - vs.length) b (by omega) (by omega) h1 h2
theorem Fss.mono {w : World} {P Q : Nat → Prop} {vs : List Value} {zss : List (List Nat)} (h : Fss w P vs zss) (hm : ∀ b, P b → Q b) : Fss w Q vs zss := ⟨h.len, h.at_, fun j b hj hb => hm b (h.blk j b hj hb), h.sep⟩
theorem Fss.nil (w : World) (P : Nat → Prop) : Fss w P [] [] := ⟨rfl, fun j hj => absurd hj (Nat.not_lt_zero _), fun j b hj => absurd hj (Nat.not_lt_zero _), fun i j b _ hj => absurd hj (Nat.not_lt_zero _)⟩
theorem BL_cell (zs : List Nat) (j : Nat) (h : j < zs.length) : (BL zs)[j]? = some (.int .u8 ((zs.getD j 0 : Nat) : Int)) := by
  rw [BL_get _ _ h]
  simp [List.getD, h]
theorem Fss.lists {w : World} {P : Nat → Prop} {vs : List Value} {zss : List (List Nat)} (h : Fss w P vs zss) (hm : ∀ z ∈ zss, z.length ≤ 140737488351232) : Lists w vs.length (fun j => vs.getD j undef) (fun j => (zss.getD j []).length) := by
  refine ⟨fun i hi => ?_, fun i b hi e => ?_, fun i j b hi hj e e' => ?_, fun i hi => ?_⟩
  · obtain ⟨B, hB⟩ := h.at_ i hi
    exact Whole.room (f := fun j => .int .u8 (((zss.getD i []).getD j 0 : Nat) : Int)) (Whole.ofOwn hB.1 (fun j hj => BL_cell _ j hj))
  · obtain ⟨B, hB⟩ := h.at_ i hi
    exact (hB.1.lt b e).2
  · rcases Nat.lt_trichotomy i j with hlt | rfl | hlt
    · exact absurd e' (h.sep i j b hlt hj e)
    · rfl
    · exact absurd e (h.sep j i b hlt hi e')
  · have hi' : i < zss.length := by rw [← h.len]; exact hi
    refine hm _ ?_
    simp only [List.getD, List.getElem?_eq_getElem hi', Option.getD_some]
    exact List.getElem_mem hi'

/-- A book at block p whose lists of bytes are vs, behind v. -/
structure BookAt (W w : World) (p : Nat) (v : Value) (vs : List Value) : Prop where
  c0 : w.cell? ⟨p, 0, none⟩ = some (.slice none 0 0)
  c1 : w.cell? ⟨p, 1, none⟩ = some (.slice none 0 0)
  c2 : w.cell? ⟨p, 2, none⟩ = some v
  c3 : w.cell? ⟨p, 3, none⟩ = some (.slice none 0 0)
  ty : ∃ cs, w.heap[p]? = some (.cells cs 40 (0, 0))
  own : w.ownsRow W.heap.size 23 1 v vs.length vs
  pW : W.heap.size ≤ p
  only : Only (fun _ => False) W w
theorem BookAt.start {W : World} {x y : Value} :
    BookAt W ((W.alloc (.cells #[x, y] 23)).alloc (.cells #[.slice none 0 0, .slice none 0 0, .slice (some ⟨W.heap.size, 0, none⟩) 2 2, .slice none 0 0] 40)) (W.heap.size + 1) (.slice (some ⟨W.heap.size, 0, none⟩) 2 2) [x, y] := by
  have hp := heap_alloc2_new W (.cells #[x, y] 23) (.cells #[.slice none 0 0, .slice none 0 0, .slice (some ⟨W.heap.size, 0, none⟩) 2 2, .slice none 0 0] 40)
  refine ⟨?_, ?_, ?_, ?_, ⟨_, hp⟩, ?_, by omega, ((Only.refl _ W).alloc _).alloc _⟩
  · rw [cell_of_row _ _ 0 _ _ _ hp]; rfl
  · rw [cell_of_row _ _ 1 _ _ _ hp]; rfl
  · rw [cell_of_row _ _ 2 _ _ _ hp]; rfl
  · rw [cell_of_row _ _ 3 _ _ _ hp]; rfl
  · exact (World.ownsRow_lit (base := W.heap.size) (e := 23) (size := 1) W #[x, y] 2 (Nat.le_refl _) (by unfold maxLen; omega) rfl).alloc _
theorem BookAt.noOwn {W w : World} {p : Nat} {v : Value} {vs : List Value} (h : BookAt W w p v vs) : v.ownBlock ≠ some p := by
  intro e
  obtain ⟨cs, hcs⟩ := h.ty
  rcases h.own.2 with ⟨rfl, _⟩ | ⟨g, cap, cur, rfl, _, hg, _⟩
  · cases e
  · simp [Value.ownBlock] at e
    subst e
    rw [hg] at hcs
    simp at hcs
/-- A book's lists lie apart. -/
theorem BookAt.apart {W w : World} {p : Nat} {v : Value} {vs : List Value} {zss : List (List Nat)} {P : Nat → Prop} (h : BookAt W w p v vs) (hf : Fss W P vs zss) (hm : ∀ z ∈ zss, z.length ≤ 140737488351232) (hP : ∀ b, P b → b < W.heap.size) (hk : vs.length * 24 ≤ 140737488355328) :
    Calls Try.prog 10 #[.pointer (some ⟨p, 0, none⟩)] w fun e w' => e = .returned (.bool true) ∧ Only P W w' := by
  have hfw := hf.frame h.only
  have hL := hfw.lists hm
  have hls : ∀ b, lsB vs.length (fun j => vs.getD j undef) b → P b := fun b ⟨i, hi, e⟩ => hf.blk i b hi e
  have hW : Whole w v vs.length (fun j => vs.getD j undef) := Whole.ofOwn h.own (fun j hj => by simp [List.getD, hj])
  refine (apart_book p vs.length _ _ v w h.c0 h.c1 h.c2 h.c3 (fun e => ?_) hW (fun b hb hb2 => ?_) hL hk).mono ?_
  · have := hP p (hls p e)
    have := h.pW
    omega
  · obtain ⟨i, hi, e⟩ := hb2
    obtain ⟨B, hB⟩ := hfw.at_ i hi
    exact rows_apart hB.1 h.own b e hb
  · rintro e w' ⟨rfl, ho, _⟩
    exact ⟨rfl, (h.only.mono (fun k hk e => e.elim)).trans ho (fun i hi e => hls i e)⟩
theorem two_bytes (w : World) : BytesAt (w.alloc (.cells #[.int .u8 71, .int .u8 72] 5)) (.slice (some ⟨w.heap.size, 0, none⟩) 2 2) [71, 72] := by
  refine ⟨.inr ⟨_, _, rfl, by simp, fun j hj => ?_⟩, by simp, by simp⟩
  rw [Addr.add_mid, cell_of_row _ _ _ _ _ _ (heap_alloc_new w _)]
  have : j = 0 ∨ j = 1 := by simp at hj; omega
  rcases this with rfl | rfl <;> rfl
end Go.Proofs.Ytpoakkdkibameab
namespace Go.Proofs.Ytpoakkdkibameab
open Go.RowKit Go.Shelf
set_option linter.unusedSimpArgs false
set_option linter.unusedVariables false

section
variable {P : Program} {F : Fence} {n : Nat} {ops : Array Oper} {op : Oper} {a : Act} {w w' : World} {K : Act → World → Prop} {Q : Exit → Act → World → Prop}
/-- An operation that makes no call and defers nothing. -/
def calmOp : Op → Bool
  | .move _ | .assign _ | .alloc _ | .load _ _ | .store _ _ _ | .nilCheck _ | .fieldAddr _ _ _ | .indexAddr _ _ _ | .slice _ _ _ _ _ => true
  | _ => false
theorem calm_about (h : calmOp op.op = true) (ρ : Operand → Value) : op.about P w ρ = none := by
  unfold Oper.about
  cases ho : op.op <;> simp [ho, calmOp] at h ⊢
theorem calm_sem (h : calmOp op.op = true) (ro : Option Nat) (ρ : Operand → Value) : Oper.semAt ro ρ op = execOp ρ op :=
  Oper.semAt_eq ro ρ op (fun c hc => by rw [hc] at h; cases h)
theorem wpIn_value {s : Sem Value} {v : Value} (hc : calmOp op.op = true) (ho : execOp a.eval op = (do pure (.value (← s)))) (h : s.run P w = .ok v w') (hk : K (a.put op.dst v) w') : op.wpIn F n P a w K Q := by
  refine ⟨fun f hf => (by rw [calm_about hc] at hf; cases hf), ?_⟩
  rw [calm_sem hc]
  simp only [ho, Sem.run_bind, h, Result.andThen_ok, Sem.run_pure, Oper.uponIn]
  exact hk
theorem wpIn_unit {s : Sem Unit} (hc : calmOp op.op = true) (ho : execOp a.eval op = (do s; pure .skip)) (h : s.run P w = .ok () w') (hk : K (a.put op.dst undef) w') : op.wpIn F n P a w K Q := by
  refine ⟨fun f hf => (by rw [calm_about hc] at hf; cases hf), ?_⟩
  rw [calm_sem hc]
  simp only [ho, Sem.run_bind, h, Result.andThen_ok, Sem.run_pure, Oper.uponIn]
  exact hk
theorem wpListIn_value {rest : List Oper} {s : Sem Value} {v : Value} (hgd : op.guard = none) (hc : calmOp op.op = true) (ho : execOp a.eval op = (do pure (.value (← s)))) (h : s.run P w = .ok v w') (hk : wpListIn F n P ops Q rest (a.put op.dst v) w') : wpListIn F n P ops Q (op :: rest) a w :=
  wpListIn_plain hgd fun _ hK => wpIn_value hc ho h (hK _ _ hk)
theorem wpListIn_unit {rest : List Oper} {s : Sem Unit} (hgd : op.guard = none) (hc : calmOp op.op = true) (ho : execOp a.eval op = (do s; pure .skip)) (h : s.run P w = .ok () w') (hk : wpListIn F n P ops Q rest (a.put op.dst undef) w') : wpListIn F n P ops Q (op :: rest) a w :=
  wpListIn_plain hgd fun _ hK => wpIn_unit hc ho h (hK _ _ hk)
theorem wpListIn_load_mid {rest : List Oper} (hgd : op.guard = none) (ty : TypeId) (x : Operand) (ho : op.op = .load ty x)
    (b o : Nat) (hx : a.eval x = .pointer (some ⟨b, o, none⟩)) (cs : List Value) (d : TypeDesc) (hc : w.rangeAt b o cs)
    (hu : P.underlying ty = some d) (hd : d.isRow = true) (hi : (P.info? ty).map (·.size) = some cs.length)
    (h : wpListIn F n P ops Q rest (a.put op.dst (.agg cs.toArray)) w) : wpListIn F n P ops Q (op :: rest) a w :=
  wpListIn_value hgd (by rw [ho]; rfl) (s := Instr.loadAt ty (.pointer (some ⟨b, o, none⟩))) (by unfold execOp; simp only [ho, hx]) (run_loadAt_mid w b o ty cs d hc hu hd hi) h
theorem wpListIn_storeNew {rest : List Oper} (hgd : op.guard = none) (ty : TypeId) (x y : Operand) (ho : op.op = .store ty x y)
    (w0 : World) (c cells : Array Value) (hx : a.eval x = .pointer (some ⟨w0.heap.size, 0, none⟩)) (hy : a.eval y = .agg cells)
    (hi : (P.info? ty).map (·.size) = some cells.size) (hs : c.size = cells.size) (h1 : cells.all (·.oneCell') = true)
    (h : wpListIn F n P ops Q rest (a.put op.dst undef) (w0.alloc (.cells cells ty))) : wpListIn F n P ops Q (op :: rest) a (w0.alloc (.cells c ty)) :=
  wpListIn_unit hgd (by rw [ho]; rfl) (s := Instr.storeAt ty (.pointer (some ⟨w0.heap.size, 0, none⟩)) (.agg cells)) (by unfold execOp; simp only [ho, hx, hy]) (run_storeAt_new w0 ty c cells hi hs h1) h
theorem wpListIn_alloc {rest : List Oper} (hgd : op.guard = none) (ty : TypeId) (ho : op.op = .alloc ty) (c : Array Value) (hr : (Instr.alloc ty true (.tuple #[])).run P w = .ok (.pointer (some ⟨w.heap.size, 0, none⟩)) (w.alloc (.cells c ty)))
    (h : wpListIn F n P ops Q rest (a.put op.dst (.pointer (some ⟨w.heap.size, 0, none⟩))) (w.alloc (.cells c ty))) : wpListIn F n P ops Q (op :: rest) a w :=
  wpListIn_value hgd (by rw [ho]; rfl) (s := Instr.alloc ty true (.tuple #[])) (by unfold execOp; simp only [ho]) hr h
/-- What a calm operation comes to. -/
theorem calm_ok (h : calmOp op.op = true) (ρ : Operand → Value) {x : Next} (hr : (execOp ρ op).run P w = .ok x w') : (∃ v, x = .value v) ∨ x = .skip := by
  have hv : ∀ (s : Sem Value), ((do pure (Next.value (← s)) : Sem Next).run P w = .ok x w') → ∃ v, x = .value v := by
    intro s hs
    rw [Sem.run_bind] at hs
    cases hq : s.run P w with
    | ok v w1 => rw [hq] at hs; simp [Result.andThen, Sem.run_pure] at hs; exact ⟨v, hs.1.symm⟩
    | halt e w1 => rw [hq] at hs; simp [Result.andThen] at hs
  have hu : ∀ (s : Sem Unit), ((do s; pure Next.skip : Sem Next).run P w = .ok x w') → x = .skip := by
    intro s hs
    rw [Sem.run_bind] at hs
    cases hq : s.run P w with
    | ok v w1 => rw [hq] at hs; simp [Result.andThen, Sem.run_pure] at hs; exact hs.1.symm
    | halt e w1 => rw [hq] at hs; simp [Result.andThen] at hs
  unfold execOp at hr
  cases ho : op.op <;> simp only [ho, calmOp, Bool.false_eq_true] at h <;> simp only [ho] at hr
  case move x => left; simp [Sem.run_pure] at hr; exact ⟨_, hr.1.symm⟩
  case assign x => left; simp [Sem.run_pure] at hr; exact ⟨_, hr.1.symm⟩
  case alloc => exact .inl (hv _ hr)
  case load => exact .inl (hv _ hr)
  case store => exact .inr (hu _ hr)
  case fieldAddr => exact .inl (hv _ hr)
  case indexAddr => exact .inl (hv _ hr)
  case slice => exact .inl (hv _ hr)
  case nilCheck xo =>
    left
    have hp : ∀ (β : Type) (f : β → Value) (t : Sem β), ((do let b ← t; pure (Next.value (f b))) : Sem Next).run P w = .ok x w' → ∃ v, x = .value v := by
      intro β f t hs
      rw [Sem.run_bind] at hs
      cases hq : t.run P w with
      | ok v w1 => rw [hq] at hs; simp [Result.andThen, Sem.run_pure] at hs; exact ⟨_, hs.1.symm⟩
      | halt e w1 => rw [hq] at hs; simp [Result.andThen] at hs
    split at hr
    · simp [runtimePanic, goPanic, go_sem] at hr
    · simp [runtimePanic, goPanic, go_sem] at hr
    · simp [runtimePanic, goPanic, go_sem] at hr
    · split at hr
      · simp [runtimePanic, goPanic, go_sem] at hr
      · rw [Sem.run_bind] at hr
        cases h1 : (program).run P w with
        | halt e w1 => rw [h1] at hr; simp [Result.andThen] at hr
        | ok p w1 =>
          rw [h1] at hr
          simp only [Result.andThen_ok] at hr
          rw [Sem.run_bind] at hr
          generalize Sem.run P (nilAhead _ _ _ _) w1 = r at hr
          cases r with
          | halt e w2 => simp [Result.andThen] at hr
          | ok b w2 =>
            simp only [Result.andThen_ok] at hr
            split at hr
            · simp [unsupported, go_sem] at hr
            · simp [Sem.run_pure] at hr; exact ⟨_, hr.1.symm⟩
      · simp [Sem.run_pure] at hr; exact ⟨_, hr.1.symm⟩
    · simp [Sem.run_pure] at hr; exact ⟨_, hr.1.symm⟩

theorem wpOp_in {i : Nat} (hc : ∀ o, ops[i]? = some o → calmOp o.op = true) (hQ : ¬ LetsOut Q) (h : wpOp P ops Q i K a w) : wpOpIn F n P ops Q i K a w := by
  unfold wpOp at h
  unfold wpOpIn
  cases ho : ops[i]? with
  | none => rw [ho] at h; exact h
  | some o =>
    rw [ho] at h
    have hco := hc o ho
    simp only at h ⊢
    split
    · rename_i hw
      rw [if_pos hw] at h
      rcases h with h | ⟨_, hl⟩
      · refine ⟨fun f hf => (by rw [calm_about hco] at hf; cases hf), ?_⟩
        rw [calm_sem hco]
        unfold Oper.wp at h
        cases hr : (execOp a.eval o).run P w with
        | ok x w1 =>
          rw [hr] at h
          rcases calm_ok hco a.eval hr with ⟨v, rfl⟩ | rfl
          · exact h
          · exact h
        | halt e w1 =>
          rw [hr] at h
          cases e <;> first | exact h | exact (h : False).elim
      · exact absurd hl hQ
    · rename_i hw
      rw [if_neg hw] at h
      exact ⟨fun f hf => (by rw [calm_about hco] at hf; cases hf), h⟩
theorem wpAny_in {md : Region.Mode} (hc : ∀ (i : Nat) (o : Oper), ops[i]? = some o → calmOp o.op = true) (hQ : ¬ LetsOut Q) : ∀ (fuel : Nat) (listed : Array Bool) (a : Act) (w : World), wpAny P md ops Q fuel listed a w → wpAnyIn F n P md ops Q fuel listed a w
  | 0, _, _, _, h => h
  | fuel + 1, _, _, _, h => ⟨h.1, fun i hi => wpOp_in (hc i) hQ (wpOp_mono (fun a' w' h' => wpAny_in hc hQ fuel _ a' w' h') (h.2 i hi))⟩
/-- A region that draws its order and makes no call, within whatever fence. -/
theorem wpIn_region_held {id : Nat} {S : World → Prop} (hm : P.follows .mixedOrders = true) (hc : ops.all (fun o => calmOp o.op) = true) (hQ : ¬ LetsOut Q) (hS : S w.drew)
    (h : S w.drew → wpAnyH P .any ops Q S ops.size (Array.replicate ops.size false) a w.drew) : (Code.region id ops true).wpIn F n P Q a w :=
  wpIn_region_any hm (wpAny_in (fun i o ho => by
    rw [Array.all_eq_true_iff_forall_mem] at hc
    exact hc o (Array.mem_of_getElem? ho)) hQ _ _ _ _ (wpAny_of_held _ _ _ _ (h hS)))
end

/-- A pending write at its number, of a disk of n sectors. -/
abbrev At (n : Nat) := { x : Nat × Wr // x.2.at_ < n }
/-- What a loop's body is handed of it. -/
def atEnc (n : Nat) (x : At n) : Array Value := #[.int .i64 x.1.1, .agg x.1.2.cells.toArray]
/-- What the iterator reads: its box, and the block of the writes. -/
def KpB (Bs Pb : Nat) (W W' : World) : Prop := W'.heap[Bs]? = W.heap[Bs]? ∧ W'.heap[Pb]? = W.heap[Pb]?
/-- The writes from the last one on, k of them left out. -/
def fromLast (n : Nat) (l : List (At n)) (k : Nat) : List (At n) := (l.drop k).reverse
theorem fromLast_succ (n : Nat) (l : List (At n)) (k : Nat) (h : k < l.length) : fromLast n l k = fromLast n l (k + 1) ++ [l[k]] := by
  simp only [fromLast]
  rw [List.drop_eq_getElem_cons h, List.reverse_cons]
theorem fromLast_length (n : Nat) (l : List (At n)) (k : Nat) : (fromLast n l k).length = l.length - k := by simp [fromLast]

attribute [local go_sem] Oper.semAt_some

end Go.Proofs.Ytpoakkdkibameab
namespace Go.Proofs.Ytpoakkdkibameab
open Go.RowKit Go.Shelf
set_option linter.unusedSimpArgs false
set_option linter.unusedVariables false

section
variable {P : Program} {n l : Nat} {ops : Array Oper} {op : Oper} {a : Act} {w w' : World} {K : Act → World → Prop} {Q : Exit → Act → World → Prop}
/-- An operation that defers nothing. -/
def plainOp : Op → Bool
  | .defer _ => false
  | _ => true
theorem wpOp_round {i : Nat} (hc : ∀ o, ops[i]? = some o → plainOp o.op = true) (hQ : ¬ LetsOut Q) (h : wpOp P ops Q i K a w) : wpOpIn (Fence.wide.inRound l) n P ops Q i K a w := by
  unfold wpOp at h
  unfold wpOpIn
  cases ho : ops[i]? with
  | none => rw [ho] at h; exact h
  | some o =>
    rw [ho] at h
    have hco := hc o ho
    simp only at h ⊢
    split
    · rename_i hw
      rw [if_pos hw] at h
      rcases h with h | ⟨_, hl⟩
      · refine ⟨fun f hf => trivial, ?_⟩
        rw [Oper.semAt_eq _ _ _ (fun c hc' => by rw [hc'] at hco; cases hco)]
        unfold Oper.wp at h
        cases hr : (execOp a.eval o).run P w with
        | ok x w1 =>
          rw [hr] at h
          cases x with
          | value v => exact h
          | skip => exact h
          | defer d => exact h
          | enter f args =>
            refine ⟨fun e => (by cases e), ?_⟩
            exact (callsIn_wide (n := n - 1)).2 h
          | row r args =>
            refine ⟨fun e => (by cases e), fun c cs _ => ?_⟩
            obtain ⟨v, w', hr', hs'⟩ := (h : Rows P r args w1 _) c cs
            exact ⟨v, w', hr', stepsIn_wide.2 hs'⟩
          | _ => exact (h : False).elim
        | halt e w1 =>
          rw [hr] at h
          cases e <;> first | exact h | exact (h : False).elim
      · exact absurd hl hQ
    · rename_i hw
      rw [if_neg hw] at h
      exact ⟨fun f hf => trivial, h⟩
theorem wpAny_round {md : Region.Mode} (hc : ∀ (i : Nat) (o : Oper), ops[i]? = some o → plainOp o.op = true) (hQ : ¬ LetsOut Q) : ∀ (fuel : Nat) (listed : Array Bool) (a : Act) (w : World), wpAny P md ops Q fuel listed a w → wpAnyIn (Fence.wide.inRound l) n P md ops Q fuel listed a w
  | 0, _, _, _, h => h
  | fuel + 1, _, _, _, h => ⟨h.1, fun i hi => wpOp_round (hc i) hQ (wpOp_mono (fun a' w' h' => wpAny_round hc hQ fuel _ a' w' h') (h.2 i hi))⟩
/-- A region that draws its order, within a round. -/
theorem wpIn_region_round {id : Nat} {S : World → Prop} (hm : P.follows .mixedOrders = true) (hc : ops.all (fun o => plainOp o.op) = true) (hQ : ¬ LetsOut Q) (hS : S w.drew)
    (h : S w.drew → wpAnyH P .any ops Q S ops.size (Array.replicate ops.size false) a w.drew) : (Code.region id ops true).wpIn (Fence.wide.inRound l) n P Q a w :=
  wpIn_region_any hm (wpAny_round (fun i o ho => by
    rw [Array.all_eq_true_iff_forall_mem] at hc
    exact hc o (Array.mem_of_getElem? ho)) hQ _ _ _ _ (wpAny_of_held _ _ _ _ (h hS)))
/-- A call of a function, by its contract. -/
theorem wp_call_func {f : Nat} (args : Array Operand) (tys : Array TypeId) (ho : op.op = .call { callee := .value (.func f), args := args, argTypes := tys }) (vs : Array Value) (hvs : args.map a.eval = vs) (he : ∀ args w, (callFunc f args).run P w = .ok (.enter f args) w)
    {R : Ending → World → Prop} (hc : Calls P f vs w R) (hR : ∀ e w', R e w' → ∃ v, e = .returned v ∧ K (a.put op.dst v) w') : op.wp P a w K Q := by
  have hr : (execOp a.eval op).run P w = .ok (.enter f vs) w := by
    simp [execOp, ho, resolve, invoke, go_sem, he, hvs, Result.andThen]
  unfold Oper.wp
  rw [hr, Oper.upon_enter]
  refine hc.mono fun e w' h => ?_
  obtain ⟨v, rfl, hk⟩ := hR e w' h
  exact hk
end
end Go.Proofs.Ytpoakkdkibameab
namespace Go.Proofs.Ytpoakkdkibameab
open Go.RowKit
set_option linter.unusedSimpArgs false
set_option linter.unusedVariables false

attribute [local go_sem] Oper.semAt_some

/-- The block in which the numbers lie stands. -/
def KpP (Pb : Nat) (W W' : World) : Prop := W'.heap[Pb]? = W.heap[Pb]?
def intEnc (x : Int) : Array Value := #[.int .i64 x]
theorem take_succ_getD (zs : List Int) (k : Nat) (h : k < zs.length) : zs.take (k + 1) = zs.take k ++ [zs.getD k 0] := by
  rw [List.take_succ_eq_append_getElem h]
  simp [List.getD, h]
/-- Numbers in memory: nil, or cells of the block Pb. -/
def IntsIn (w : World) (Pb : Nat) (sv : Value) (zs : List Int) : Prop :=
  (sv = .slice none 0 0 ∧ zs = []) ∨ ∃ off cap, sv = .slice (some ⟨Pb, off, none⟩) zs.length cap ∧ ∀ j, j < zs.length → w.cell? ⟨Pb, off + j, none⟩ = some (.int .i64 (zs.getD j 0))

set_option maxRecDepth 100000 in
set_option maxHeartbeats 2000000 in
theorem values_core (m : Nat) (l Bs Pb off cap : Nat) (zs : List Int) (hlen : zs.length ≤ maxLen) (J Jx : List Int → World → Prop)
    (hY : ∀ k W, k < zs.length → J (zs.take k) W → YieldAt Fence.wide (m - 1) Try.prog l (intEnc (zs.getD k 0)) W fun e W' =>
      (e = .returned (.bool true) ∧ J (zs.take k ++ [zs.getD k 0]) W' ∧ KpP Pb W W') ∨ (e = .returned (.bool false) ∧ Jx (zs.take k ++ [zs.getD k 0]) W'))
    (W : World) (hBs : W.cell? ⟨Bs, 0, none⟩ = some (.slice (some ⟨Pb, off, none⟩) zs.length cap)) (hc : ∀ j, j < zs.length → W.cell? ⟨Pb, off + j, none⟩ = some (.int .i64 (zs.getD j 0))) (h0 : J [] W) :
    CallsIn Fence.wide m Try.prog 42 #[.func (.yield l) #[] #[], .pointer (some ⟨Bs, 0, none⟩)] W fun e W' => (∃ v, e = .returned v) ∧ (J zs W' ∨ ∃ k, k ≤ zs.length ∧ Jx (zs.take k) W') := by
  unfold maxLen at hlen
  refine callsIn_of_wp Try.func42 rfl trivial ?_ rfl
  simp only [Try.ntmps42, List.size_toArray, List.length_cons, List.length_nil, Nat.reduceAdd, Nat.reduceSub, Array.replicate_succ, Array.replicate_zero, List.push_toArray, List.append_toArray, List.nil_append, List.cons_append]
  gi_wp2
  gi_loopw [7] (fun i wr => ∃ k : Nat, k ≤ zs.length ∧ i = .int .i64 k ∧ J (zs.take k) wr ∧ KpP Pb W wr) (fun i _ => zs.length - (intOf i).toNat)
  case atStart => exact ⟨0, Nat.zero_le _, rfl, h0, rfl⟩
  case round =>
    obtain ⟨k, hk, rfl, hJ, hkp⟩ := hrel
    by_cases hlt : k < zs.length
    · obtain ⟨fn, tmps, assign, body, hyr, hR⟩ := hY k wr hlt hJ
      have hcx : wr.cell? ⟨Pb, off + k, none⟩ = some (.int .i64 (zs.getD k 0)) := (World.cell?_of_block (w := W) (show wr.heap[Pb]? = W.heap[Pb]? from hkp)).trans (hc k hlt)
      have hj0 : (0 : Int) ≤ (k : Int) := Int.natCast_nonneg _
      have hj1 : (k : Int) < (zs.length : Int) := by omega
      have HT := take_succ_getD zs k hlt
      obtain ⟨z, hz⟩ : ∃ z, z = zs.getD k 0 := ⟨_, rfl⟩
      rw [← hz] at hyr hR hcx HT
      have HT' : Hid _ := HT
      have HKP : Hid (KpP Pb W wr) := hkp
      unfold intEnc at hyr
      clear hY hc h0 hBs hkp hz HT hJ
      gi_wp2
      refine ⟨fun h => (by simp [Fence.wide] at h), hR.mono ?_⟩
      rintro e W3 (⟨rfl, hJ3, hk3⟩ | ⟨rfl, hJx3⟩)
      · have HK4 : Hid (KpP Pb W W3) := Eq.trans hk3 HKP.out
        clear hk3
        gi_wp2
        go_roundw
        case rel => exact ⟨k + 1, by omega, by simp, by rw [HT'.out]; exact hJ3, HK4.out⟩
        case measure => simp [intOf]; omega
      · gi_wp2
        refine bodyPost_ret (results_none rfl _ _ _) rfl ?_
        exact ⟨⟨_, rfl⟩, .inr ⟨k + 1, by omega, by rw [HT'.out]; exact hJx3⟩⟩
    · obtain rfl : k = zs.length := by omega
      rw [List.take_length] at hJ
      clear hY hc h0 hBs hkp
      gi_wp2
      go_end0
      exact ⟨⟨_, rfl⟩, .inl hJ⟩
set_option maxRecDepth 100000 in
set_option maxHeartbeats 1000000 in
theorem values_none (m l Bs : Nat) (J : World → Prop) (W : World) (hBs : W.cell? ⟨Bs, 0, none⟩ = some (.slice none 0 0)) (h0 : J W) :
    CallsIn Fence.wide m Try.prog 42 #[.func (.yield l) #[] #[], .pointer (some ⟨Bs, 0, none⟩)] W fun e W' => (∃ v, e = .returned v) ∧ J W' := by
  refine callsIn_of_wp Try.func42 rfl trivial ?_ rfl
  simp only [Try.ntmps42, List.size_toArray, List.length_cons, List.length_nil, Nat.reduceAdd, Nat.reduceSub, Array.replicate_succ, Array.replicate_zero, List.push_toArray, List.append_toArray, List.nil_append, List.cons_append]
  gi_wp2
  gi_loopw [7] (fun i wr => i = .int .i64 0 ∧ J wr) (fun _ _ => 0)
  case atStart => exact ⟨rfl, h0⟩
  case round =>
    obtain ⟨rfl, hJ⟩ := hrel
    gi_wp2
    go_end0
    exact ⟨⟨_, rfl⟩, hJ⟩
set_option maxRecDepth 100000 in
set_option maxHeartbeats 1000000 in
/-- slices.Values boxes the slice; the function that it answers has the box. -/
theorem values_in (m : Nat) (a : Option Addr) (n c : Nat) (w : World) :
    CallsIn Fence.wide m Try.prog 28 #[.slice a n c] w fun e w' => e = .returned (.func (.func 42) #[] #[.pointer (some ⟨w.heap.size, 0, none⟩)]) ∧ w' = w.alloc (.cells #[.slice a n c] 41) := by
  refine callsIn_of_wp Try.func28 rfl trivial ?_ rfl
  simp only [Try.ntmps28, List.size_toArray, List.length_cons, List.length_nil, Nat.reduceAdd, Nat.reduceSub, Array.replicate_succ, Array.replicate_zero, List.push_toArray, List.append_toArray, List.nil_append, List.cons_append]
  gi_wp2
  go_ret
  exact ⟨rfl, rfl⟩
/-- .. and gives the numbers in their order. -/
theorem values_stops (m Bs Pb : Nat) (sv : Value) (zs : List Int) (w : World) (hl : zs.length ≤ maxLen) (hBs : w.cell? ⟨Bs, 0, none⟩ = some sv) (hi : IntsIn w Pb sv zs) (hP : Pb < w.heap.size) :
    SeqStopsK Fence.wide m Try.prog 42 #[.pointer (some ⟨Bs, 0, none⟩)] intEnc (KpP Pb) (fun ys => ys = zs) (fun _ => True) zs.length w := fun lo J Jx W hW _ _ hY h0 => by
  have hBl := World.block_lt_of_cell? w _ hBs
  have hBs' : W.cell? ⟨Bs, 0, none⟩ = some sv := (hW.cell (p := ⟨Bs, 0, none⟩) hBl).trans hBs
  rcases hi with ⟨rfl, rfl⟩ | ⟨off, cap, rfl, hc⟩
  · exact (values_none m lo Bs (J []) W hBs' h0).mono fun e W' ⟨he, hj⟩ => ⟨he, .inl ⟨_, rfl, hj⟩⟩
  · refine (values_core m lo Bs Pb off cap zs hl J Jx (fun k W1 hk hJ => ?_) W hBs' (fun j hj => (hW.cell (p := ⟨Pb, off + j, none⟩) hP).trans (hc j hj)) h0).mono ?_
    · exact hY (zs.take k) (zs.getD k 0) W1 hJ (by rw [List.length_take]; omega)
    · rintro e W' ⟨he, hj | ⟨k, _, hj⟩⟩
      · exact ⟨he, .inl ⟨_, rfl, hj⟩⟩
      · exact ⟨he, .inr ⟨_, trivial, hj⟩⟩
end Go.Proofs.Ytpoakkdkibameab
