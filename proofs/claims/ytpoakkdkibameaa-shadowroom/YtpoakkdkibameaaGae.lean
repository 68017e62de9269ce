/- What Rollback and other do; how many pages a plan needs. Flags that come in, numbers that are made; what First, the document's First and SameInts answer. Flags in a block; what taken answers. What used answers. Bytes that are appended to; what head and dataID answer. slices.Values of numbers: its closure gives them in their order, to every loop body that keeps the block in which they lie. slices.Chunk of bytes by 112: its closure gives them part by part, to every loop body that keeps its two boxes. -/
import Derived.Test.YtpoakkdkibameaaGad
import Derived.Test.YtpoakkdkibameaaGac
import Derived.Maps.RangeWalk
import Derived.RangeFuncNested
import Derived.RangeFuncBound
import Derived.RangeFuncCalls
import Derived.RangeFuncLeaves
import Derived.RangeFuncBox
import Derived.Shelf.Abstract
import Derived.Shelf.RegionOpen
import Derived.OwnWalkIn
import Derived.TacticsInMore
import Derived.LoopNIn
import Derived.LoopIn
import Derived.BigRegionIn
namespace Go.Proofs.Ytpoakkdkibameaa
open Go.RowKit Go.Maps
set_option linter.unusedSimpArgs false
set_option linter.unusedVariables false

section
variable {w : World} {dk : Nat → Prop} {s p mc mn : Nat} {tv : Value} {x : SS}
theorem SS.Wf.roll {x : SS} (h : x.Wf) : SS.Wf { x with now := x.com } :=
  { size := h.size, epoch := h.epoch, sector := h.sector, tabs := h.tabs, com := h.com
    now := fun p hp => by
      obtain ⟨h1, h2, h3⟩ := h.com p hp
      exact ⟨h1, .inr h2, h3⟩ }
set_option maxRecDepth 100000 in
set_option maxHeartbeats 2000000 in
theorem rollback_ok (h : StAt w dk s p mc mn tv x) (hd : ∀ k, dk k → k < w.heap.size) :
    Calls Try.prog 23 #[.pointer (some ⟨s, 0, none⟩)] w fun e w' => ∃ mn', e = .returned (.int .i64 0) ∧ Hid (StAt w' dk s p mc mn' tv { x with now := x.com } ∧ Only (fun k => k = s) w w' ∧ w.heap.size ≤ mn') := by
  have HU := usable_ok s p w h.c0
  have h5 := h.c5
  obtain ⟨sl, hm, hb⟩ := h.com
  have HT : Hid (Calls Try.prog 33 _ _ _) := take_any s mc _ _ _ _ _ _ _ _ w h.cells h.there hm
  have HE : Hid (∀ w', w'.rangeAt s 0 (stL p x tv mc w.heap.size) ∧ w'.there s 0 7 ∧ MapAt w' w.heap.size (x.com.map fun p => (p.1, pgV sl p)) ∧ MapAt w' mc (x.com.map fun p => (p.1, pgV sl p)) ∧ Only (fun k => k = s) w w' → StAt w' dk s p mc w.heap.size tv { x with now := x.com } ∧ Only (fun k => k = s) w w' ∧ w.heap.size ≤ w.heap.size) := by
    rintro w' ⟨h1, h2, h3, h4, h5⟩
    have hs := h.lt
    have hmc := h.com.lt
    have sz := h5.size
    have l3 := h3.lt
    have av : ∀ k, k < w.heap.size → mutB dk s mc w.heap.size k → mutB dk s mc mn k := by
      rintro k hk (e | e | e | e)
      · exact .inl e
      · exact .inr (.inl e)
      · omega
      · exact .inr (.inr (.inr e))
    have hbs : ∀ k, k < w.heap.size → k = s → mutB dk s mc mn k := fun k _ e => .inl e
    have pg : ∀ q ∈ x.com, BytesAt w' (sl q.1) q.2.2 ∧ ∀ b, (sl q.1).ownBlock = some b → b < w'.heap.size ∧ ¬ mutB dk s mc w.heap.size b := fun q hq => by
      obtain ⟨g1, g2⟩ := hb q hq
      exact ⟨g1.keep h5 (fun b e e' => (g2 b e).2 (.inl e')), fun b e => ⟨Nat.lt_of_lt_of_le (g2 b e).1 sz, fun e' => (g2 b e).2 (av b (g2 b e).1 e')⟩⟩
    refine ⟨?_, h5, Nat.le_refl _⟩
    exact { cells := h1, there := h2, d1 := h.d1, d2 := by omega, d3 := by omega, k1 := h.k1, k2 := h.k2, k3 := fun e => by have := hd _ e; omega
            tabs := h.tabs.keep h5 (fun b e e' => (h.tabsB b e).2 (.inl e')), tabsB := fun b e => ⟨Nat.lt_of_lt_of_le (h.tabsB b e).1 sz, fun e' => (h.tabsB b e).2 (av b (h.tabsB b e).1 e')⟩
            com := ⟨sl, h4, pg⟩, now := ⟨sl, h3, pg⟩, wf := h.wf.roll }
  clear h hm hb hd
  go_enter Try.func23, Try.ntmps23
  go_wp2_with (first | (go_at_call 25; refine HU.mono ?_; rintro e w' ⟨rfl, rfl⟩) | (go_at_call 33; refine (show Calls Try.prog 33 _ _ _ from HT.out).mono ?_; rintro e w2 ⟨rfl, h2⟩; have H2 : Hid _ := h2; clear h2))
  go_ret
  exact ⟨_, rfl, HE.out _ H2.out⟩
set_option maxRecDepth 100000 in
set_option maxHeartbeats 2000000 in
theorem other_ok (h : StAt w dk s p mc mn tv x) : Calls Try.prog 32 #[.pointer (some ⟨s, 0, none⟩)] w fun e w' => e = .returned (.int .i64 ((4 - x.sector : Nat) : Int)) ∧ w' = w := by
  have h3 := h.c3
  have hs := h.wf.sector
  clear h
  have e1 : IntKind.i64.wrap (4 - (x.sector : Int)) = ((4 - x.sector : Nat) : Int) := by rw [IntKind.wrap_i64]; omega
  go_enter Try.func32, Try.ntmps32
  go_wp2
  go_ret
  exact ⟨rfl, rfl⟩
end
/-- How many table pages hold n bytes. -/
def tabN (n : Nat) : Nat := (n + 111) / 112
set_option maxRecDepth 100000 in
set_option maxHeartbeats 2000000 in
theorem need_any (a1 a2 : Option Addr) (n1 c1 n2 c2 : Nat) (m : Option Nat) (w : World) (h1 : n1 ≤ 100000) (h2 : n2 ≤ 100000) :
    Calls Try.prog 28 #[.agg #[.slice a1 n1 c1, .map m, .slice a2 n2 c2]] w fun e w' => e = .returned (.int .i64 ((n1 + tabN n2 : Nat) : Int)) ∧ Only (fun _ => False) w w' := by
  have e1 : IntKind.i64.wrap ((n2 : Int) + 112) = (n2 : Int) + 112 := by rw [IntKind.wrap_i64]; omega
  have e2 : IntKind.i64.wrap ((n2 : Int) + 112 - 1) = (n2 : Int) + 111 := by rw [IntKind.wrap_i64]; omega
  have e3 : Int.tdiv ((n2 : Int) + 111) 112 = ((tabN n2 : Nat) : Int) := by
    rw [Int.tdiv_eq_ediv_of_nonneg (by omega)]
    unfold tabN
    omega
  have hT : tabN n2 ≤ 1000 := by unfold tabN; omega
  obtain ⟨T, hT'⟩ : ∃ T, T = tabN n2 := ⟨_, rfl⟩
  rw [← hT'] at e3 hT ⊢
  have e4 : IntKind.i64.wrap ((T : Int)) = (T : Int) := by rw [IntKind.wrap_i64]; omega
  have e5 : IntKind.i64.wrap ((n1 : Int) + (T : Int)) = ((n1 + T : Nat) : Int) := by rw [IntKind.wrap_i64]; omega
  clear hT'
  go_enter Try.func28, Try.ntmps28
  go_wp2
  go_ret
  exact ⟨rfl, (Only.refl _ _).alloc _⟩
end Go.Proofs.Ytpoakkdkibameaa
namespace Go.Proofs.Ytpoakkdkibameaa
open Go.RowKit
set_option linter.unusedSimpArgs false
set_option linter.unusedVariables false

/-- The first n entries that are false, among the first k. -/
def fr (F : List Bool) (n : Nat) : Nat → List Nat
  | 0 => []
  | k + 1 => if (fr F n k).length = n ∨ F.getD k false = true then fr F n k else fr F n k ++ [k]
theorem fr_len (F : List Bool) (n : Nat) : ∀ k, (fr F n k).length ≤ k
  | 0 => by simp [fr]
  | k + 1 => by
    have := fr_len F n k
    simp only [fr]
    split
    · omega
    · simp; omega
theorem fr_le (F : List Bool) (n : Nat) : ∀ k, (fr F n k).length ≤ n
  | 0 => by simp [fr]
  | k + 1 => by
    have := fr_le F n k
    simp only [fr]
    split
    · omega
    · rename_i h
      have : (fr F n k).length ≠ n := fun e => h (.inl e)
      simp; omega
theorem fr_stop (F : List Bool) (n k : Nat) (h : (fr F n k).length = n) : ∀ j, fr F n (k + j) = fr F n k
  | 0 => rfl
  | j + 1 => by
    have ih := fr_stop F n k h j
    show (if (fr F n (k + j)).length = n ∨ F.getD (k + j) false = true then fr F n (k + j) else fr F n (k + j) ++ [k + j]) = _
    rw [ih, if_pos (.inl h)]
theorem fr_end (F : List Bool) (n k m : Nat) (h : (fr F n k).length = n) (hk : k ≤ m) : fr F n m = fr F n k := by
  have := fr_stop F n k h (m - k)
  rwa [show k + (m - k) = m by omega] at this
theorem fr_taken (F : List Bool) (n k : Nat) (h : F.getD k false = true) : fr F n (k + 1) = fr F n k := by simp only [fr]; rw [if_pos (.inr h)]
theorem fr_free (F : List Bool) (n k : Nat) (h : F.getD k false = false) (hn : (fr F n k).length ≠ n) : fr F n (k + 1) = fr F n k ++ [k] := by
  simp only [fr]
  rw [if_neg]
  rintro (e | e)
  · exact hn e
  · rw [h] at e; cases e

/-- Flags. -/
def FlagsAt (W : World) (v : Value) (F : List Bool) : Prop := RowAt W v F.length 1 (fun j => .bool (F.getD j false)) ∧ F.length ≤ 140737488351232
theorem FlagsAt.frame {W W' : World} {v : Value} {F : List Bool} (h : FlagsAt W v F) (ho : Only (fun _ => False) W W') : FlagsAt W' v F := ⟨h.1.frame ho (fun _ e => e.elim), h.2⟩
theorem FlagsAt.form {W : World} {v : Value} {F : List Bool} (h : FlagsAt W v F) : ∃ a c, v = .slice a F.length c ∧ F.length ≤ c ∧ ∀ j, j < F.length → ∃ g o, a = some ⟨g, o, none⟩ ∧ W.cell? ⟨g, o + j, none⟩ = some (.bool (F.getD j false)) := by
  rcases h.1 with ⟨rfl, h0⟩ | ⟨ad, c, rfl, hkc, hc⟩
  · exact ⟨none, 0, by rw [h0], by omega, fun j hj => by omega⟩
  · refine ⟨some ad, c, rfl, hkc, fun j hj => ?_⟩
    obtain ⟨g, o, c', hv, hc', _⟩ := h.1.at (by omega)
    simp only [Value.slice.injEq, Option.some.injEq] at hv
    obtain ⟨rfl, _, rfl⟩ := hv
    exact ⟨g, o, rfl, hc' j (by omega)⟩
/-- Numbers as cells. -/
def IL (l : List Nat) : List Value := l.map fun z => .int .i64 (z : Nat)
theorem IL_length (l : List Nat) : (IL l).length = l.length := by simp [IL]
theorem IL_get (zs : List Nat) (j : Nat) (h : j < zs.length) : (IL zs)[j]? = some (.int .i64 (zs.getD j 0 : Nat)) := by simp [IL, List.getD, h]
theorem IL_one (l : List Nat) : ∀ v ∈ IL l, v.oneCell' = true := by
  intro v hv
  simp only [IL, List.mem_map] at hv
  obtain ⟨j, _, rfl⟩ := hv
  rfl
/-- Numbers that were made since B. -/
def FreshI (w : World) (B : Nat) (v : Value) (l : List Nat) : Prop := w.ownsRow B 3 1 v l.length (IL l) ∧ l.length ≤ 1048576
theorem FreshI.frame {w w' : World} {B : Nat} {v : Value} {zs : List Nat} (h : FreshI w B v zs) (ho : Only (fun _ => False) w w') : FreshI w' B v zs := ⟨ho.owns h.1 (fun _ _ e => e), h.2⟩
theorem FreshI.form {w : World} {B : Nat} {v : Value} {zs : List Nat} (h : FreshI w B v zs) : ∃ a c, v = .slice a zs.length c ∧ ∀ j, j < zs.length → ∃ g, a = some ⟨g, 0, none⟩ ∧ w.cell? ⟨g, j, none⟩ = some (.int .i64 (zs.getD j 0 : Nat)) := by
  rcases h.1.2 with ⟨rfl, h0⟩ | ⟨g, cap, cur, rfl, _⟩
  · exact ⟨none, 0, by rw [h0], fun j hj => by omega⟩
  · refine ⟨some ⟨g, 0, none⟩, cap, rfl, fun j hj => ⟨g, rfl, ?_⟩⟩
    rw [h.1.cellAt j (by omega)]
    exact IL_get zs j hj
theorem info3 : (Try.prog.info? 3).map (fun i => (i.zero, i.size, i.bytes)) = some (some (.int .i64 0), 1, 8) := by kernel_rfl
/-- append(v, q) of a number. -/
theorem app_int {w : World} {B : Nat} {v : Value} {zs : List Nat} (h : FreshI w B v zs) (hB : B ≤ w.heap.size) (q : Nat) (hl : zs.length + 1 ≤ 1048576) :
    ∃ a cap w', (∀ ty, (Builtin.append_ #[54, 54] ty #[v, .slice (some ⟨w.heap.size, 0, none⟩) 1 1]).run Try.prog (w.alloc (.cells #[.int .i64 (q : Int)] 3)) = .ok (.slice a (zs.length + 1) cap) w') ∧ FreshI w' B (.slice a (zs.length + 1) cap) (zs ++ [q]) ∧ Only (fun i => B ≤ i) w w' := by
  obtain ⟨i0, hi0, hz0, hz1, hz2⟩ := info_parts info3
  have o1 : Only (fun _ => False) w (w.alloc (.cells #[.int .i64 (q : Int)] 3)) := (Only.refl _ w).alloc _
  have h2 := h.frame o1
  have key := fun ty => run_append_own_at (P := Try.prog) (w.alloc (.cells #[.int .i64 (q : Int)] 3)) B 54 ty 3 i0 _ 1 8 Try.underlying54 hi0 hz0 hz1 hz2 rfl (by omega) v zs.length (IL zs) h2.1 ⟨w.heap.size, 0, none⟩ 1 1 [.int .i64 (q : Int)] rfl (World.news_of_block (heap_alloc_new w _)) (by simp [Value.oneCell']) (by unfold maxLen; omega) (by omega) (by have := o1.size; omega)
  obtain ⟨v', w', hr, own', hg, _, _⟩ := key 0
  obtain ⟨a, cap, rfl⟩ := ownsRow_slice own'
  refine ⟨a, cap, w', fun ty => by rw [← hr]; rfl, ⟨?_, by simpa using hl⟩, (o1.mono (fun _ _ e => e.elim)).trans ((Only.refl _ _).grown hg (fun k e hk => (h2.1.lt k e).1)) (fun _ _ e => e)⟩
  have e : IL (zs ++ [q]) = IL zs ++ [.int .i64 (q : Int)] := by simp [IL]
  rw [e, List.length_append]
  exact own'
theorem FreshI.nil (w : World) (B : Nat) : FreshI w B (.slice none 0 0) [] := ⟨World.ownsRow_nil _ _ _ _, by simp⟩

/-- What First answers. -/
def FirstIs (L : List Nat) (n : Nat) (w : World) (e : Ending) (w' : World) : Prop :=
  (L.length < n ∧ e = .returned (.tuple #[.slice none 0 0, .int .i64 7]) ∧ Only (fun _ => False) w w') ∨
  (L.length = n ∧ ∃ u, e = .returned (.tuple #[u, .int .i64 0]) ∧ FreshI w' w.heap.size u L ∧ Only (fun _ => False) w w')

set_option maxHeartbeats 400000 in
theorem first_bad (v : Value) (n : Int) (w : World) (h : n < 0) :
    Calls Try.prog 29 #[v, .int .i64 n] w fun e w' => e = .returned (.tuple #[.slice none 0 0, .int .i64 2]) ∧ w' = w := by
  go_enter Try.func29, Try.ntmps29
  go_wp2
  go_ret2
  exact ⟨rfl, rfl⟩
set_option maxRecDepth 100000 in
set_option maxHeartbeats 2000000 in
theorem first_ok (v : Value) (F : List Bool) (n : Nat) (w : World) (h : FlagsAt w v F) (hF : F.length ≤ 1048576) :
    Calls Try.prog 29 #[v, .int .i64 n] w fun e w' => FirstIs (fr F n F.length) n w e w' := by
  obtain ⟨a, c, rfl, hcap, hc⟩ := h.form
  have HC : Hid _ := hc
  obtain ⟨m, hm⟩ : ∃ m, m = F.length := ⟨_, rfl⟩
  have HM : Hid (m = F.length) := hm
  rw [← hm] at hF
  rw [← hm]
  have n0 : ¬ (n : Int) < 0 := by omega
  clear h hc hcap hm
  go_enter Try.func29, Try.ntmps29
  go_wp2
  go_loopw [6, 13] (fun b t wr => ∃ k : Nat, k ≤ m ∧ t = .int .i64 k ∧ FreshI wr w.heap.size b (fr F n k) ∧ Only (fun _ => False) w wr) (fun _ t _ => m - (intOf t).toNat)
  case atStart => exact ⟨0, by omega, rfl, FreshI.nil _ _, Only.refl _ _⟩
  case round =>
    obtain ⟨k, hk, rfl, hf, ho⟩ := hrel
    obtain ⟨w2, rfl⟩ : ∃ w2, w2 = wr := ⟨_, rfl⟩
    obtain ⟨b, rfl⟩ : ∃ x, x = u6 := ⟨_, rfl⟩
    obtain ⟨a2, c2, rfl, _⟩ := hf.form
    have HF : Hid (FreshI w2 w.heap.size (.slice a2 (fr F n k).length c2) (fr F n k)) := hf
    have HO : Hid (Only (fun _ => False) w w2) := ho
    have hlk := fr_len F n k
    have hln := fr_le F n k
    obtain ⟨L, hL⟩ : ∃ L, L = fr F n k := ⟨_, rfl⟩
    have HL : Hid (L = fr F n k) := hL
    rw [← hL] at hlk hln HF hf
    rw [← hL]
    obtain ⟨q, hq⟩ : ∃ q, q = L.length := ⟨_, rfl⟩
    have HQ : Hid (q = L.length) := hq
    rw [← hq] at hlk hln HF hf
    rw [← hq]
    have fin : ∀ e, fr F n m = L → FirstIs (fr F n m) n w e w2 ∨ True := fun _ _ => .inr trivial
    clear fin hL
    by_cases hlt : k < m
    · have k1 : (k : Int) < (m : Int) := by omega
      have k0 : (0 : Int) ≤ (k : Int) := by omega
      obtain ⟨g, o, rfl, hcell⟩ := HC.out k (by have := HM.out; omega)
      have y1 := ho.cell hcell (fun e => e)
      by_cases hqn : q = n
      · have he : ((q : Int) == (n : Int)) = true := by simp [hqn]
        have hn2 : ¬ (q : Int) < (n : Int) := by omega
        have HE : Hid (fr F n m = L ∧ L.length = n) := by
          have e1 : (fr F n k).length = n := by rw [← HL.out, ← hq]; exact hqn
          exact ⟨(fr_end F n k m e1 (by omega)).trans HL.out.symm, by omega⟩
        clear hf ho hcell hqn hq
        go_wp2
        go_ret2
        refine .inr ⟨by rw [HE.out.1]; exact HE.out.2, _, rfl, by rw [HE.out.1]; exact HF.out, HO.out⟩
      · have he : ((q : Int) == (n : Int)) = false := by simp; omega
        cases hb : F.getD k false with
        | true =>
          rw [hb] at y1
          have HT : Hid (fr F n (k + 1) = L) := (fr_taken F n k hb).trans HL.out.symm
          clear hf ho hcell hqn hq hb
          go_wp2
          go_roundw
          case rel => exact ⟨k + 1, by omega, by go_num, by rw [HT.out]; exact HF.out, HO.out⟩
          case measure => simp [intOf]; omega
        | false =>
          rw [hb] at y1
          have HT : Hid (fr F n (k + 1) = L ++ [k]) := (by rw [fr_free F n k hb (by rw [← HL.out, ← hq]; exact hqn), HL.out] : _ = _)
          obtain ⟨a5, c5, w5, hr5, hf5, ho5⟩ := app_int hf ho.size k (by omega)
          rw [← hq] at hr5 hf5
          have HR : Hid _ := hr5
          have HF5 : Hid (FreshI w5 w.heap.size (.slice a5 (q + 1) c5) (fr F n (k + 1))) := by rw [HT.out]; exact hf5
          have HO5 : Hid (Only (fun _ => False) w w5) := ho.trans ho5 (fun i hi e => by omega)
          clear hf ho hcell hqn hq hb hr5 hf5 ho5
          go_wp2_with (at_builtin; go_must (refine wpList_append_run rfl _ _ 54 rfl _ _ (.slice a5 (q + 1) c5) rfl rfl HR.out ?_))
          go_roundw
          case rel => exact ⟨k + 1, by omega, by go_num, HF5.out, HO5.out⟩
          case measure => simp [intOf]; omega
    · obtain rfl : k = m := by omega
      by_cases hqn : q < n
      · have hn2 : (q : Int) < (n : Int) := by omega
        clear hf ho hq
        go_wp2
        go_ret2
        exact .inl ⟨by rw [← HL.out, ← HQ.out]; exact hqn, rfl, HO.out⟩
      · have hn2 : ¬ (q : Int) < (n : Int) := by omega
        clear hf ho hq
        go_wp2
        go_ret2
        exact .inr ⟨by rw [← HL.out, ← HQ.out]; omega, _, rfl, by rw [← HL.out]; exact HF.out, HO.out⟩

end Go.Proofs.Ytpoakkdkibameaa
namespace Go.Proofs.Ytpoakkdkibameaa
open Go.RowKit Go.Maps
set_option linter.unusedSimpArgs false
set_option linter.unusedVariables false

/-- n flags. -/
def flF (n : Nat) (f : Nat → Bool) : List Bool := (List.range n).map f
theorem flF_length (n : Nat) (f : Nat → Bool) : (flF n f).length = n := by simp [flF]
theorem flF_getD (n : Nat) (f : Nat → Bool) (j : Nat) (h : j < n) : (flF n f).getD j false = f j := by simp [flF, List.getD, h]
theorem flF_set (n : Nat) (f : Nat → Bool) (k : Nat) : (flF n f).set k true = flF n (fun j => f j || j == k) := by
  apply List.ext_getElem
  · simp [flF]
  · intro i h1 h2
    simp [flF] at h1
    rw [List.getElem_set]
    by_cases e : k = i
    · subst e; simp [flF]
    · simp [flF, e, Ne.symm e]
/-- The block g holds n flags. -/
def FBlk (w : World) (g n : Nat) (f : Nat → Bool) : Prop := w.heap[g]? = some (.cells ((flF n f).map Value.bool).toArray 4 (0, 0))
theorem FBlk.lt {w : World} {g n : Nat} {f : Nat → Bool} (h : FBlk w g n f) : g < w.heap.size := (Array.getElem?_eq_some_iff.1 h).1
theorem FBlk.frame {w w' : World} {g n : Nat} {f : Nat → Bool} {bs : Nat → Prop} (h : FBlk w g n f) (ho : Only bs w w') (hn : ¬ bs g) : FBlk w' g n f := (ho.block g h.lt hn).trans h
theorem FBlk.cell {w : World} {g n : Nat} {f : Nat → Bool} (h : FBlk w g n f) (j : Nat) (hj : j < n) : w.cell? ⟨g, j, none⟩ = some (.bool (f j)) := by
  rw [cell_of_row _ _ _ _ _ _ h]
  simp [flF, hj]
theorem FBlk.frozen {w : World} {g n : Nat} {f : Nat → Bool} (h : FBlk w g n f) (j : Nat) : w.frozen? ⟨g, j, none⟩ = false := frozen_of_row _ _ _ _ _ h
theorem FBlk.set {w : World} {g n : Nat} {f : Nat → Bool} (h : FBlk w g n f) (k : Nat) : FBlk (w.setCell ⟨g, k, none⟩ (.bool true)) g n (fun j => f j || j == k) := by
  unfold FBlk
  rw [heap_setCell_same w g k _ _ _ h, ← flF_set]
  congr 2
  simp [List.map_set]
theorem FBlk.flags {w : World} {g n : Nat} {f : Nat → Bool} (h : FBlk w g n f) (hn : n ≤ 140737488351232) : FlagsAt w (.slice (some ⟨g, 0, none⟩) n n) (flF n f) := by
  refine ⟨.inr ⟨⟨g, 0, none⟩, n, by rw [flF_length], by rw [flF_length]; exact Nat.le_refl _, fun j hj => ?_⟩, by rw [flF_length]; exact hn⟩
  rw [flF_length] at hj
  rw [Addr.add_mid, Nat.zero_add, h.cell j (by omega)]
  show some (Value.bool (f j)) = some (Value.bool ((flF n f).getD j false))
  rw [flF_getD n f j (by omega)]
theorem FBlk.congr {w : World} {g n : Nat} {f f' : Nat → Bool} (h : FBlk w g n f) (e : ∀ j, j < n → f j = f' j) : FBlk w g n f' := by
  have : flF n f = flF n f' := by
    unfold flF
    apply List.map_congr_left
    intro j hj
    exact e j (List.mem_range.1 hj)
  unfold FBlk
  rw [← this]
  exact h
theorem made_fl (n : Nat) : madeCells (Value.bool false).cells n = ((flF n (fun _ => false)).map Value.bool).toArray := by
  apply Array.ext_getElem?
  intro i
  by_cases hi : i < n
  · simp [madeCells, hi, flF, Value.cells, Nat.mod_one]
  · rw [Array.getElem?_eq_none (by simp [madeCells]; omega), Array.getElem?_eq_none (by simp [flF]; omega)]
theorem make_fl (n : Nat) (hn : n ≤ 140737488351232) (w : World) : (Instr.makeSlice 29 (.int .i64 n) (.int .i64 n)).run Try.prog w = .ok (.slice (some ⟨w.heap.size, 0, none⟩) n n) (w.alloc (.cells ((flF n (fun _ => false)).map Value.bool).toArray 4)) := by
  obtain ⟨i0, hi0, hz0, hz1, hz2⟩ := info_parts info4
  have h := run_make (P := Try.prog) w 29 4 i0 _ Try.underlying29 hi0 hz0 .i64 .i64 n n (by omega) (Int.le_refl _) (by rw [hz2]; omega) (by omega)
  rw [hz1, Int.toNat_natCast, Nat.mul_one] at h
  rw [← made_fl]
  exact h

set_option maxRecDepth 100000 in
set_option maxHeartbeats 2000000 in
theorem taken_any (n : Nat) (hn : 2 ≤ n) (hn2 : n ≤ 2048) (w : World) :
    Calls Try.prog 46 #[.int .i64 n] w fun e w' => e = .returned (.slice (some ⟨w.heap.size, 0, none⟩) n n) ∧ FBlk w' w.heap.size n (fun j => decide (j < 2)) ∧ Only (fun _ => False) w w' := by
  obtain ⟨Z, hZ⟩ : ∃ Z, Z = ((flF n (fun _ => false)).map Value.bool).toArray := ⟨_, rfl⟩
  have hmk : (Instr.makeSlice 29 (.int .i64 n) (.int .i64 n)).run Try.prog w = .ok (.slice (some ⟨w.heap.size, 0, none⟩) n n) (w.alloc (.cells Z 4)) := by rw [hZ]; exact make_fl n (by omega) w
  have HB : Hid (FBlk (w.alloc (.cells Z 4)) w.heap.size n (fun _ => false)) := by rw [hZ]; exact heap_alloc_new w _
  have n0 : (0 : Int) < n := by omega
  have n1 : (1 : Int) < n := by omega
  clear hZ
  go_enter Try.func46, Try.ntmps46
  go_wp2
  clear hmk
  obtain ⟨wa, hwa⟩ : ∃ q, q = w.alloc (.cells Z 4) := ⟨_, rfl⟩
  have HO : Hid (Only (fun k => k = w.heap.size) w wa) := by rw [hwa]; exact ((Only.refl _ w).alloc _)
  rw [← hwa] at HB ⊢
  clear hwa
  go_loopw [7] (fun t wr => ∃ k : Int, (k = 0 ∨ k = 1 ∨ k = 2) ∧ t = .int .i64 k ∧ FBlk wr w.heap.size n (fun j => decide ((j : Int) < k)) ∧ Only (fun k => k = w.heap.size) w wr) (fun t _ => 2 - (intOf t).toNat)
  case atStart => exact ⟨0, .inl rfl, rfl, HB.out.congr (fun j _ => by rw [Bool.eq_iff_iff]; simp), HO.out⟩
  case round =>
    clear HB HO
    obtain ⟨k, hk, rfl, hb, ho⟩ := hrel
    obtain ⟨w2, rfl⟩ : ∃ w2, w2 = wr := ⟨_, rfl⟩
    have HB : Hid _ := hb
    have HO : Hid _ := ho
    rcases hk with rfl | rfl | rfl
    · have hc := hb.cell 0 (by omega)
      have hf := hb.frozen 0
      have HN : Hid (FBlk (w2.setCell ⟨w.heap.size, 0, none⟩ (.bool true)) w.heap.size n (fun j => decide ((j : Int) < 1))) := (hb.set 0).congr (fun j _ => by rw [Bool.eq_iff_iff]; simp; omega)
      have HN2 : Hid (Only (fun k => k = w.heap.size) w (w2.setCell ⟨w.heap.size, 0, none⟩ (.bool true))) := ho.setCell _ _ (fun _ => rfl)
      clear hb ho
      go_wp2
      go_roundw
      case rel => exact ⟨1, .inr (.inl rfl), by go_num, HN.out, HN2.out⟩
      case measure => simp [intOf]
    · have hc := hb.cell 1 (by omega)
      have hf := hb.frozen 1
      have HN : Hid (FBlk (w2.setCell ⟨w.heap.size, 1, none⟩ (.bool true)) w.heap.size n (fun j => decide ((j : Int) < 2))) := (hb.set 1).congr (fun j _ => by rw [Bool.eq_iff_iff]; simp; omega)
      have HN2 : Hid (Only (fun k => k = w.heap.size) w (w2.setCell ⟨w.heap.size, 1, none⟩ (.bool true))) := ho.setCell _ _ (fun _ => rfl)
      clear hb ho
      go_wp2
      go_roundw
      case rel => exact ⟨2, .inr (.inr rfl), by go_num, HN.out, HN2.out⟩
      case measure => simp [intOf]
    · clear hb ho
      go_wp2
      go_ret
      exact ⟨rfl, FBlk.congr HB.out (fun j _ => by rw [Bool.eq_iff_iff]; simp; omega), Only.mono HO.out (fun k hk e => by omega)⟩
end Go.Proofs.Ytpoakkdkibameaa
namespace Go.Proofs.Ytpoakkdkibameaa
open Go.RowKit Go.Maps
set_option linter.unusedSimpArgs false
set_option linter.unusedVariables false

/-- Which pages are roots', or in use by the committed root. -/
def usedF (x : SS) (j : Nat) : Bool := decide (j < 2) || x.com.any (fun p => p.2.1 == j) || x.tabs.any (fun t => t == j)
theorem RowAt.shape {W : World} {v : Value} {k : Nat} {f : Nat → Value} (h : RowAt W v k 1 f) : ∃ a c, v = .slice a k c ∧ ∀ j, j < k → ∃ g o, a = some ⟨g, o, none⟩ ∧ W.cell? ⟨g, o + j, none⟩ = some (f j) := by
  rcases h with ⟨rfl, h0⟩ | ⟨ad, c, rfl, hkc, hc⟩
  · exact ⟨none, 0, by rw [h0], fun j hj => by omega⟩
  · refine ⟨some ad, c, rfl, fun j hj => ?_⟩
    obtain ⟨g, o, c', hv, hc', _⟩ := RowAt.at (W := W) (f := f) (.inr ⟨ad, c, rfl, hkc, hc⟩) (by omega)
    simp only [Value.slice.injEq, Option.some.injEq] at hv
    obtain ⟨rfl, _, rfl⟩ := hv
    exact ⟨g, o, rfl, hc' j (by omega)⟩
theorem Only.grows {w w' : World} {g : Nat} (h : Only (fun k => k = g) w w') : w.grownBy w' (some g) := ⟨h.os, h.tape, h.output, h.size, fun i hi hne => h.block i hi (fun e => hne (by rw [e]))⟩
theorem Only.grows0 {w w' : World} (h : Only (fun _ => False) w w') : w.grownBy w' none := ⟨h.os, h.tape, h.output, h.size, fun i hi _ => h.block i hi (fun e => e)⟩
/-- What stands at a key. -/
theorem at_key {l : List (Int × Value)} {k : Int} {v : Value} (h : ∀ zd, (DataW.map (entL l)).atKey (.int .i64 k) zd = .held v) : getL l k = some v := by
  have h1 := h (.held (.bool true))
  have h2 := h (.held (.bool false))
  rw [entL_at] at h1 h2
  cases e : getL l k with
  | none => rw [e] at h1 h2; simp at h1 h2; rw [← h1] at h2; cases h2
  | some u => rw [e] at h1; simp at h1; rw [h1]

set_option maxRecDepth 100000 in
set_option maxHeartbeats 4000000 in
theorem used_any {w : World} {dk : Nat → Prop} {s p mc mn : Nat} {tv : Value} {x : SS} (h : StAt w dk s p mc mn tv x) :
    Calls Try.prog 30 #[.pointer (some ⟨s, 0, none⟩)] w fun e w' => e = .returned (.slice (some ⟨w.heap.size, 0, none⟩) x.size x.size) ∧ FBlk w' w.heap.size x.size (usedF x) ∧ Only (fun _ => False) w w' := by
  have c1 := h.c1
  have HT : Hid (Calls Try.prog 46 _ _ _) := taken_any x.size (by have := h.wf.size; omega) h.wf.size.2 w
  have HS : Hid (StAt w dk s p mc mn tv x) := h
  have hsl := h.lt
  have hml := h.com.lt
  obtain ⟨sl, hm, hb⟩ := h.com
  have HB : Hid (∀ q ∈ x.com, BytesAt w (sl q.1) q.2.2 ∧ ∀ b, (sl q.1).ownBlock = some b → b < w.heap.size ∧ ¬ mutB dk s mc mn b) := hb
  have HM : Hid (MapAt w mc (x.com.map fun p => (p.1, pgV sl p))) := hm
  clear h hm hb
  go_enter Try.func30, Try.ntmps30
  go_wp2_with fail
  refine (show Calls Try.prog 46 _ _ _ from HT.out).mono ?_
  rintro e w1 ⟨rfl, hf1, ho1⟩
  have c5 := (HS.out.still ho1).c5
  have hm1 := HM.out.frame ho1 (fun e => e)
  have H1 : Hid (FBlk w1 w.heap.size x.size (fun j => decide (j < 2)) ∧ Only (fun _ => False) w w1) := ⟨hf1, ho1⟩
  have s1 : w.heap.size < w1.heap.size := hf1.lt
  clear HT hf1 ho1
  go_wp2_with (at_range; refine wpList_range_own _ rfl _ 59 rfl 3 77 map_keyed Try.underlying59 hv mc _ _ rfl hm1.own ?_; intro w2 hrg0 hg0 hs0)
  go_frame
  obtain ⟨r, hr⟩ : ∃ r, r = w1.heap.size := ⟨_, rfl⟩
  rw [← hr] at hrg0 hs0 ⊢
  clear hm1 c5
  obtain ⟨D, hD⟩ : ∃ D, D = (DataW.map (entL (x.com.map fun p => (p.1, pgV sl p)))) := ⟨_, rfl⟩
  rw [← hD, List.length_map] at hrg0
  have HR0 : Hid (r = w1.heap.size) := hr
  have HD : Hid (D = (DataW.map (entL (x.com.map fun p => (p.1, pgV sl p))))) := hD
  clear hr hD
  go_loopw [18] (fun _ wr => ∃ (left : Lit → Bool) (cnt : Nat) (f : Nat → Bool), wr.ranges Try.prog 3 hv mc r x.com.length D left cnt ∧ FBlk wr w.heap.size x.size f ∧
      (∀ j, f j = true ↔ j < 2 ∨ ∃ q ∈ x.com, q.2.1 = j ∧ left (.int .i64 q.1) = false) ∧ Only (fun _ => False) w wr)
    (fun _ wr => wr.rangeLeft mc r)
  case atStart =>
    refine ⟨_, _, fun j => decide (j < 2), hrg0, ?_, fun j => ?_, ?_⟩
    · exact (hg0.block _ s1 (by simp)).trans H1.out.1
    · simp only [decide_eq_true_eq]
      constructor
      · exact .inl
      · rintro (e | ⟨q, hq, _, e⟩)
        · exact e
        · rw [HD.out, entL_has, getL_map] at e
          cases hfind : x.com.find? fun p => p.1 == q.1 with
          | none =>
            have := List.find?_eq_none.1 hfind q hq
            simp at this
          | some q' => rw [hfind] at e; cases e
    · exact H1.out.2.grown hg0 (fun k e _ => by cases e)
  case round =>
    obtain ⟨left, cnt, f, hrg, hfb, hff, ho⟩ := hrel
    obtain ⟨w9, rfl⟩ : ∃ w9, w9 = wr := ⟨_, rfl⟩
    have hfl := hfb.lt
    go_wp2_with (at_next; refine wpList_next_ranges _ rfl _ rfl 3 map_keyed hv (Value.int .i64) (fun v : Value => v) (fun key kl hk => by obtain ⟨z, hz, _⟩ := Maps.keyOf_int_inv Try.underlying3 hk; exact ⟨z, hz⟩) (fun v y _ => ⟨v, rfl⟩) mc r _ _ _ _ rfl hrg ?_ ?_)
    · intro hc0 hl0
      have HF : Hid (FBlk w9 w.heap.size x.size (fun j => decide (j < 2) || x.com.any (fun p => p.2.1 == j))) := hfb.congr (fun j _ => by
        rw [Bool.eq_iff_iff, hff]
        simp only [Bool.or_eq_true, decide_eq_true_eq, List.any_eq_true, beq_iff_eq]
        constructor
        · rintro (e | ⟨q, hq, e, _⟩)
          · exact .inl e
          · exact .inr ⟨q, hq, e⟩
        · rintro (e | ⟨q, hq, e⟩)
          · exact .inl e
          · exact .inr ⟨q, hq, e, hl0 _⟩)
      have HO : Hid (Only (fun _ => False) w w9) := ho
      clear hrg hfb hff ho hc0 hl0
      have hst := HS.out.still HO.out
      have c4 := hst.c4
      obtain ⟨a4, n4, hv4, hc4⟩ := hst.tabs.shape
      have hl4 := hst.wf.tabs.1
      rw [hv4] at c4
      have HC4 : Hid (∀ j, j < x.tabs.length → ∃ g o, a4 = some ⟨g, o, none⟩ ∧ w9.cell? ⟨g, o + j, none⟩ = some (.int .i64 (x.tabs.getD j 0 : Nat))) := hc4
      have HB4 : Hid (∀ g o, a4 = some ⟨g, o, none⟩ → g < w.heap.size) := fun g o e => (HS.out.tabsB g (by rw [hv4, e]; rfl)).1
      clear hst hc4 hv4
      go_wp2
      go_loopw [31] (fun t w4 => ∃ k : Nat, k ≤ x.tabs.length ∧ t = .int .i64 k ∧ FBlk w4 w.heap.size x.size (fun j => decide (j < 2) || x.com.any (fun p => p.2.1 == j) || (x.tabs.take k).any (fun t => t == j)) ∧ Only (fun k => k = w.heap.size) w9 w4) (fun t _ => x.tabs.length - (intOf t).toNat)
      case atStart => exact ⟨0, by omega, rfl, FBlk.congr HF.out (fun j _ => by simp), Only.refl _ _⟩
      case round =>
        obtain ⟨k, hk, rfl, hfb, ho⟩ := hrel
        obtain ⟨w5, rfl⟩ : ∃ w5, w5 = wr := ⟨_, rfl⟩
        have HB5 : Hid (FBlk w5 w.heap.size x.size (fun j => decide (j < 2) || x.com.any (fun p => p.2.1 == j) || (x.tabs.take k).any (fun t => t == j))) := hfb
        have HO5 : Hid (Only (fun k => k = w.heap.size) w9 w5) := ho
        clear hfb ho
        by_cases hlt : k < x.tabs.length
        · have k1 : (k : Int) < (x.tabs.length : Int) := by omega
          have k0 : (0 : Int) ≤ (k : Int) := by omega
          obtain ⟨g, o, rfl, hc0⟩ := HC4.out k hlt
          have hg := HB4.out g o rfl
          have hc1 : w5.cell? ⟨g, o + k, none⟩ = some (.int .i64 (x.tabs.getD k 0 : Nat)) := HO5.out.cell hc0 (by simp; omega)
          obtain ⟨t, ht⟩ : ∃ t, t = x.tabs.getD k 0 := ⟨_, rfl⟩
          have hmem : t ∈ x.tabs := by rw [ht]; simp [List.getD, hlt]
          obtain ⟨t0, t1⟩ := HS.out.wf.tabs.2 t hmem
          have HTk : Hid (x.tabs.take (k + 1) = x.tabs.take k ++ [t]) := (by rw [List.take_succ_eq_append_getElem hlt, ht]; simp [List.getD, hlt] : _ = _)
          rw [← ht] at hc1
          have a0 : (0 : Int) ≤ (t : Int) := by omega
          have a1 : (t : Int) < (x.size : Int) := by omega
          have hcc := HB5.out.cell t t1
          have hfz := HB5.out.frozen t
          obtain ⟨bt, hbt⟩ : ∃ b, b = (decide (t < 2) || x.com.any (fun p => p.2.1 == t) || (x.tabs.take k).any (fun u => u == t)) := ⟨_, rfl⟩
          rw [← hbt] at hcc
          have HN : Hid (FBlk (w5.setCell ⟨w.heap.size, t, none⟩ (.bool true)) w.heap.size x.size (fun j => decide (j < 2) || x.com.any (fun p => p.2.1 == j) || (x.tabs.take (k + 1)).any (fun t => t == j))) := (HB5.out.set t).congr (fun j _ => by
            rw [HTk.out, List.any_append]
            simp only [List.any_cons, List.any_nil, Bool.or_false, Bool.or_assoc]
            rw [show (j == t) = (t == j) from Bool.beq_comm ..])
          have HN2 : Hid (Only (fun k => k = w.heap.size) w9 (w5.setCell ⟨w.heap.size, t, none⟩ (.bool true))) := HO5.out.setCell _ _ (fun _ => rfl)
          clear HB5 HO5 hc0 ht hmem HTk hbt t0 t1
          go_wp2
          go_roundw
          case rel => exact ⟨k + 1, by omega, by go_num, HN.out, HN2.out⟩
          case measure => simp [intOf]; omega
        · have e : k = x.tabs.length := by omega
          subst e
          have k1 : ¬ (x.tabs.length : Int) < (x.tabs.length : Int) := by omega
          clear c4
          go_wp2
          go_ret
          refine ⟨rfl, FBlk.congr HB5.out (fun j _ => by rw [List.take_length]; rfl), HO.out.trans HO5.out (fun k hk e => by omega)⟩
    · intro z v kl yd yp w3 cnt3 hkey hlk hvv hat hrg3 hlt hg3 hs3 hen
      obtain ⟨z', hz', rfl, hzw⟩ := Maps.keyOf_int_inv Try.underlying3 hkey
      obtain rfl : z = z' := by injection hz'
      simp only [hv, Option.some.injEq, Prod.mk.injEq] at hvv
      obtain ⟨rfl, rfl⟩ := hvv
      rw [HD.out] at hat
      have hget := at_key hat
      rw [getL_map] at hget
      cases hfind : x.com.find? fun p => p.1 == z with
      | none => rw [hfind] at hget; cases hget
      | some q =>
        rw [hfind] at hget
        simp only [Option.map_some, Option.some.injEq] at hget
        obtain ⟨hq1, rfl⟩ := find_key hfind
        obtain ⟨ad, n, c, hsl'⟩ := bytes_slice (HB.out q hq1).1
        obtain rfl : v = .agg #[.int .i64 (q.2.1 : Nat), .slice ad n c] := by rw [← hget, pgV, hsl']
        obtain ⟨hk1, ⟨ha1, ha2⟩, _⟩ := HS.out.wf.com q hq1
        have a0 : (0 : Int) ≤ (q.2.1 : Int) := by omega
        have a1 : (q.2.1 : Int) < (x.size : Int) := by omega
        have hgr : w.heap.size ≠ r := by have := HR0.out; omega
        have hf3 : FBlk w3 w.heap.size x.size f := (hg3.block _ hfl (by simpa using hgr)).trans hfb
        obtain ⟨wp, hwp⟩ : ∃ t, t = w3.alloc (.cells #[.int .i64 (q.2.1 : Nat), .slice ad n c] 77) := ⟨_, rfl⟩
        have op3 : Only (fun _ => False) w3 wp := by rw [hwp]; exact (Only.refl _ w3).alloc _
        have hfp := hf3.frame op3 (fun e => e)
        have hcc := hfp.cell q.2.1 (by omega)
        have hfz := hfp.frozen q.2.1
        rw [hwp] at hcc hfz
        have oS : Only (fun k => k = w.heap.size) wp (wp.setCell ⟨w.heap.size, q.2.1, none⟩ (.bool true)) := (Only.refl _ wp).setCell _ _ (fun _ => rfl)
        have HR : Hid (∀ w4, w4 = (w3.alloc (.cells #[.int .i64 (q.2.1 : Nat), .slice ad n c] 77)).setCell ⟨w.heap.size, q.2.1, none⟩ (.bool true) →
            w4.ranges Try.prog 3 hv mc r x.com.length D (fun z => left z && !z.sameKey (.int .i64 q.1)) cnt3 ∧ FBlk w4 w.heap.size x.size (fun j => f j || j == q.2.1) ∧ Only (fun _ => False) w w4 ∧
            (∀ j, (f j || j == q.2.1) = true ↔ j < 2 ∨ ∃ q' ∈ x.com, q'.2.1 = j ∧ (left (.int .i64 q'.1) && !(Lit.int .i64 q'.1).sameKey (.int .i64 q.1)) = false)) := by
          rintro w4 rfl
          rw [← hwp]
          refine ⟨((hrg3.kept op3.grows0 (by simp) (by simp)).kept oS.grows (by simp; omega) (by simp; exact fun e => hgr e.symm)), hfp.set q.2.1, ?_, fun j => ?_⟩
          · exact ((ho.grown hg3 (fun k e hk => by injection e with e; have := HR0.out; omega)).trans op3 (fun _ _ e => e)).trans oS (fun k hk e => by omega)
          · rw [Bool.or_eq_true, hff, beq_iff_eq]
            constructor
            · rintro ((e | ⟨q', hq', e, e'⟩) | e)
              · exact .inl e
              · exact .inr ⟨q', hq', e, by rw [e']; rfl⟩
              · exact .inr ⟨q, hq1, e.symm, by rw [sameKey_int]; simp⟩
            · rintro (e | ⟨q', hq', e, e'⟩)
              · exact .inl (.inl e)
              · rw [sameKey_int] at e'
                by_cases ek : q'.1 = q.1
                · have hr' : q' = q := by
                    have g1 := (getL_mem HS.out.com.rise q'.1 q'.2).2 hq'
                    have g2 := (getL_mem HS.out.com.rise q.1 q.2).2 hq1
                    rw [ek, g2] at g1
                    injection g1 with g1
                    exact Prod.ext ek g1.symm
                  subst hr'
                  exact .inr e.symm
                · have : (q'.1 == q.1) = false := by simpa using ek
                  rw [this] at e'
                  exact .inl (.inr ⟨q', hq', e, by simpa using e'⟩)
        have HL : Hid (w9.rangeLeft mc r = cnt) := hrg.left_eq
        have HLT : Hid _ := hlt
        clear hg3 hs3 hrg3 hfb hff ho hrg hlt hat hget hf3 oS op3 hfp hwp hkey hlk hz' hsl' hfind hk1
        go_wp2
        go_roundw
        case rel =>
          obtain ⟨g1, g2, g3, g4⟩ := HR.out _ rfl
          exact ⟨_, cnt3, _, g1, g2, g4, g3⟩
        case measure =>
          obtain ⟨g1, _⟩ := HR.out _ rfl
          rw [g1.left_eq, HL.out]
          exact HLT.out
end Go.Proofs.Ytpoakkdkibameaa
namespace Go.Proofs.Ytpoakkdkibameaa
open Go.RowKit
set_option linter.unusedSimpArgs false
set_option linter.unusedVariables false

theorem Fresh.nil (w : World) (B : Nat) : Fresh w B (.slice none 0 0) [] := ⟨World.ownsRow_nil _ _ _ _, by simp, fun z h => by cases h⟩
theorem own_lt {w : World} {B : Nat} {v : Value} {zs : List Nat} (h : Fresh w B v zs) (b : Nat) (hb : v.ownBlock = some b) : B ≤ b ∧ b < w.heap.size := h.1.lt b hb
/-- append(v, u...) where v was made since B. -/
theorem app_fresh {w : World} {B : Nat} {v u : Value} {zs ys : List Nat} (h : Fresh w B v zs) (hu : BytesAt w u ys) (hB : B ≤ w.heap.size) (hl : zs.length + ys.length ≤ 140737488355328) :
    ∃ a cap w', (∀ ty, (Builtin.append_ #[28, 28] ty #[v, u]).run Try.prog w = .ok (.slice a (zs.length + ys.length) cap) w') ∧ Fresh w' B (.slice a (zs.length + ys.length) cap) (zs ++ ys) ∧ Only (fun i => B ≤ i) w w' := by
  obtain ⟨i0, hi0, hz0, hz1, hz2⟩ := info_parts info5
  rcases hu.1 with ⟨rfl, h0⟩ | ⟨ad, c, rfl, hkc, hc⟩
  · obtain rfl : ys = [] := List.eq_nil_of_length_eq_zero h0
    obtain ⟨a, cap, rfl⟩ := h.form
    refine ⟨a, cap, w, fun ty => run_append_owned_none _ B 28 ty 5 i0 1 Try.underlying28 hi0 _ zs.length (BL zs) h.1, by simpa using h, Only.refl _ _⟩
  · have hnews : ∀ j x, (BL ys)[j]? = some x → w.cell? (ad.add j) = some x := fun j x hx => by
      have hj : j < ys.length := by have := (List.getElem?_eq_some_iff.1 hx).1; rwa [BL_length] at this
      rw [hc j (by omega)]
      rw [BL_get _ _ hj] at hx
      rw [← hx]
      simp [List.getD, hj]
    have key := fun ty => run_append_own_at (P := Try.prog) w B 28 ty 5 i0 _ 1 1 Try.underlying28 hi0 hz0 hz1 hz2 rfl (by omega) v zs.length (BL zs) h.1 ad ys.length c (BL ys) (by rw [BL_length]; omega) hnews (BL_one ys) (by unfold maxLen; omega) (by omega) hB
    obtain ⟨v', w', hr, own', hg, _, _⟩ := key 0
    obtain ⟨a, cap, rfl⟩ := ownsRow_slice own'
    exact ⟨a, cap, w', fun ty => by rw [← hr]; rfl, Fresh.more own' hl h.2.2 hu.2.2, (Only.refl _ w).grown hg (fun k e hk => (own_lt h k e).1)⟩

/-- Numbers behind a slice. -/
def IntsAt (w : World) (v : Value) (l : List Nat) : Prop := RowAt w v l.length 1 (fun j => .int .i64 (l.getD j 0 : Nat))
set_option maxRecDepth 100000 in
set_option maxHeartbeats 1000000 in
theorem head_any (v : Value) (l : List Nat) (w : World) (h : IntsAt w v l) (hl : ∀ t ∈ l, t < 2048) :
    Calls Try.prog 51 #[v] w fun e w' => e = .returned (.int .u32 (l.getD 0 0 : Nat)) ∧ w' = w := by
  obtain ⟨a, c, rfl, hc⟩ := RowAt.shape h
  cases l with
  | nil =>
    clear h hc hl
    go_enter Try.func51, Try.ntmps51
    go_wp2
    go_ret
    exact ⟨rfl, rfl⟩
  | cons t r =>
    obtain ⟨g, o, rfl, hc0⟩ := hc 0 (by simp)
    have ht := hl t (List.mem_cons_self ..)
    have hc0' : w.cell? ⟨g, o, none⟩ = some (.int .i64 (t : Nat)) := hc0
    have e1 : IntKind.u32.wrap (t : Int) = (t : Int) := by rw [IntKind.wrap_u32]; omega
    obtain ⟨k, hk⟩ : ∃ k, k = (t :: r).length := ⟨_, rfl⟩
    have k1 : (0 : Int) < (k : Int) := by rw [hk]; simp
    have k2 : ((k : Int) == 0) = false := by simp; rw [hk]; simp
    rw [← hk]
    clear h hc hl hc0 ht hk
    go_enter Try.func51, Try.ntmps51
    go_wp2
    go_ret
    exact ⟨rfl, rfl⟩
set_option maxRecDepth 100000 in
set_option maxHeartbeats 1000000 in
theorem dataid_any (i : Nat) (hi : i < 728) (w : World) : Calls Try.prog 48 #[.int .i64 i] w fun e w' => e = .returned (.int .u32 ((3 + 256 * i : Nat) : Int)) ∧ w' = w := by
  have e1 : IntKind.u32.wrap (i : Int) = (i : Int) := by rw [IntKind.wrap_u32]; omega
  have e2 : IntKind.u32.wrap (256 * (i : Int)) = 256 * (i : Int) := by rw [IntKind.wrap_u32]; omega
  have e3 : IntKind.u32.wrap (3 + 256 * (i : Int)) = ((3 + 256 * i : Nat) : Int) := by rw [IntKind.wrap_u32]; omega
  go_enter Try.func48, Try.ntmps48
  go_wp2
  go_ret
  exact ⟨rfl, rfl⟩
/-- v[1:] -/
theorem slice_rest (g o k c : Nat) (hk : 1 ≤ k) (hc : k ≤ c) : ∃ a2 c2, (∀ w, (Instr.slice 54 (.slice (some ⟨g, o, none⟩) k c) (some (.int .i64 1)) none none).run Try.prog w = .ok (.slice a2 (k - 1) c2) w) ∧ (a2 = some ⟨g, o + 1, none⟩ ∨ k = 1 ∧ a2 = some ⟨g, o, none⟩) ∧ k - 1 ≤ c2 := by
  have k0 : (1 : Int) ≤ (k : Int) := by omega
  have kc : (k : Int) ≤ (c : Int) := by omega
  have e1 : ((k : Int) - 1).toNat = k - 1 := by omega
  have e2 : ((c : Int) - 1).toNat = c - 1 := by omega
  by_cases e : c = 1
  · have ek : k = 1 := by omega
    subst e ek
    exact ⟨some ⟨g, o, none⟩, 0, fun w => by go_simp, .inr ⟨rfl, rfl⟩, by omega⟩
  · have ec : ¬ c - 1 = 0 := by omega
    refine ⟨some ⟨g, o + 1, none⟩, c - 1, fun w => ?_, .inl rfl, by omega⟩
    go_simp
/-- make of four bytes that may be 116. -/
theorem make_tab (w : World) : (Instr.makeSlice 28 (.int .i64 4) (.int .i64 116)).run Try.prog w = .ok (.slice (some ⟨w.heap.size, 0, none⟩) 4 116) (w.alloc (.cells (BL (List.replicate 116 0)).toArray 5)) := by
  obtain ⟨i0, hi0, hz0, hz1, hz2⟩ := info_parts info5
  have h := run_make (P := Try.prog) w 28 5 i0 _ Try.underlying28 hi0 hz0 .i64 .i64 4 116 (by omega) (by omega) (by rw [hz2]; omega) (by omega)
  rw [hz1] at h
  rw [← zeros_made]
  exact h
end Go.Proofs.Ytpoakkdkibameaa
namespace Go.Proofs.Ytpoakkdkibameaa
open Go.RowKit
set_option linter.unusedSimpArgs false
set_option linter.unusedVariables false

attribute [local go_sem] Oper.semAt_some

/-- The block in which the numbers lie stands. -/
def KpP (Pb : Nat) (W W' : World) : Prop := W'.heap[Pb]? = W.heap[Pb]?
def intEnc (x : Int) : Array Value := #[.int .i64 x]
theorem take_succ_getD (zs : List Int) (k : Nat) (h : k < zs.length) : zs.take (k + 1) = zs.take k ++ [zs.getD k 0] := by
  rw [List.take_succ_eq_append_getElem h]
  simp [List.getD, h]
/-- Numbers in memory: nil, or cells of the block Pb. -/
def IntsIn (w : World) (Pb : Nat) (sv : Value) (zs : List Int) : Prop :=
  (sv = .slice none 0 0 ∧ zs = []) ∨ ∃ off cap, sv = .slice (some ⟨Pb, off, none⟩) zs.length cap ∧ ∀ j, j < zs.length → w.cell? ⟨Pb, off + j, none⟩ = some (.int .i64 (zs.getD j 0))

set_option maxRecDepth 100000 in
set_option maxHeartbeats 2000000 in
theorem values_core (m : Nat) (l Bs Pb off cap : Nat) (zs : List Int) (hlen : zs.length ≤ maxLen) (J Jx : List Int → World → Prop)
    (hY : ∀ k W, k < zs.length → J (zs.take k) W → YieldAt Fence.wide (m - 1) Try.prog l (intEnc (zs.getD k 0)) W fun e W' =>
      (e = .returned (.bool true) ∧ J (zs.take k ++ [zs.getD k 0]) W' ∧ KpP Pb W W') ∨ (e = .returned (.bool false) ∧ Jx (zs.take k ++ [zs.getD k 0]) W'))
    (W : World) (hBs : W.cell? ⟨Bs, 0, none⟩ = some (.slice (some ⟨Pb, off, none⟩) zs.length cap)) (hc : ∀ j, j < zs.length → W.cell? ⟨Pb, off + j, none⟩ = some (.int .i64 (zs.getD j 0))) (h0 : J [] W) :
    CallsIn Fence.wide m Try.prog 74 #[.func (.yield l) #[] #[], .pointer (some ⟨Bs, 0, none⟩)] W fun e W' => (∃ v, e = .returned v) ∧ (J zs W' ∨ ∃ k, k ≤ zs.length ∧ Jx (zs.take k) W') := by
  unfold maxLen at hlen
  refine callsIn_of_wp Try.func74 rfl trivial ?_ rfl
  simp only [Try.ntmps74, List.size_toArray, List.length_cons, List.length_nil, Nat.reduceAdd, Nat.reduceSub, Array.replicate_succ, Array.replicate_zero, List.push_toArray, List.append_toArray, List.nil_append, List.cons_append]
  gi_wp2
  gi_loopw [7] (fun i wr => ∃ k : Nat, k ≤ zs.length ∧ i = .int .i64 k ∧ J (zs.take k) wr ∧ KpP Pb W wr) (fun i _ => zs.length - (intOf i).toNat)
  case atStart => exact ⟨0, Nat.zero_le _, rfl, h0, rfl⟩
  case round =>
    obtain ⟨k, hk, rfl, hJ, hkp⟩ := hrel
    by_cases hlt : k < zs.length
    · obtain ⟨fn, tmps, assign, body, hyr, hR⟩ := hY k wr hlt hJ
      have hcx : wr.cell? ⟨Pb, off + k, none⟩ = some (.int .i64 (zs.getD k 0)) := (World.cell?_of_block (w := W) (show wr.heap[Pb]? = W.heap[Pb]? from hkp)).trans (hc k hlt)
      have hj0 : (0 : Int) ≤ (k : Int) := Int.natCast_nonneg _
      have hj1 : (k : Int) < (zs.length : Int) := by omega
      have HT := take_succ_getD zs k hlt
      obtain ⟨z, hz⟩ : ∃ z, z = zs.getD k 0 := ⟨_, rfl⟩
      rw [← hz] at hyr hR hcx HT
      have HT' : Hid _ := HT
      have HKP : Hid (KpP Pb W wr) := hkp
      unfold intEnc at hyr
      clear hY hc h0 hBs hkp hz HT hJ
      gi_wp2
      refine ⟨fun h => (by simp [Fence.wide] at h), hR.mono ?_⟩
      rintro e W3 (⟨rfl, hJ3, hk3⟩ | ⟨rfl, hJx3⟩)
      · have HK4 : Hid (KpP Pb W W3) := Eq.trans hk3 HKP.out
        clear hk3
        gi_wp2
        go_roundw
        case rel => exact ⟨k + 1, by omega, by simp, by rw [HT'.out]; exact hJ3, HK4.out⟩
        case measure => simp [intOf]; omega
      · gi_wp2
        refine bodyPost_ret (results_none rfl _ _ _) rfl ?_
        exact ⟨⟨_, rfl⟩, .inr ⟨k + 1, by omega, by rw [HT'.out]; exact hJx3⟩⟩
    · obtain rfl : k = zs.length := by omega
      rw [List.take_length] at hJ
      clear hY hc h0 hBs hkp
      gi_wp2
      go_end0
      exact ⟨⟨_, rfl⟩, .inl hJ⟩
set_option maxRecDepth 100000 in
set_option maxHeartbeats 1000000 in
theorem values_none (m l Bs : Nat) (J : World → Prop) (W : World) (hBs : W.cell? ⟨Bs, 0, none⟩ = some (.slice none 0 0)) (h0 : J W) :
    CallsIn Fence.wide m Try.prog 74 #[.func (.yield l) #[] #[], .pointer (some ⟨Bs, 0, none⟩)] W fun e W' => (∃ v, e = .returned v) ∧ J W' := by
  refine callsIn_of_wp Try.func74 rfl trivial ?_ rfl
  simp only [Try.ntmps74, List.size_toArray, List.length_cons, List.length_nil, Nat.reduceAdd, Nat.reduceSub, Array.replicate_succ, Array.replicate_zero, List.push_toArray, List.append_toArray, List.nil_append, List.cons_append]
  gi_wp2
  gi_loopw [7] (fun i wr => i = .int .i64 0 ∧ J wr) (fun _ _ => 0)
  case atStart => exact ⟨rfl, h0⟩
  case round =>
    obtain ⟨rfl, hJ⟩ := hrel
    gi_wp2
    go_end0
    exact ⟨⟨_, rfl⟩, hJ⟩
set_option maxRecDepth 100000 in
set_option maxHeartbeats 1000000 in
/-- slices.Values boxes the slice; the function that it answers has the box. -/
theorem values_in (m : Nat) (a : Option Addr) (n c : Nat) (w : World) :
    CallsIn Fence.wide m Try.prog 59 #[.slice a n c] w fun e w' => e = .returned (.func (.func 74) #[] #[.pointer (some ⟨w.heap.size, 0, none⟩)]) ∧ w' = w.alloc (.cells #[.slice a n c] 54) := by
  refine callsIn_of_wp Try.func59 rfl trivial ?_ rfl
  simp only [Try.ntmps59, List.size_toArray, List.length_cons, List.length_nil, Nat.reduceAdd, Nat.reduceSub, Array.replicate_succ, Array.replicate_zero, List.push_toArray, List.append_toArray, List.nil_append, List.cons_append]
  gi_wp2
  go_ret
  exact ⟨rfl, rfl⟩
/-- .. and gives the numbers in their order. -/
theorem values_stops (m Bs Pb : Nat) (sv : Value) (zs : List Int) (w : World) (hl : zs.length ≤ maxLen) (hBs : w.cell? ⟨Bs, 0, none⟩ = some sv) (hi : IntsIn w Pb sv zs) (hP : Pb < w.heap.size) :
    SeqStopsK Fence.wide m Try.prog 74 #[.pointer (some ⟨Bs, 0, none⟩)] intEnc (KpP Pb) (fun ys => ys = zs) (fun _ => True) zs.length w := fun lo J Jx W hW _ _ hY h0 => by
  have hBl := World.block_lt_of_cell? w _ hBs
  have hBs' : W.cell? ⟨Bs, 0, none⟩ = some sv := (hW.cell (p := ⟨Bs, 0, none⟩) hBl).trans hBs
  rcases hi with ⟨rfl, rfl⟩ | ⟨off, cap, rfl, hc⟩
  · exact (values_none m lo Bs (J []) W hBs' h0).mono fun e W' ⟨he, hj⟩ => ⟨he, .inl ⟨_, rfl, hj⟩⟩
  · refine (values_core m lo Bs Pb off cap zs hl J Jx (fun k W1 hk hJ => ?_) W hBs' (fun j hj => (hW.cell (p := ⟨Pb, off + j, none⟩) hP).trans (hc j hj)) h0).mono ?_
    · exact hY (zs.take k) (zs.getD k 0) W1 hJ (by rw [List.length_take]; omega)
    · rintro e W' ⟨he, hj | ⟨k, _, hj⟩⟩
      · exact ⟨he, .inl ⟨_, rfl, hj⟩⟩
      · exact ⟨he, .inr ⟨_, trivial, hj⟩⟩
end Go.Proofs.Ytpoakkdkibameaa
namespace Go.Proofs.Ytpoakkdkibameaa
open Go.RowKit
set_option linter.unusedSimpArgs false
set_option linter.unusedVariables false

attribute [local go_sem] Oper.semAt_some

/-- The two boxes stand. -/
def KpC (Bt Bn : Nat) (W W' : World) : Prop := W'.heap[Bt]? = W.heap[Bt]? ∧ W'.heap[Bn]? = W.heap[Bn]?
/-- The part k of n bytes. -/
def chV (g o n k : Nat) : Value := .slice (some ⟨g, o + 112 * k, none⟩) (min 112 (n - 112 * k)) (min 112 (n - 112 * k))
def chEnc (g o n k : Nat) : Array Value := #[chV g o n k]
theorem tabN_lt (n k : Nat) : k < tabN n ↔ 112 * k < n := by unfold tabN; omega

theorem run_min (x : Nat) (ty : TypeId) (w : World) : (Builtin.min_ #[3, 3] ty #[.int .i64 112, .int .i64 (x : Nat)]).run Try.prog w = .ok (.int .i64 ((min 112 x : Nat) : Int)) w := by
  have e : (if (x : Int) < 112 then (x : Int) else 112) = ((min 112 x : Nat) : Int) := by split <;> omega
  simp only [Builtin.min_, List.foldlM, Builtin.min2]
  rw [e]
  rfl

set_option maxRecDepth 100000 in
set_option maxHeartbeats 2000000 in
theorem chunk_core (m : Nat) (l Bt Bn g o n c : Nat) (hn : n ≤ 100000) (hc : n ≤ c) (J Jx : List Nat → World → Prop)
    (hY : ∀ k W, k < tabN n → J (List.range k) W → YieldAt Fence.wide (m - 1) Try.prog l (chEnc g o n k) W fun e W' =>
      (e = .returned (.bool true) ∧ J (List.range k ++ [k]) W' ∧ KpC Bt Bn W W') ∨ (e = .returned (.bool false) ∧ Jx (List.range k ++ [k]) W'))
    (hJd : ∀ ys W, J ys W → J ys W.drew)
    (W : World) (hBt : W.cell? ⟨Bt, 0, none⟩ = some (.slice (some ⟨g, o, none⟩) n c)) (hBn : W.cell? ⟨Bn, 0, none⟩ = some (.int .i64 112)) (h0 : J [] W) :
    CallsIn Fence.wide m Try.prog 83 #[.func (.yield l) #[] #[], .pointer (some ⟨Bt, 0, none⟩), .pointer (some ⟨Bn, 0, none⟩)] W fun e W' => (∃ v, e = .returned v) ∧ (J (List.range (tabN n)) W' ∨ ∃ k, k < tabN n ∧ Jx (List.range k ++ [k]) W') := by
  refine callsIn_of_wp Try.func83 rfl trivial ?_ rfl
  simp only [Try.ntmps83, List.size_toArray, List.length_cons, List.length_nil, Nat.reduceAdd, Nat.reduceSub, Array.replicate_succ, Array.replicate_zero, List.push_toArray, List.append_toArray, List.nil_append, List.cons_append]
  gi_wp2
  gi_loopw [4] (fun i wr => ∃ k : Nat, k ≤ tabN n ∧ i = .int .i64 ((112 * k : Nat) : Int) ∧ J (List.range k) wr ∧ KpC Bt Bn W wr) (fun i _ => 112 * tabN n - (intOf i).toNat)
  case atStart => exact ⟨0, Nat.zero_le _, rfl, h0, rfl, rfl⟩
  case round =>
    obtain ⟨k, hk, rfl, hJ, hkp⟩ := hrel
    have hb1 : wr.cell? ⟨Bt, 0, none⟩ = some (.slice (some ⟨g, o, none⟩) n c) := (World.cell?_of_block (w := W) hkp.1).trans hBt
    have hb2 : wr.cell? ⟨Bn, 0, none⟩ = some (.int .i64 112) := (World.cell?_of_block (w := W) hkp.2).trans hBn
    obtain ⟨i, hi⟩ : ∃ i, i = 112 * k := ⟨_, rfl⟩
    by_cases hlt : k < tabN n
    · obtain ⟨fn, tmps, assign, body, hyr, hR⟩ := hY k wr.drew hlt (hJd _ _ hJ)
      have hin := (tabN_lt n k).1 hlt
      rw [← hi] at hin ⊢
      have i1 : (i : Int) < (n : Int) := by omega
      have i0 : (0 : Int) ≤ (i : Int) := by omega
      have i2 : (i : Int) ≤ (n : Int) := by omega
      obtain ⟨q, hq⟩ : ∃ q, q = min 112 (n - i) := ⟨_, rfl⟩
      have HKP : Hid (KpC Bt Bn W wr) := hkp
      have HI : Hid (i = 112 * k) := hi
      have e1 : ((n : Int) - (i : Int)).toNat = n - i := by omega
      have hmin : ∀ ty, ∀ w, (Builtin.min_ #[3, 3] ty #[.int .i64 112, .int .i64 ((n - i : Nat) : Int)]).run Try.prog w = .ok (.int .i64 (q : Nat)) w := fun ty w => by rw [hq]; exact run_min (n - i) ty w
      have q0 : 0 < q := by omega
      have e2 : IntKind.i64.wrap ((i : Int) + (q : Int)) = ((i + q : Nat) : Int) := by rw [IntKind.wrap_i64]; omega
      have e3 : (i : Int) ≤ ((i + q : Nat) : Int) := by omega
      have e4 : ((i + q : Nat) : Int) ≤ (c : Int) := by omega
      have e5 : (((i + q : Nat) : Int) - (i : Int)).toNat = q := by omega
      have e6 : IntKind.i64.wrap ((i : Int) + 112) = ((112 * (k + 1) : Nat) : Int) := by rw [IntKind.wrap_i64]; omega
      unfold chEnc chV at hyr
      rw [← hi, ← hq] at hyr
      have HJ : Hid (J (List.range k) wr) := hJ
      have HK1 : Hid (k < tabN n) := hlt
      have HJD : Hid _ := hJd
      clear hY h0 hBt hBn hkp hi hq hlt hJ hJd hk
      gi_wp2
      gi_region
      clear hmin
      gi_wp2
      refine ⟨fun h => (by simp [Fence.wide] at h), hR.mono ?_⟩
      rintro e W3 (⟨rfl, hJ3, hk3⟩ | ⟨rfl, hJx3⟩)
      · have HK4 : Hid (KpC Bt Bn W W3) := ⟨hk3.1.trans HKP.out.1, hk3.2.trans HKP.out.2⟩
        have hb4 : W3.cell? ⟨Bn, 0, none⟩ = some (.int .i64 112) := (World.cell?_of_block (w := wr) hk3.2).trans hb2
        have HJ3 : Hid _ := hJ3
        clear hk3 hb1 hb2 hJ3
        gi_wp2
        go_roundw
        case rel => exact ⟨k + 1, HK1.out, by rfl, by rw [List.range_succ]; exact HJ3.out, HK4.out⟩
        case measure => simp [intOf]; have := HI.out; have := HK1.out; omega
      · gi_wp2
        refine bodyPost_ret (results_none rfl _ _ _) rfl ?_
        exact ⟨⟨_, rfl⟩, .inr ⟨k, HK1.out, hJx3⟩⟩
    · obtain rfl : k = tabN n := by omega
      have hin : ¬ 112 * tabN n < n := by unfold tabN; omega
      rw [← hi] at hin ⊢
      have i1 : ¬ (i : Int) < (n : Int) := by omega
      clear hY h0 hBt hBn hkp hi hJd
      gi_wp2
      go_end0
      exact ⟨⟨_, rfl⟩, .inl hJ⟩
set_option maxRecDepth 100000 in
set_option maxHeartbeats 1000000 in
theorem chunk_none (m l Bt Bn c : Nat) (a : Option Addr) (J : World → Prop) (W : World) (hBt : W.cell? ⟨Bt, 0, none⟩ = some (.slice a 0 c)) (h0 : J W) :
    CallsIn Fence.wide m Try.prog 83 #[.func (.yield l) #[] #[], .pointer (some ⟨Bt, 0, none⟩), .pointer (some ⟨Bn, 0, none⟩)] W fun e W' => (∃ v, e = .returned v) ∧ J W' := by
  refine callsIn_of_wp Try.func83 rfl trivial ?_ rfl
  simp only [Try.ntmps83, List.size_toArray, List.length_cons, List.length_nil, Nat.reduceAdd, Nat.reduceSub, Array.replicate_succ, Array.replicate_zero, List.push_toArray, List.append_toArray, List.nil_append, List.cons_append]
  gi_wp2
  gi_loopw [4] (fun i wr => i = .int .i64 0 ∧ J wr ∧ wr = W) (fun _ _ => 0)
  case atStart => exact ⟨rfl, h0, rfl⟩
  case round =>
    obtain ⟨rfl, hJ, rfl⟩ := hrel
    gi_wp2
    go_end0
    exact ⟨⟨_, rfl⟩, hJ⟩
set_option maxRecDepth 100000 in
set_option maxHeartbeats 1000000 in
/-- slices.Chunk boxes the slice and the number; the function that it answers has both boxes. -/
theorem chunk_in (m : Nat) (a : Option Addr) (n c : Nat) (w : World) :
    CallsIn Fence.wide m Try.prog 67 #[.slice a n c, .int .i64 112] w fun e w' => e = .returned (.func (.func 83) #[] #[.pointer (some ⟨w.heap.size, 0, none⟩), .pointer (some ⟨w.heap.size + 1, 0, none⟩)]) ∧ w' = (w.alloc (.cells #[.slice a n c] 28)).alloc (.cells #[.int .i64 112] 3) := by
  refine callsIn_of_wp Try.func67 rfl trivial ?_ rfl
  simp only [Try.ntmps67, List.size_toArray, List.length_cons, List.length_nil, Nat.reduceAdd, Nat.reduceSub, Array.replicate_succ, Array.replicate_zero, List.push_toArray, List.append_toArray, List.nil_append, List.cons_append]
  gi_wp2
  go_ret
  exact ⟨rfl, rfl⟩
/-- .. and gives the parts in their order. -/
theorem chunk_stops (m Bt Bn g o n c : Nat) (a : Option Addr) (w : World) (hn : n ≤ 100000) (ha : a = some ⟨g, o, none⟩ ∧ n ≤ c ∨ n = 0) (hBt : w.cell? ⟨Bt, 0, none⟩ = some (.slice a n c)) (hBn : w.cell? ⟨Bn, 0, none⟩ = some (.int .i64 112)) :
    SeqStopsK Fence.wide m Try.prog 83 #[.pointer (some ⟨Bt, 0, none⟩), .pointer (some ⟨Bn, 0, none⟩)] (chEnc g o n) (KpC Bt Bn) (fun ys => ys = List.range (tabN n)) (fun pre => ∃ k, k < tabN n ∧ pre = List.range (k + 1)) (tabN n) w := fun lo J Jx W hW hJ hJx hY h0 => by
  have hBl := World.block_lt_of_cell? w _ hBt
  have hNl := World.block_lt_of_cell? w _ hBn
  have hBt' : W.cell? ⟨Bt, 0, none⟩ = some (.slice a n c) := (hW.cell (p := ⟨Bt, 0, none⟩) hBl).trans hBt
  have hBn' : W.cell? ⟨Bn, 0, none⟩ = some (.int .i64 112) := (hW.cell (p := ⟨Bn, 0, none⟩) hNl).trans hBn
  rcases ha with ⟨rfl, hc⟩ | rfl
  · refine (chunk_core m lo Bt Bn g o n c hn hc J Jx (fun k W1 hk hj => ?_) (fun ys W1 hj => ?_) W hBt' hBn' h0).mono ?_
    · exact hY (List.range k) k W1 hj (by simpa using hk)
    · exact hJ ys W1 W1.drew none hj ⟨rfl, rfl, rfl, Nat.le_refl _, fun _ _ _ => rfl⟩ (fun r e => by cases e)
    · rintro e W' ⟨he, hj | ⟨k, hk, hj⟩⟩
      · exact ⟨he, .inl ⟨_, rfl, hj⟩⟩
      · exact ⟨he, .inr ⟨_, ⟨k, hk, by rw [List.range_succ]⟩, hj⟩⟩
  · exact (chunk_none m lo Bt Bn c a (J []) W hBt' h0).mono fun e W' ⟨he, hj⟩ => ⟨he, .inl ⟨_, rfl, by simpa [tabN] using hj⟩⟩
end Go.Proofs.Ytpoakkdkibameaa
