/-       -/
import Derived.Test.YtlcglapcmdpkfaaGreatGaa
import Derived.Test.YtlcglapcmdpkfaaGreatGag
import Derived.Test.YtlcglapcmdpkfaaGreatGaf
import Derived.Maps.RangeWalk
namespace Go.Proofs.YtlcglapcmdpkfaaGreat
open Go.RowKit
set_option linter.unusedSimpArgs false
set_option linter.unusedVariables false
set_option maxRecDepth 100000
set_option maxHeartbeats 16000000
def fr (F : List Bool) (n : Nat) : Nat → List Nat
 | 0 => []
 | k + 1 => if (fr F n k).length = n ∨ F.getD k false = true then fr F n k else fr F n k ++ [k]
theorem fr_len (F : List Bool) (n : Nat) : ∀ k, (fr F n k).length ≤ k
 | 0 => by simp [fr]
 | k + 1 => by
   have := fr_len F n k
   simp only [fr]
   split
   ·omega
   ·simp; omega
theorem fr_le (F : List Bool) (n : Nat) : ∀ k, (fr F n k).length ≤ n
 | 0 => by simp [fr]
 | k + 1 => by
   have := fr_le F n k
   simp only [fr]
   split
   ·omega
   ·rename_i h
    have : (fr F n k).length ≠ n := fun e => h (.inl e)
    simp; omega
theorem fr_stop (F : List Bool) (n k : Nat) (h : (fr F n k).length = n) : ∀ j, fr F n (k + j) = fr F n k
 | 0 => rfl
 | j + 1 => by
   have ih := fr_stop F n k h j
   show (if (fr F n (k + j)).length = n ∨ F.getD (k + j) false = true then fr F n (k + j) else fr F n (k + j) ++ [k + j]) = _
   rw [ih, if_pos (.inl h)]
theorem fr_end (F : List Bool) (n k m : Nat) (h : (fr F n k).length = n) (hk : k ≤ m) : fr F n m = fr F n k := by
 have := fr_stop F n k h (m - k)
 rwa [show k + (m - k) = m by omega] at this
theorem fr_taken (F : List Bool) (n k : Nat) (h : F.getD k false = true) : fr F n (k + 1) = fr F n k := by simp only [fr]; rw [if_pos (.inr h)]
theorem fr_free (F : List Bool) (n k : Nat) (h : F.getD k false = false) (hn : (fr F n k).length ≠ n) : fr F n (k + 1) = fr F n k ++ [k] := by
 simp only [fr]
 rw [if_neg]
 rintro (e | e)
 ·exact hn e
 ·rw [h] at e; cases e
def FlagsAt (W : World) (v : Value) (F : List Bool) : Prop := RowAt W v F.length 1 (fun j => .bool (F.getD j false)) ∧ F.length ≤ 140737488351232
theorem FlagsAt.frame {W W' : World} {v : Value} {F : List Bool} (h : FlagsAt W v F) (ho : Only (fun _ => False) W W') : FlagsAt W' v F := ⟨h.1.frame ho (fun _ e => e.elim), h.2⟩
theorem FlagsAt.form {W : World} {v : Value} {F : List Bool} (h : FlagsAt W v F) : ∃ a c, v = .slice a F.length c ∧ F.length ≤ c ∧ ∀ j, j < F.length → ∃ g o, a = some ⟨g, o, none⟩ ∧ W.cell? ⟨g, o + j, none⟩ = some (.bool (F.getD j false)) := by
 rcases h.1 with ⟨rfl, h0⟩ | ⟨ad, c, rfl, hkc, hc⟩
 ·exact ⟨none, 0, by rw [h0], by omega, fun j hj => by omega⟩
 ·refine ⟨some ad, c, rfl, hkc, fun j hj => ?_⟩
  obtain ⟨g, o, c', hv, hc', _⟩ := h.1.at (by omega)
  simp only [Value.slice.injEq, Option.some.injEq] at hv
  obtain ⟨rfl, _, rfl⟩ := hv
  exact ⟨g, o, rfl, hc' j (by omega)⟩
def IL (l : List Nat) : List Value := l.map fun z => .int .i64 (z : Nat)
theorem IL_get (zs : List Nat) (j : Nat) (h : j < zs.length) : (IL zs)[j]? = some (.int .i64 (zs.getD j 0 : Nat)) := by simp [IL, List.getD, h]
def FreshI (w : World) (B : Nat) (v : Value) (l : List Nat) : Prop := w.ownsRow B 3 1 v l.length (IL l) ∧ l.length ≤ 1048576
theorem FreshI.frame {w w' : World} {B : Nat} {v : Value} {zs : List Nat} (h : FreshI w B v zs) (ho : Only (fun _ => False) w w') : FreshI w' B v zs := ⟨ho.owns h.1 (fun _ _ e => e), h.2⟩
theorem FreshI.form {w : World} {B : Nat} {v : Value} {zs : List Nat} (h : FreshI w B v zs) : ∃ a c, v = .slice a zs.length c ∧ ∀ j, j < zs.length → ∃ g, a = some ⟨g, 0, none⟩ ∧ w.cell? ⟨g, j, none⟩ = some (.int .i64 (zs.getD j 0 : Nat)) := by
 rcases h.1.2 with ⟨rfl, h0⟩ | ⟨g, cap, cur, rfl, _⟩
 ·exact ⟨none, 0, by rw [h0], fun j hj => by omega⟩
 ·refine ⟨some ⟨g, 0, none⟩, cap, rfl, fun j hj => ⟨g, rfl, ?_⟩⟩
  rw [h.1.cellAt j (by omega)]
  exact IL_get zs j hj
theorem info3 : (Tryz.prog.info? 3).map (fun i => (i.zero, i.size, i.bytes)) = some (some (.int .i64 0), 1, 8) := by kernel_rfl
theorem app_int {w : World} {B : Nat} {v : Value} {zs : List Nat} (h : FreshI w B v zs) (hB : B ≤ w.heap.size) (q : Nat) (hl : zs.length + 1 ≤ 1048576) :
  ∃ a cap w', (∀ ty, (Builtin.append_ #[76, 76] ty #[v, .slice (some ⟨w.heap.size, 0, none⟩) 1 1]).run Tryz.prog (w.alloc (.cells #[.int .i64 (q : Int)] 3)) = .ok (.slice a (zs.length + 1) cap) w') ∧ FreshI w' B (.slice a (zs.length + 1) cap) (zs ++ [q]) ∧ Only (fun i => B ≤ i) w w' := by
 obtain ⟨i0, hi0, hz0, hz1, hz2⟩ := info_parts info3
 have o1 : Only (fun _ => False) w (w.alloc (.cells #[.int .i64 (q : Int)] 3)) := (Only.refl _ w).alloc _
 have h2 := h.frame o1
 have key := fun ty => run_append_own_at (P := Tryz.prog) (w.alloc (.cells #[.int .i64 (q : Int)] 3)) B 76 ty 3 i0 _ 1 8 Tryz.underlying76 hi0 hz0 hz1 hz2 rfl (by omega) v zs.length (IL zs) h2.1 ⟨w.heap.size, 0, none⟩ 1 1 [.int .i64 (q : Int)] rfl (World.news_of_block (heap_alloc_new w _)) (by simp [Value.oneCell']) (by unfold maxLen; omega) (by omega) (by have := o1.size; omega)
 obtain ⟨v', w', hr, own', hg, _, _⟩ := key 0
 obtain ⟨a, cap, rfl⟩ := ownsRow_slice own'
 refine ⟨a, cap, w', fun ty => by rw [← hr]; rfl, ⟨?_, by simpa using hl⟩, (o1.mono (fun _ _ e => e.elim)).trans ((Only.refl _ _).grown hg (fun k e hk => (h2.1.lt k e).1)) (fun _ _ e => e)⟩
 have e : IL (zs ++ [q]) = IL zs ++ [.int .i64 (q : Int)] := by simp [IL]
 rw [e, List.length_append]
 exact own'
theorem FreshI.nil (w : World) (B : Nat) : FreshI w B (.slice none 0 0) [] := ⟨World.ownsRow_nil _ _ _ _, by simp⟩
def FirstIs (L : List Nat) (n : Nat) (w : World) (e : Ending) (w' : World) : Prop :=
 (L.length < n ∧ e = .returned (.tuple #[.slice none 0 0, .int .i64 7]) ∧ Only (fun _ => False) w w') ∨
 (L.length = n ∧ ∃ u, e = .returned (.tuple #[u, .int .i64 0]) ∧ FreshI w' w.heap.size u L ∧ Only (fun _ => False) w w')
theorem first_ok (v : Value) (F : List Bool) (n : Nat) (w : World) (h : FlagsAt w v F) (hF : F.length ≤ 1048576) :
  Calls Tryz.prog 55 #[v, .int .i64 n] w fun e w' => FirstIs (fr F n F.length) n w e w' := by
 obtain ⟨a, c, rfl, hcap, hc⟩ := h.form
 have HC : Hid _ := hc
 obtain ⟨m, hm⟩ : ∃ m, m = F.length := ⟨_, rfl⟩
 have HM : Hid (m = F.length) := hm
 rw [← hm] at hF
 rw [← hm]
 have n0 : ¬ (n : Int) < 0 := by omega
 clear h hc hcap hm
 go_enter Tryz.func55, Tryz.ntmps55
 go_wp2
 go_loopw [6, 13] (fun b t wr => ∃ k : Nat, k ≤ m ∧ t = .int .i64 k ∧ FreshI wr w.heap.size b (fr F n k) ∧ Only (fun _ => False) w wr) (fun _ t _ => m - (intOf t).toNat)
 case atStart => exact ⟨0, by omega, rfl, FreshI.nil _ _, Only.refl _ _⟩
 case round =>
  obtain ⟨k, hk, rfl, hf, ho⟩ := hrel
  obtain ⟨w2, rfl⟩ : ∃ w2, w2 = wr := ⟨_, rfl⟩
  obtain ⟨b, rfl⟩ : ∃ x, x = u6 := ⟨_, rfl⟩
  obtain ⟨a2, c2, rfl, _⟩ := hf.form
  have HF : Hid (FreshI w2 w.heap.size (.slice a2 (fr F n k).length c2) (fr F n k)) := hf
  have HO : Hid (Only (fun _ => False) w w2) := ho
  have hlk := fr_len F n k
  have hln := fr_le F n k
  obtain ⟨L, hL⟩ : ∃ L, L = fr F n k := ⟨_, rfl⟩
  have HL : Hid (L = fr F n k) := hL
  rw [← hL] at hlk hln HF hf
  rw [← hL]
  obtain ⟨q, hq⟩ : ∃ q, q = L.length := ⟨_, rfl⟩
  have HQ : Hid (q = L.length) := hq
  rw [← hq] at hlk hln HF hf
  rw [← hq]
  have fin : ∀ e, fr F n m = L → FirstIs (fr F n m) n w e w2 ∨ True := fun _ _ => .inr trivial
  clear fin hL
  by_cases hlt : k < m
  ·have k1 : (k : Int) < (m : Int) := by omega
   have k0 : (0 : Int) ≤ (k : Int) := by omega
   obtain ⟨g, o, rfl, hcell⟩ := HC.out k (by have := HM.out; omega)
   have y1 := ho.cell hcell (fun e => e)
   by_cases hqn : q = n
   ·have he : ((q : Int) == (n : Int)) = true := by simp [hqn]
    have hn2 : ¬ (q : Int) < (n : Int) := by omega
    have HE : Hid (fr F n m = L ∧ L.length = n) := by
     have e1 : (fr F n k).length = n := by rw [← HL.out, ← hq]; exact hqn
     exact ⟨(fr_end F n k m e1 (by omega)).trans HL.out.symm, by omega⟩
    clear hf ho hcell hqn hq
    go_wp2
    go_ret2
    refine .inr ⟨by rw [HE.out.1]; exact HE.out.2, _, rfl, by rw [HE.out.1]; exact HF.out, HO.out⟩
   ·have he : ((q : Int) == (n : Int)) = false := by simp; omega
    cases hb : F.getD k false with
    | true =>
      rw [hb] at y1
      have HT : Hid (fr F n (k + 1) = L) := (fr_taken F n k hb).trans HL.out.symm
      clear hf ho hcell hqn hq hb
      go_wp2
      go_roundw
      case rel => exact ⟨k + 1, by omega, by go_num, by rw [HT.out]; exact HF.out, HO.out⟩
      case measure => simp [intOf]; omega
    | false =>
      rw [hb] at y1
      have HT : Hid (fr F n (k + 1) = L ++ [k]) := (by rw [fr_free F n k hb (by rw [← HL.out, ← hq]; exact hqn), HL.out] : _ = _)
      obtain ⟨a5, c5, w5, hr5, hf5, ho5⟩ := app_int hf ho.size k (by omega)
      rw [← hq] at hr5 hf5
      have HR : Hid _ := hr5
      have HF5 : Hid (FreshI w5 w.heap.size (.slice a5 (q + 1) c5) (fr F n (k + 1))) := by rw [HT.out]; exact hf5
      have HO5 : Hid (Only (fun _ => False) w w5) := ho.trans ho5 (fun i hi e => by omega)
      clear hf ho hcell hqn hq hb hr5 hf5 ho5
      go_wp2_with (at_builtin; go_must (refine wpList_append_run rfl _ _ 76 rfl _ _ (.slice a5 (q + 1) c5) rfl rfl HR.out ?_))
      go_roundw
      case rel => exact ⟨k + 1, by omega, by go_num, HF5.out, HO5.out⟩
      case measure => simp [intOf]; omega
  ·obtain rfl : k = m := by omega
   by_cases hqn : q < n
   ·have hn2 : (q : Int) < (n : Int) := by omega
    clear hf ho hq
    go_wp2
    go_ret2
    exact .inl ⟨by rw [← HL.out, ← HQ.out]; exact hqn, rfl, HO.out⟩
   ·have hn2 : ¬ (q : Int) < (n : Int) := by omega
    clear hf ho hq
    go_wp2
    go_ret2
    exact .inr ⟨by rw [← HL.out, ← HQ.out]; omega, _, rfl, by rw [← HL.out]; exact HF.out, HO.out⟩
theorem rfirst_ok (v : Value) (F : List Bool) (n : Nat) (w : World) (h : FlagsAt w v F) (hF : F.length ≤ 1048576) :
  Calls Tryz.prog 88 #[v, .int .i64 n] w fun e w' => FirstIs (fr F n F.length) n w e w' := by
 obtain ⟨a, c, rfl, hcap, hc⟩ := h.form
 have HC : Hid _ := hc
 obtain ⟨m, hm⟩ : ∃ m, m = F.length := ⟨_, rfl⟩
 have HM : Hid (m = F.length) := hm
 rw [← hm] at hF
 rw [← hm]
 have n0 : ¬ (n : Int) < 0 := by omega
 clear h hc hcap hm
 go_enter Tryz.func88, Tryz.ntmps88
 go_wp2
 go_loopw [6, 7] (fun b t wr => ∃ k : Nat, k ≤ m ∧ t = .int .i64 k ∧ FreshI wr w.heap.size b (fr F n k) ∧ Only (fun _ => False) w wr) (fun _ t _ => m - (intOf t).toNat)
 case atStart => exact ⟨0, by omega, rfl, FreshI.nil _ _, Only.refl _ _⟩
 case round =>
  obtain ⟨k, hk, rfl, hf, ho⟩ := hrel
  obtain ⟨w2, rfl⟩ : ∃ w2, w2 = wr := ⟨_, rfl⟩
  obtain ⟨b, rfl⟩ : ∃ x, x = u6 := ⟨_, rfl⟩
  obtain ⟨a2, c2, rfl, _⟩ := hf.form
  have HF : Hid (FreshI w2 w.heap.size (.slice a2 (fr F n k).length c2) (fr F n k)) := hf
  have HO : Hid (Only (fun _ => False) w w2) := ho
  have hlk := fr_len F n k
  have hln := fr_le F n k
  obtain ⟨L, hL⟩ : ∃ L, L = fr F n k := ⟨_, rfl⟩
  have HL : Hid (L = fr F n k) := hL
  rw [← hL] at hlk hln HF hf
  rw [← hL]
  obtain ⟨q, hq⟩ : ∃ q, q = L.length := ⟨_, rfl⟩
  have HQ : Hid (q = L.length) := hq
  rw [← hq] at hlk hln HF hf
  rw [← hq]
  clear hL
  by_cases hlt : k < m
  ·have k1 : (k : Int) < (m : Int) := by omega
   have k0 : (0 : Int) ≤ (k : Int) := by omega
   obtain ⟨g, o, rfl, hcell⟩ := HC.out k (by have := HM.out; omega)
   have y1 := ho.cell hcell (fun e => e)
   by_cases hqn : q = n
   ·have hn2 : ¬ (q : Int) < (n : Int) := by omega
    have HE : Hid (fr F n m = L ∧ L.length = n) := by
     have e1 : (fr F n k).length = n := by rw [← HL.out, ← hq]; exact hqn
     exact ⟨(fr_end F n k m e1 (by omega)).trans HL.out.symm, by omega⟩
    clear hf ho hcell hqn hq
    go_wp2
    go_ret2
    refine .inr ⟨by rw [HE.out.1]; exact HE.out.2, _, rfl, by rw [HE.out.1]; exact HF.out, HO.out⟩
   ·have hn2 : (q : Int) < (n : Int) := by omega
    cases hb : F.getD k false with
    | true =>
      rw [hb] at y1
      have HT : Hid (fr F n (k + 1) = L) := (fr_taken F n k hb).trans HL.out.symm
      clear hf ho hcell hqn hq hb
      go_wp2
      go_roundw
      case rel => exact ⟨k + 1, by omega, by go_num, by rw [HT.out]; exact HF.out, HO.out⟩
      case measure => simp [intOf]; omega
    | false =>
      rw [hb] at y1
      have HT : Hid (fr F n (k + 1) = L ++ [k]) := (by rw [fr_free F n k hb (by rw [← HL.out, ← hq]; exact hqn), HL.out] : _ = _)
      obtain ⟨a5, c5, w5, hr5, hf5, ho5⟩ := app_int hf ho.size k (by omega)
      rw [← hq] at hr5 hf5
      have HR : Hid _ := hr5
      have HF5 : Hid (FreshI w5 w.heap.size (.slice a5 (q + 1) c5) (fr F n (k + 1))) := by rw [HT.out]; exact hf5
      have HO5 : Hid (Only (fun _ => False) w w5) := ho.trans ho5 (fun i hi e => by omega)
      clear hf ho hcell hqn hq hb hr5 hf5 ho5
      go_wp2_with (at_builtin; go_must (refine wpList_append_run rfl _ _ 76 rfl _ _ (.slice a5 (q + 1) c5) rfl rfl HR.out ?_))
      go_roundw
      case rel => exact ⟨k + 1, by omega, by go_num, HF5.out, HO5.out⟩
      case measure => simp [intOf]; omega
  ·obtain rfl : k = m := by omega
   have k1 : ¬ (k : Int) < (k : Int) := by omega
   by_cases hqn : q < n
   ·have hn2 : (q : Int) < (n : Int) := by omega
    clear hf ho hq
    go_wp2
    go_ret2
    exact .inl ⟨by rw [← HL.out, ← HQ.out]; exact hqn, rfl, HO.out⟩
   ·have hn2 : ¬ (q : Int) < (n : Int) := by omega
    clear hf ho hq
    go_wp2
    go_ret2
    exact .inr ⟨by rw [← HL.out, ← HQ.out]; omega, _, rfl, by rw [← HL.out]; exact HF.out, HO.out⟩
theorem sameints_any (a1 a2 : Option Addr) (m c1 c2 : Nat) (f : Nat → Int) (w : World) (hm : m ≤ 1048576) (f1 : ∀ j, j < m → ∃ g, a1 = some ⟨g, 0, none⟩ ∧ w.cell? ⟨g, j, none⟩ = some (.int .i64 (f j))) (f2 : ∀ j, j < m → ∃ g, a2 = some ⟨g, 0, none⟩ ∧ w.cell? ⟨g, j, none⟩ = some (.int .i64 (f j))) :
  Calls Tryz.prog 50 #[.slice a1 m c1, .slice a2 m c2] w fun e w' => e = .returned (.bool true) ∧ Only (fun _ => False) w w' := by
 go_enter Tryz.func50, Tryz.ntmps50
 go_wp2
 go_loopw [5] (fun t wr => ∃ k : Nat, k ≤ m ∧ t = .int .i64 k ∧ Only (fun _ => False) w wr) (fun t _ => m - (intOf t).toNat)
 case atStart => exact ⟨0, Nat.zero_le _, rfl, Only.refl _ _⟩
 case round =>
  obtain ⟨k, hk, rfl, ho⟩ := hrel
  by_cases hlt : k < m
  ·obtain ⟨g1, rfl, x1⟩ := f1 k hlt
   obtain ⟨g2, rfl, x2⟩ := f2 k hlt
   have y1 := ho.cell x1 (fun e => e)
   have y2 := ho.cell x2 (fun e => e)
   have k0 : (0 : Int) ≤ (k : Int) := Int.natCast_nonneg _
   have k1 : (k : Int) < (m : Int) := by omega
   obtain ⟨z, hz⟩ : ∃ z, z = f k := ⟨_, rfl⟩
   rw [← hz] at y1 y2
   have HO : Hid (Only (fun _ => False) w wr) := ho
   clear f1 f2 x1 x2 ho hz
   go_wp2_with fail
   go_region_held3 (fun w' => w'.cell? ⟨g1, k, none⟩ = some (.int .i64 z) ∧ w'.cell? ⟨g2, k, none⟩ = some (.int .i64 z)) (go_keep) (fail)
   go_wp2
   go_roundw
   case rel => exact ⟨k + 1, by omega, by go_num, HO.out.drew⟩
   case measure => simp [intOf]; omega
  ·obtain rfl : k = m := by omega
   clear f1 f2
   go_wp2
   go_ret
   exact ⟨rfl, ho⟩
end Go.Proofs.YtlcglapcmdpkfaaGreat
namespace Go.Proofs.YtlcglapcmdpkfaaGreat
open Go.RowKit Go.Maps
set_option linter.unusedSimpArgs false
set_option linter.unusedVariables false
set_option maxRecDepth 100000
set_option maxHeartbeats 16000000
def flF (n : Nat) (f : Nat → Bool) : List Bool := (List.range n).map f
theorem flF_length (n : Nat) (f : Nat → Bool) : (flF n f).length = n := by simp [flF]
theorem flF_getD (n : Nat) (f : Nat → Bool) (j : Nat) (h : j < n) : (flF n f).getD j false = f j := by simp [flF, List.getD, h]
theorem flF_set (n : Nat) (f : Nat → Bool) (k : Nat) : (flF n f).set k true = flF n (fun j => f j || j == k) := by
 apply List.ext_getElem
 ·simp [flF]
 ·intro i h1 h2
  simp [flF] at h1
  rw [List.getElem_set]
  by_cases e : k = i
  ·subst e; simp [flF]
  ·simp [flF, e, Ne.symm e]
def FBlk (w : World) (g n : Nat) (f : Nat → Bool) : Prop := w.heap[g]? = some (.cells ((flF n f).map Value.bool).toArray 4 (0, 0))
theorem FBlk.lt {w : World} {g n : Nat} {f : Nat → Bool} (h : FBlk w g n f) : g < w.heap.size := (Array.getElem?_eq_some_iff.1 h).1
theorem FBlk.frame {w w' : World} {g n : Nat} {f : Nat → Bool} {bs : Nat → Prop} (h : FBlk w g n f) (ho : Only bs w w') (hn : ¬ bs g) : FBlk w' g n f := (ho.block g h.lt hn).trans h
theorem FBlk.cell {w : World} {g n : Nat} {f : Nat → Bool} (h : FBlk w g n f) (j : Nat) (hj : j < n) : w.cell? ⟨g, j, none⟩ = some (.bool (f j)) := by
 rw [cell_of_row _ _ _ _ _ _ h]
 simp [flF, hj]
theorem FBlk.frozen {w : World} {g n : Nat} {f : Nat → Bool} (h : FBlk w g n f) (j : Nat) : w.frozen? ⟨g, j, none⟩ = false := frozen_of_row _ _ _ _ _ h
theorem FBlk.set {w : World} {g n : Nat} {f : Nat → Bool} (h : FBlk w g n f) (k : Nat) : FBlk (w.setCell ⟨g, k, none⟩ (.bool true)) g n (fun j => f j || j == k) := by
 unfold FBlk
 rw [heap_setCell_same w g k _ _ _ h, ← flF_set]
 congr 2
 simp [List.map_set]
theorem FBlk.flags {w : World} {g n : Nat} {f : Nat → Bool} (h : FBlk w g n f) (hn : n ≤ 140737488351232) : FlagsAt w (.slice (some ⟨g, 0, none⟩) n n) (flF n f) := by
 refine ⟨.inr ⟨⟨g, 0, none⟩, n, by rw [flF_length], by rw [flF_length]; exact Nat.le_refl _, fun j hj => ?_⟩, by rw [flF_length]; exact hn⟩
 rw [flF_length] at hj
 rw [Addr.add_mid, Nat.zero_add, h.cell j (by omega)]
 show some (Value.bool (f j)) = some (Value.bool ((flF n f).getD j false))
 rw [flF_getD n f j (by omega)]
theorem FBlk.congr {w : World} {g n : Nat} {f f' : Nat → Bool} (h : FBlk w g n f) (e : ∀ j, j < n → f j = f' j) : FBlk w g n f' := by
 have : flF n f = flF n f' := by
  unfold flF
  apply List.map_congr_left
  intro j hj
  exact e j (List.mem_range.1 hj)
 unfold FBlk
 rw [← this]
 exact h
theorem made_fl (n : Nat) : madeCells (Value.bool false).cells n = ((flF n (fun _ => false)).map Value.bool).toArray := by
 apply Array.ext_getElem?
 intro i
 by_cases hi : i < n
 ·simp [madeCells, hi, flF, Value.cells, Nat.mod_one]
 ·rw [Array.getElem?_eq_none (by simp [madeCells]; omega), Array.getElem?_eq_none (by simp [flF]; omega)]
theorem make_fl (n : Nat) (hn : n ≤ 140737488351232) (w : World) : (Instr.makeSlice 38 (.int .i64 n) (.int .i64 n)).run Tryz.prog w = .ok (.slice (some ⟨w.heap.size, 0, none⟩) n n) (w.alloc (.cells ((flF n (fun _ => false)).map Value.bool).toArray 4)) := by
 obtain ⟨i0, hi0, hz0, hz1, hz2⟩ := info_parts info4
 have h := run_make (P := Tryz.prog) w 38 4 i0 _ Tryz.underlying38 hi0 hz0 .i64 .i64 n n (by omega) (Int.le_refl _) (by rw [hz2]; omega) (by omega)
 rw [hz1, Int.toNat_natCast, Nat.mul_one] at h
 rw [← made_fl]
 exact h
theorem taken_any (n : Nat) (hn : 2 ≤ n) (hn2 : n ≤ 2048) (w : World) :
  Calls Tryz.prog 81 #[.int .i64 n] w fun e w' => e = .returned (.slice (some ⟨w.heap.size, 0, none⟩) n n) ∧ FBlk w' w.heap.size n (fun j => decide (j < 2)) ∧ Only (fun _ => False) w w' := by
 obtain ⟨Z, hZ⟩ : ∃ Z, Z = ((flF n (fun _ => false)).map Value.bool).toArray := ⟨_, rfl⟩
 have hmk : (Instr.makeSlice 38 (.int .i64 n) (.int .i64 n)).run Tryz.prog w = .ok (.slice (some ⟨w.heap.size, 0, none⟩) n n) (w.alloc (.cells Z 4)) := by rw [hZ]; exact make_fl n (by omega) w
 have HB : Hid (FBlk (w.alloc (.cells Z 4)) w.heap.size n (fun _ => false)) := by rw [hZ]; exact heap_alloc_new w _
 have n0 : (0 : Int) < n := by omega
 have n1 : (1 : Int) < n := by omega
 clear hZ
 go_enter Tryz.func81, Tryz.ntmps81
 go_wp2
 clear hmk
 obtain ⟨wa, hwa⟩ : ∃ q, q = w.alloc (.cells Z 4) := ⟨_, rfl⟩
 have HO : Hid (Only (fun k => k = w.heap.size) w wa) := by rw [hwa]; exact ((Only.refl _ w).alloc _)
 rw [← hwa] at HB ⊢
 clear hwa
 go_loopw [7] (fun t wr => ∃ k : Int, (k = 0 ∨ k = 1 ∨ k = 2) ∧ t = .int .i64 k ∧ FBlk wr w.heap.size n (fun j => decide ((j : Int) < k)) ∧ Only (fun k => k = w.heap.size) w wr) (fun t _ => 2 - (intOf t).toNat)
 case atStart => exact ⟨0, .inl rfl, rfl, HB.out.congr (fun j _ => by rw [Bool.eq_iff_iff]; simp), HO.out⟩
 case round =>
  clear HB HO
  obtain ⟨k, hk, rfl, hb, ho⟩ := hrel
  obtain ⟨w2, rfl⟩ : ∃ w2, w2 = wr := ⟨_, rfl⟩
  have HB : Hid _ := hb
  have HO : Hid _ := ho
  rcases hk with rfl | rfl | rfl
  ·have hc := hb.cell 0 (by omega)
   have hf := hb.frozen 0
   have HN : Hid (FBlk (w2.setCell ⟨w.heap.size, 0, none⟩ (.bool true)) w.heap.size n (fun j => decide ((j : Int) < 1))) := (hb.set 0).congr (fun j _ => by rw [Bool.eq_iff_iff]; simp; omega)
   have HN2 : Hid (Only (fun k => k = w.heap.size) w (w2.setCell ⟨w.heap.size, 0, none⟩ (.bool true))) := ho.setCell _ _ (fun _ => rfl)
   clear hb ho
   go_wp2
   go_roundw
   case rel => exact ⟨1, .inr (.inl rfl), by go_num, HN.out, HN2.out⟩
   case measure => simp [intOf]
  ·have hc := hb.cell 1 (by omega)
   have hf := hb.frozen 1
   have HN : Hid (FBlk (w2.setCell ⟨w.heap.size, 1, none⟩ (.bool true)) w.heap.size n (fun j => decide ((j : Int) < 2))) := (hb.set 1).congr (fun j _ => by rw [Bool.eq_iff_iff]; simp; omega)
   have HN2 : Hid (Only (fun k => k = w.heap.size) w (w2.setCell ⟨w.heap.size, 1, none⟩ (.bool true))) := ho.setCell _ _ (fun _ => rfl)
   clear hb ho
   go_wp2
   go_roundw
   case rel => exact ⟨2, .inr (.inr rfl), by go_num, HN.out, HN2.out⟩
   case measure => simp [intOf]
  ·clear hb ho
   go_wp2
   go_ret
   exact ⟨rfl, FBlk.congr HB.out (fun j _ => by rw [Bool.eq_iff_iff]; simp; omega), Only.mono HO.out (fun k hk e => by omega)⟩
end Go.Proofs.YtlcglapcmdpkfaaGreat
namespace Go.Proofs.YtlcglapcmdpkfaaGreat
open Go.RowKit
set_option linter.unusedSimpArgs false
set_option linter.unusedVariables false
set_option maxRecDepth 100000
set_option maxHeartbeats 16000000
structure LdAt (w : World) (L p G n : Nat) (f : Nat → Bool) : Prop where
 c0 : w.cell? ⟨L, 0, none⟩ = some (.pointer (some ⟨p, 0, none⟩))
 c1 : w.cell? ⟨L, 1, none⟩ = some (.slice (some ⟨G, 0, none⟩) n n)
 fl : FBlk w G n f
 ne : L ≠ G
theorem LdAt.frame {w w' : World} {L p G n : Nat} {f : Nat → Bool} {bs : Nat → Prop} (h : LdAt w L p G n f) (ho : Only bs w w') (hL : ¬ bs L) (hG : ¬ bs G) : LdAt w' L p G n f :=
 ⟨ho.cell h.c0 hL, ho.cell h.c1 hL, h.fl.frame ho hG, h.ne⟩
def ldD (d : DS) (q id : Nat) : Option (List Nat) := match unp (pgN d q 4) with
 | none => none
 | some (i, D) => if i = id then some D else none
def ldR (d : DS) (f : Nat → Bool) (q id : Nat) : (Nat → Bool) × Option (List Nat) :=
 if d.n / 4 ≤ q ∨ f q = true then (f, none) else (fun j => f j || j == q, ldD d q id)
def LdIs (w : World) (L p G n : Nat) (r : (Nat → Bool) × Option (List Nat)) (e : Ending) (w' : World) : Prop :=
 LdAt w' L p G n r.1 ∧ Only (fun i => i = G) w w' ∧ match r.2 with
 | none => e = .returned (.tuple #[.slice none 0 0, .bool false])
 | some D => ∃ u, e = .returned (.tuple #[u, .bool true]) ∧ Fresh w' w.heap.size u D
theorem lread_any (L p G S B q id : Nat) (pv : Value) (d : DS) (f : Nat → Bool) (w : World) (h : DiskAt w B p S pv d) (hl : d.life ≠ 0) (hb : ByteD d) (hL : LdAt w L p G (d.n / 4) f) (hdG : ¬ diskB p S pv G) (hq : q < 18446744073709551616) (hid : id < 4294967296) :
  Calls Tryz.prog 115 #[.pointer (some ⟨L, 0, none⟩), .int .u64 q, .int .u32 id] w fun e w' => LdIs w L p G (d.n / 4) (ldR d f q id) e w' := by
 have n2 := h.n2
 obtain ⟨n, hn⟩ : ∃ n, n = d.n / 4 := ⟨_, rfl⟩
 have HLD : Hid (LdAt w L p G (d.n / 4) f) := hL
 rw [← hn] at hL
 have c0 := hL.c0
 have c1 := hL.c1
 have wn : IntKind.u64.wrap (n : Int) = (n : Int) := by rw [IntKind.wrap_u64]; omega
 have HR : Hid (ldR d f q id = if n ≤ q ∨ f q = true then (f, none) else (fun j => f j || j == q, ldD d q id)) := (by rw [hn]; rfl : _ = _)
 by_cases hle : n ≤ q
 ·have q1 : (n : Int) ≤ (q : Int) := by omega
  have HN : Hid (n = d.n / 4) := hn
  have HQ : Hid (n ≤ q) := hle
  clear hle hL h hn hb hl
  go_enter Tryz.func115, Tryz.ntmps115
  go_wp2
  go_ret2
  refine LdIs.eq_1 .. ▸ ?_
  rw [HR.out, if_pos (.inl HQ.out)]
  exact ⟨HLD.out, Only.refl _ _, rfl⟩
 have q1 : ¬ (n : Int) ≤ (q : Int) := by omega
 have q2 : (q : Int) < (n : Int) := by omega
 have q0 : (0 : Int) ≤ (q : Int) := by omega
 have cq := hL.fl.cell q (by omega)
 have fq := hL.fl.frozen q
 by_cases hf : f q = true
 ·rw [hf] at cq
  have HF : Hid (f q = true) := hf
  have HN : Hid (n = d.n / 4) := hn
  clear hle hL h hn hb hl hf
  go_enter Tryz.func115, Tryz.ntmps115
  go_wp2
  go_ret2
  refine LdIs.eq_1 .. ▸ ?_
  rw [HR.out, if_pos (.inr HF.out)]
  exact ⟨HLD.out, Only.refl _ _, rfl⟩
 have hf0 : f q = false := by simpa using hf
 rw [hf0] at cq
 have wq : IntKind.i64.wrap (q : Int) = (q : Int) := by rw [IntKind.wrap_i64]; omega
 have hR2 : ldR d f q id = (fun j => f j || j == q, ldD d q id) := by rw [HR.out, if_neg (by rintro (e | e); exact hle e; exact hf e)]
 have HR2 : Hid (ldR d f q id = (fun j => f j || j == q, ldD d q id)) := hR2
 obtain ⟨w1, hw1⟩ : ∃ w1, w1 = w.setCell ⟨G, q, none⟩ (.bool true) := ⟨_, rfl⟩
 have HW1 : Hid (w1 = w.setCell ⟨G, q, none⟩ (.bool true)) := hw1
 have o1 : Only (fun i => i = G) w w1 := by rw [hw1]; exact (Only.refl (fun i => i = G) w).setCell _ _ (fun _ => rfl)
 have HO1 : Hid (Only (fun i => i = G) w w1) := o1
 have hd1 := h.frame o1 (fun k hk e => hdG (e ▸ hk))
 have hl1 : LdAt w1 L p G (d.n / 4) (fun j => f j || j == q) := by
  refine ⟨o1.cell hL.c0 hL.ne, hn ▸ o1.cell hL.c1 hL.ne, ?_, hL.ne⟩
  rw [hw1, ← hn]
  exact hL.fl.set q
 have HL1 : Hid (LdAt w1 L p G (d.n / 4) (fun j => f j || j == q)) := hl1
 have d0 : w1.cell? ⟨L, 0, none⟩ = some (.pointer (some ⟨p, 0, none⟩)) := hl1.c0
 have HP : Hid (Calls Tryz.prog 129 #[.pointer (some ⟨p, 0, none⟩), .int .i64 q] w1 fun e w' => UnpIs (unp (pgN d q 4)) w1 e w') := pread_in p S B q pv d w1 hd1 (by omega) hl hb
 have HSZ : Hid (w1.heap.size = w.heap.size) := (by rw [hw1]; simp [World.setCell] : _ = _)
 have ne1 : ¬ L = G := hL.ne
 have ne2 : ¬ G = L := fun e => hL.ne e.symm
 clear h hl hb hL hn HR hle hf hf0 hR2 hd1 hl1 hw1 o1 HLD
 go_enter Tryz.func115, Tryz.ntmps115
 go_wp2_with fail
 rw [← HW1.out]
 refine (show Calls Tryz.prog 129 _ _ _ from HP.out).mono ?_
 intro e w2 hU
 clear HP
 cases hr : unp (pgN d q 4) with
 | none =>
   rw [hr] at hU
   obtain ⟨rfl, ho2⟩ := hU
   have HD : Hid (ldD d q id = none) := (by unfold ldD; rw [hr] : _ = _)
   have HE : Hid (LdAt w2 L p G (d.n / 4) (fun j => f j || j == q) ∧ Only (fun i => i = G) w w2) := ⟨HL1.out.frame ho2 (fun e => e) (fun e => e), HO1.out.trans ho2 (fun _ _ e => e.elim)⟩
   clear hr ho2
   go_wp2
   go_ret2
   refine LdIs.eq_1 .. ▸ ?_
   rw [HR2.out, HD.out]
   exact ⟨HE.out.1, HE.out.2, rfl⟩
 | some y =>
   obtain ⟨i, D⟩ := y
   rw [hr] at hU
   obtain ⟨u, rfl, hf2, ho2⟩ := hU
   have HE : Hid (LdAt w2 L p G (d.n / 4) (fun j => f j || j == q) ∧ Only (fun i => i = G) w w2) := ⟨HL1.out.frame ho2 (fun e => e) (fun e => e), HO1.out.trans ho2 (fun _ _ e => e.elim)⟩
   rw [HSZ.out] at hf2
   have HF2 : Hid (Fresh w2 w.heap.size u D) := hf2
   by_cases hi : i = id
   ·have i1 : ((i : Int) != (id : Int)) = false := by simp [hi]
    have HD : Hid (ldD d q id = some D) := (by unfold ldD; rw [hr]; exact if_pos hi : _ = _)
    clear hr ho2 hf2 hi
    go_wp2
    go_ret2
    refine LdIs.eq_1 .. ▸ ?_
    rw [HR2.out, HD.out]
    exact ⟨HE.out.1, HE.out.2, _, rfl, HF2.out⟩
   ·have i1 : ((i : Int) != (id : Int)) = true := by simp; omega
    have HD : Hid (ldD d q id = none) := (by unfold ldD; rw [hr]; exact if_neg hi : _ = _)
    clear hr ho2 hf2 hi
    go_wp2
    go_ret2
    refine LdIs.eq_1 .. ▸ ?_
    rw [HR2.out, HD.out]
    exact ⟨HE.out.1, HE.out.2, rfl⟩
end Go.Proofs.YtlcglapcmdpkfaaGreat
namespace Go.Proofs.YtlcglapcmdpkfaaGreat
open Go.RowKit Go.Maps
set_option linter.unusedSimpArgs false
set_option linter.unusedVariables false
set_option maxRecDepth 100000
set_option maxHeartbeats 16000000
def usedF (x : SS) (j : Nat) : Bool := decide (j < 2) || x.com.any (fun p => p.2.1 == j) || x.tabs.any (fun t => t == j)
theorem RowAt.shape {W : World} {v : Value} {k : Nat} {f : Nat → Value} (h : RowAt W v k 1 f) : ∃ a c, v = .slice a k c ∧ ∀ j, j < k → ∃ g o, a = some ⟨g, o, none⟩ ∧ W.cell? ⟨g, o + j, none⟩ = some (f j) := by
 rcases h with ⟨rfl, h0⟩ | ⟨ad, c, rfl, hkc, hc⟩
 ·exact ⟨none, 0, by rw [h0], fun j hj => by omega⟩
 ·refine ⟨some ad, c, rfl, fun j hj => ?_⟩
  obtain ⟨g, o, c', hv, hc', _⟩ := RowAt.at (W := W) (f := f) (.inr ⟨ad, c, rfl, hkc, hc⟩) (by omega)
  simp only [Value.slice.injEq, Option.some.injEq] at hv
  obtain ⟨rfl, _, rfl⟩ := hv
  exact ⟨g, o, rfl, hc' j (by omega)⟩
theorem Only.grows {w w' : World} {g : Nat} (h : Only (fun k => k = g) w w') : w.grownBy w' (some g) := ⟨h.os, h.tape, h.output, h.size, fun i hi hne => h.block i hi (fun e => hne (by rw [e]))⟩
theorem Only.grows0 {w w' : World} (h : Only (fun _ => False) w w') : w.grownBy w' none := ⟨h.os, h.tape, h.output, h.size, fun i hi _ => h.block i hi (fun e => e)⟩
theorem at_key {l : List (Int × Value)} {k : Int} {v : Value} (h : ∀ zd, (DataW.map (entL l)).atKey (.int .i64 k) zd = .held v) : getL l k = some v := by
 have h1 := h (.held (.bool true))
 have h2 := h (.held (.bool false))
 rw [entL_at] at h1 h2
 cases e : getL l k with
 | none => rw [e] at h1 h2; simp at h1 h2; rw [← h1] at h2; cases h2
 | some u => rw [e] at h1; simp at h1; rw [h1]
theorem used_any {w : World} {dk : Nat → Prop} {s p mc mn : Nat} {tv : Value} {x : SS} (h : StAt w dk s p mc mn tv x) :
  Calls Tryz.prog 56 #[.pointer (some ⟨s, 0, none⟩)] w fun e w' => e = .returned (.slice (some ⟨w.heap.size, 0, none⟩) x.size x.size) ∧ FBlk w' w.heap.size x.size (usedF x) ∧ Only (fun _ => False) w w' := by
 have c1 := h.c1
 have HT : Hid (Calls Tryz.prog 81 _ _ _) := taken_any x.size (by have := h.wf.size; omega) h.wf.size.2 w
 have HS : Hid (StAt w dk s p mc mn tv x) := h
 have hsl := h.lt
 have hml := h.com.lt
 obtain ⟨sl, hm, hb⟩ := h.com
 have HB : Hid (∀ q ∈ x.com, BytesAt w (sl q.1) q.2.2 ∧ ∀ b, (sl q.1).ownBlock = some b → b < w.heap.size ∧ ¬ mutB dk s mc mn b) := hb
 have HM : Hid (MapAt w mc (x.com.map fun p => (p.1, pgV sl p))) := hm
 clear h hm hb
 go_enter Tryz.func56, Tryz.ntmps56
 go_wp2_with fail
 refine (show Calls Tryz.prog 81 _ _ _ from HT.out).mono ?_
 rintro e w1 ⟨rfl, hf1, ho1⟩
 have c5 := (HS.out.still ho1).c5
 have hm1 := HM.out.frame ho1 (fun e => e)
 have H1 : Hid (FBlk w1 w.heap.size x.size (fun j => decide (j < 2)) ∧ Only (fun _ => False) w w1) := ⟨hf1, ho1⟩
 have s1 : w.heap.size < w1.heap.size := hf1.lt
 clear HT hf1 ho1
 go_wp2_with (at_range; refine wpList_range_own _ rfl _ 77 rfl 3 82 map_keyed Tryz.underlying77 hv mc _ _ rfl hm1.own ?_; intro w2 hrg0 hg0 hs0)
 go_frame
 obtain ⟨r, hr⟩ : ∃ r, r = w1.heap.size := ⟨_, rfl⟩
 rw [← hr] at hrg0 hs0 ⊢
 clear hm1 c5
 obtain ⟨D, hD⟩ : ∃ D, D = (DataW.map (entL (x.com.map fun p => (p.1, pgV sl p)))) := ⟨_, rfl⟩
 rw [← hD, List.length_map] at hrg0
 have HR0 : Hid (r = w1.heap.size) := hr
 have HD : Hid (D = (DataW.map (entL (x.com.map fun p => (p.1, pgV sl p))))) := hD
 clear hr hD
 go_loopw [18] (fun _ wr => ∃ (left : Lit → Bool) (cnt : Nat) (f : Nat → Bool), wr.ranges Tryz.prog 3 hv mc r x.com.length D left cnt ∧ FBlk wr w.heap.size x.size f ∧
   (∀ j, f j = true ↔ j < 2 ∨ ∃ q ∈ x.com, q.2.1 = j ∧ left (.int .i64 q.1) = false) ∧ Only (fun _ => False) w wr)
  (fun _ wr => wr.rangeLeft mc r)
 case atStart =>
  refine ⟨_, _, fun j => decide (j < 2), hrg0, ?_, fun j => ?_, ?_⟩
  ·exact (hg0.block _ s1 (by simp)).trans H1.out.1
  ·simp only [decide_eq_true_eq]
   constructor
   ·exact .inl
   ·rintro (e | ⟨q, hq, _, e⟩)
    ·exact e
    ·rw [HD.out, entL_has, getL_map] at e
     cases hfind : x.com.find? fun p => p.1 == q.1 with
     | none =>
       have := List.find?_eq_none.1 hfind q hq
       simp at this
     | some q' => rw [hfind] at e; cases e
  ·exact H1.out.2.grown hg0 (fun k e _ => by cases e)
 case round =>
  obtain ⟨left, cnt, f, hrg, hfb, hff, ho⟩ := hrel
  obtain ⟨w9, rfl⟩ : ∃ w9, w9 = wr := ⟨_, rfl⟩
  have hfl := hfb.lt
  go_wp2_with (at_next; refine wpList_next_ranges _ rfl _ rfl 3 map_keyed hv (Value.int .i64) (fun v : Value => v) (fun key kl hk => by obtain ⟨z, hz, _⟩ := Maps.keyOf_int_inv Tryz.underlying3 hk; exact ⟨z, hz⟩) (fun v y _ => ⟨v, rfl⟩) mc r _ _ _ _ rfl hrg ?_ ?_)
  ·intro hc0 hl0
   have HF : Hid (FBlk w9 w.heap.size x.size (fun j => decide (j < 2) || x.com.any (fun p => p.2.1 == j))) := hfb.congr (fun j _ => by
    rw [Bool.eq_iff_iff, hff]
    simp only [Bool.or_eq_true, decide_eq_true_eq, List.any_eq_true, beq_iff_eq]
    constructor
    ·rintro (e | ⟨q, hq, e, _⟩)
     ·exact .inl e
     ·exact .inr ⟨q, hq, e⟩
    ·rintro (e | ⟨q, hq, e⟩)
     ·exact .inl e
     ·exact .inr ⟨q, hq, e, hl0 _⟩)
   have HO : Hid (Only (fun _ => False) w w9) := ho
   clear hrg hfb hff ho hc0 hl0
   have hst := HS.out.still HO.out
   have c4 := hst.c4
   obtain ⟨a4, n4, hv4, hc4⟩ := hst.tabs.shape
   have hl4 := hst.wf.tabs.1
   rw [hv4] at c4
   have HC4 : Hid (∀ j, j < x.tabs.length → ∃ g o, a4 = some ⟨g, o, none⟩ ∧ w9.cell? ⟨g, o + j, none⟩ = some (.int .i64 (x.tabs.getD j 0 : Nat))) := hc4
   have HB4 : Hid (∀ g o, a4 = some ⟨g, o, none⟩ → g < w.heap.size) := fun g o e => (HS.out.tabsB g (by rw [hv4, e]; rfl)).1
   clear hst hc4 hv4
   go_wp2
   go_loopw [31] (fun t w4 => ∃ k : Nat, k ≤ x.tabs.length ∧ t = .int .i64 k ∧ FBlk w4 w.heap.size x.size (fun j => decide (j < 2) || x.com.any (fun p => p.2.1 == j) || (x.tabs.take k).any (fun t => t == j)) ∧ Only (fun k => k = w.heap.size) w9 w4) (fun t _ => x.tabs.length - (intOf t).toNat)
   case atStart => exact ⟨0, by omega, rfl, FBlk.congr HF.out (fun j _ => by simp), Only.refl _ _⟩
   case round =>
    obtain ⟨k, hk, rfl, hfb, ho⟩ := hrel
    obtain ⟨w5, rfl⟩ : ∃ w5, w5 = wr := ⟨_, rfl⟩
    have HB5 : Hid (FBlk w5 w.heap.size x.size (fun j => decide (j < 2) || x.com.any (fun p => p.2.1 == j) || (x.tabs.take k).any (fun t => t == j))) := hfb
    have HO5 : Hid (Only (fun k => k = w.heap.size) w9 w5) := ho
    clear hfb ho
    by_cases hlt : k < x.tabs.length
    ·have k1 : (k : Int) < (x.tabs.length : Int) := by omega
     have k0 : (0 : Int) ≤ (k : Int) := by omega
     obtain ⟨g, o, rfl, hc0⟩ := HC4.out k hlt
     have hg := HB4.out g o rfl
     have hc1 : w5.cell? ⟨g, o + k, none⟩ = some (.int .i64 (x.tabs.getD k 0 : Nat)) := HO5.out.cell hc0 (by simp; omega)
     obtain ⟨t, ht⟩ : ∃ t, t = x.tabs.getD k 0 := ⟨_, rfl⟩
     have hmem : t ∈ x.tabs := by rw [ht]; simp [List.getD, hlt]
     obtain ⟨t0, t1⟩ := HS.out.wf.tabs.2 t hmem
     have HTk : Hid (x.tabs.take (k + 1) = x.tabs.take k ++ [t]) := (by rw [List.take_succ_eq_append_getElem hlt, ht]; simp [List.getD, hlt] : _ = _)
     rw [← ht] at hc1
     have a0 : (0 : Int) ≤ (t : Int) := by omega
     have a1 : (t : Int) < (x.size : Int) := by omega
     have hcc := HB5.out.cell t t1
     have hfz := HB5.out.frozen t
     obtain ⟨bt, hbt⟩ : ∃ b, b = (decide (t < 2) || x.com.any (fun p => p.2.1 == t) || (x.tabs.take k).any (fun u => u == t)) := ⟨_, rfl⟩
     rw [← hbt] at hcc
     have HN : Hid (FBlk (w5.setCell ⟨w.heap.size, t, none⟩ (.bool true)) w.heap.size x.size (fun j => decide (j < 2) || x.com.any (fun p => p.2.1 == j) || (x.tabs.take (k + 1)).any (fun t => t == j))) := (HB5.out.set t).congr (fun j _ => by
      rw [HTk.out, List.any_append]
      simp only [List.any_cons, List.any_nil, Bool.or_false, Bool.or_assoc]
      rw [show (j == t) = (t == j) from Bool.beq_comm ..])
     have HN2 : Hid (Only (fun k => k = w.heap.size) w9 (w5.setCell ⟨w.heap.size, t, none⟩ (.bool true))) := HO5.out.setCell _ _ (fun _ => rfl)
     clear HB5 HO5 hc0 ht hmem HTk hbt t0 t1
     go_wp2
     go_roundw
     case rel => exact ⟨k + 1, by omega, by go_num, HN.out, HN2.out⟩
     case measure => simp [intOf]; omega
    ·have e : k = x.tabs.length := by omega
     subst e
     have k1 : ¬ (x.tabs.length : Int) < (x.tabs.length : Int) := by omega
     clear c4
     go_wp2
     go_ret
     refine ⟨rfl, FBlk.congr HB5.out (fun j _ => by rw [List.take_length]; rfl), HO.out.trans HO5.out (fun k hk e => by omega)⟩
  ·intro z v kl yd yp w3 cnt3 hkey hlk hvv hat hrg3 hlt hg3 hs3 hen
   obtain ⟨z', hz', rfl, hzw⟩ := Maps.keyOf_int_inv Tryz.underlying3 hkey
   obtain rfl : z = z' := by injection hz'
   simp only [hv, Option.some.injEq, Prod.mk.injEq] at hvv
   obtain ⟨rfl, rfl⟩ := hvv
   rw [HD.out] at hat
   have hget := at_key hat
   rw [getL_map] at hget
   cases hfind : x.com.find? fun p => p.1 == z with
   | none => rw [hfind] at hget; cases hget
   | some q =>
     rw [hfind] at hget
     simp only [Option.map_some, Option.some.injEq] at hget
     obtain ⟨hq1, rfl⟩ := find_key hfind
     obtain ⟨ad, n, c, hsl'⟩ := bytes_slice (HB.out q hq1).1
     obtain rfl : v = .agg #[.int .i64 (q.2.1 : Nat), .slice ad n c] := by rw [← hget, pgV, hsl']
     obtain ⟨hk1, ⟨ha1, ha2⟩, _⟩ := HS.out.wf.com q hq1
     have a0 : (0 : Int) ≤ (q.2.1 : Int) := by omega
     have a1 : (q.2.1 : Int) < (x.size : Int) := by omega
     have hgr : w.heap.size ≠ r := by have := HR0.out; omega
     have hf3 : FBlk w3 w.heap.size x.size f := (hg3.block _ hfl (by simpa using hgr)).trans hfb
     obtain ⟨wp, hwp⟩ : ∃ t, t = w3.alloc (.cells #[.int .i64 (q.2.1 : Nat), .slice ad n c] 82) := ⟨_, rfl⟩
     have op3 : Only (fun _ => False) w3 wp := by rw [hwp]; exact (Only.refl _ w3).alloc _
     have hfp := hf3.frame op3 (fun e => e)
     have hcc := hfp.cell q.2.1 (by omega)
     have hfz := hfp.frozen q.2.1
     rw [hwp] at hcc hfz
     have oS : Only (fun k => k = w.heap.size) wp (wp.setCell ⟨w.heap.size, q.2.1, none⟩ (.bool true)) := (Only.refl _ wp).setCell _ _ (fun _ => rfl)
     have HR : Hid (∀ w4, w4 = (w3.alloc (.cells #[.int .i64 (q.2.1 : Nat), .slice ad n c] 82)).setCell ⟨w.heap.size, q.2.1, none⟩ (.bool true) →
       w4.ranges Tryz.prog 3 hv mc r x.com.length D (fun z => left z && !z.sameKey (.int .i64 q.1)) cnt3 ∧ FBlk w4 w.heap.size x.size (fun j => f j || j == q.2.1) ∧ Only (fun _ => False) w w4 ∧
       (∀ j, (f j || j == q.2.1) = true ↔ j < 2 ∨ ∃ q' ∈ x.com, q'.2.1 = j ∧ (left (.int .i64 q'.1) && !(Lit.int .i64 q'.1).sameKey (.int .i64 q.1)) = false)) := by
      rintro w4 rfl
      rw [← hwp]
      refine ⟨((hrg3.kept op3.grows0 (by simp) (by simp)).kept oS.grows (by simp; omega) (by simp; exact fun e => hgr e.symm)), hfp.set q.2.1, ?_, fun j => ?_⟩
      ·exact ((ho.grown hg3 (fun k e hk => by injection e with e; have := HR0.out; omega)).trans op3 (fun _ _ e => e)).trans oS (fun k hk e => by omega)
      ·rw [Bool.or_eq_true, hff, beq_iff_eq]
       constructor
       ·rintro ((e | ⟨q', hq', e, e'⟩) | e)
        ·exact .inl e
        ·exact .inr ⟨q', hq', e, by rw [e']; rfl⟩
        ·exact .inr ⟨q, hq1, e.symm, by rw [sameKey_int]; simp⟩
       ·rintro (e | ⟨q', hq', e, e'⟩)
        ·exact .inl (.inl e)
        ·rw [sameKey_int] at e'
         by_cases ek : q'.1 = q.1
         ·have hr' : q' = q := by
           have g1 := (getL_mem HS.out.com.rise q'.1 q'.2).2 hq'
           have g2 := (getL_mem HS.out.com.rise q.1 q.2).2 hq1
           rw [ek, g2] at g1
           injection g1 with g1
           exact Prod.ext ek g1.symm
          subst hr'
          exact .inr e.symm
         ·have : (q'.1 == q.1) = false := by simpa using ek
          rw [this] at e'
          exact .inl (.inr ⟨q', hq', e, by simpa using e'⟩)
     have HL : Hid (w9.rangeLeft mc r = cnt) := hrg.left_eq
     have HLT : Hid _ := hlt
     clear hg3 hs3 hrg3 hfb hff ho hrg hlt hat hget hf3 oS op3 hfp hwp hkey hlk hz' hsl' hfind hk1
     go_wp2
     go_roundw
     case rel =>
      obtain ⟨g1, g2, g3, g4⟩ := HR.out _ rfl
      exact ⟨_, cnt3, _, g1, g2, g4, g3⟩
     case measure =>
      obtain ⟨g1, _⟩ := HR.out _ rfl
      rw [g1.left_eq, HL.out]
      exact HLT.out
end Go.Proofs.YtlcglapcmdpkfaaGreat
namespace Go.Proofs.YtlcglapcmdpkfaaGreat
open Go.RowKit
set_option linter.unusedSimpArgs false
set_option linter.unusedVariables false
set_option maxRecDepth 100000
set_option maxHeartbeats 16000000
theorem Fresh.nil (w : World) (B : Nat) : Fresh w B (.slice none 0 0) [] := ⟨World.ownsRow_nil _ _ _ _, by simp, fun z h => by cases h⟩
theorem own_lt {w : World} {B : Nat} {v : Value} {zs : List Nat} (h : Fresh w B v zs) (b : Nat) (hb : v.ownBlock = some b) : B ≤ b ∧ b < w.heap.size := h.1.lt b hb
theorem app_fresh {w : World} {B : Nat} {v u : Value} {zs ys : List Nat} (h : Fresh w B v zs) (hu : BytesAt w u ys) (hB : B ≤ w.heap.size) (hl : zs.length + ys.length ≤ 140737488355328) :
  ∃ a cap w', (∀ ty, (Builtin.append_ #[37, 37] ty #[v, u]).run Tryz.prog w = .ok (.slice a (zs.length + ys.length) cap) w') ∧ Fresh w' B (.slice a (zs.length + ys.length) cap) (zs ++ ys) ∧ Only (fun i => B ≤ i) w w' := by
 obtain ⟨i0, hi0, hz0, hz1, hz2⟩ := info_parts info5
 rcases hu.1 with ⟨rfl, h0⟩ | ⟨ad, c, rfl, hkc, hc⟩
 ·obtain rfl : ys = [] := List.eq_nil_of_length_eq_zero h0
  obtain ⟨a, cap, rfl⟩ := h.form
  refine ⟨a, cap, w, fun ty => run_append_owned_none _ B 37 ty 5 i0 1 Tryz.underlying37 hi0 _ zs.length (BL zs) h.1, by simpa using h, Only.refl _ _⟩
 ·have hnews : ∀ j x, (BL ys)[j]? = some x → w.cell? (ad.add j) = some x := fun j x hx => by
   have hj : j < ys.length := by have := (List.getElem?_eq_some_iff.1 hx).1; rwa [BL_length] at this
   rw [hc j (by omega)]
   rw [BL_get _ _ hj] at hx
   rw [← hx]
   simp [List.getD, hj]
  have key := fun ty => run_append_own_at (P := Tryz.prog) w B 37 ty 5 i0 _ 1 1 Tryz.underlying37 hi0 hz0 hz1 hz2 rfl (by omega) v zs.length (BL zs) h.1 ad ys.length c (BL ys) (by rw [BL_length]; omega) hnews (BL_one ys) (by unfold maxLen; omega) (by omega) hB
  obtain ⟨v', w', hr, own', hg, _, _⟩ := key 0
  obtain ⟨a, cap, rfl⟩ := ownsRow_slice own'
  exact ⟨a, cap, w', fun ty => by rw [← hr]; rfl, Fresh.more own' hl h.2.2 hu.2.2, (Only.refl _ w).grown hg (fun k e hk => (own_lt h k e).1)⟩
def IntsAt (w : World) (v : Value) (l : List Nat) : Prop := RowAt w v l.length 1 (fun j => .int .i64 (l.getD j 0 : Nat))
theorem head_any (v : Value) (l : List Nat) (w : World) (h : IntsAt w v l) (hl : ∀ t ∈ l, t < 2048) :
  Calls Tryz.prog 85 #[v] w fun e w' => e = .returned (.int .u32 (l.getD 0 0 : Nat)) ∧ w' = w := by
 obtain ⟨a, c, rfl, hc⟩ := RowAt.shape h
 cases l with
 | nil =>
   clear h hc hl
   go_enter Tryz.func85, Tryz.ntmps85
   go_wp2
   go_ret
   exact ⟨rfl, rfl⟩
 | cons t r =>
   obtain ⟨g, o, rfl, hc0⟩ := hc 0 (by simp)
   have ht := hl t (List.mem_cons_self ..)
   have hc0' : w.cell? ⟨g, o, none⟩ = some (.int .i64 (t : Nat)) := hc0
   have e1 : IntKind.u32.wrap (t : Int) = (t : Int) := by rw [IntKind.wrap_u32]; omega
   obtain ⟨k, hk⟩ : ∃ k, k = (t :: r).length := ⟨_, rfl⟩
   have k1 : (0 : Int) < (k : Int) := by rw [hk]; simp
   have k2 : ((k : Int) == 0) = false := by simp; rw [hk]; simp
   rw [← hk]
   clear h hc hl hc0 ht hk
   go_enter Tryz.func85, Tryz.ntmps85
   go_wp2
   go_ret
   exact ⟨rfl, rfl⟩
theorem dataid_any (i : Nat) (hi : i < 728) (w : World) : Calls Tryz.prog 83 #[.int .i64 i] w fun e w' => e = .returned (.int .u32 ((3 + 256 * i : Nat) : Int)) ∧ w' = w := by
 have e1 : IntKind.u32.wrap (i : Int) = (i : Int) := by rw [IntKind.wrap_u32]; omega
 have e2 : IntKind.u32.wrap (256 * (i : Int)) = 256 * (i : Int) := by rw [IntKind.wrap_u32]; omega
 have e3 : IntKind.u32.wrap (3 + 256 * (i : Int)) = ((3 + 256 * i : Nat) : Int) := by rw [IntKind.wrap_u32]; omega
 go_enter Tryz.func83, Tryz.ntmps83
 go_wp2
 go_ret
 exact ⟨rfl, rfl⟩
theorem slice_rest (g o k c : Nat) (hk : 1 ≤ k) (hc : k ≤ c) : ∃ a2 c2, (∀ w, (Instr.slice 76 (.slice (some ⟨g, o, none⟩) k c) (some (.int .i64 1)) none none).run Tryz.prog w = .ok (.slice a2 (k - 1) c2) w) ∧ (a2 = some ⟨g, o + 1, none⟩ ∨ k = 1 ∧ a2 = some ⟨g, o, none⟩) ∧ k - 1 ≤ c2 := by
 have k0 : (1 : Int) ≤ (k : Int) := by omega
 have kc : (k : Int) ≤ (c : Int) := by omega
 have e1 : ((k : Int) - 1).toNat = k - 1 := by omega
 have e2 : ((c : Int) - 1).toNat = c - 1 := by omega
 by_cases e : c = 1
 ·have ek : k = 1 := by omega
  subst e ek
  exact ⟨some ⟨g, o, none⟩, 0, fun w => by go_simp, .inr ⟨rfl, rfl⟩, by omega⟩
 ·have ec : ¬ c - 1 = 0 := by omega
  refine ⟨some ⟨g, o + 1, none⟩, c - 1, fun w => ?_, .inl rfl, by omega⟩
  go_simp
theorem make_tab (w : World) : (Instr.makeSlice 37 (.int .i64 4) (.int .i64 116)).run Tryz.prog w = .ok (.slice (some ⟨w.heap.size, 0, none⟩) 4 116) (w.alloc (.cells (BL (List.replicate 116 0)).toArray 5)) := by
 obtain ⟨i0, hi0, hz0, hz1, hz2⟩ := info_parts info5
 have h := run_make (P := Tryz.prog) w 37 5 i0 _ Tryz.underlying37 hi0 hz0 .i64 .i64 4 116 (by omega) (by omega) (by rw [hz2]; omega) (by omega)
 rw [hz1] at h
 rw [← zeros_made]
 exact h
def cnt (f : Nat → Bool) : Nat → Nat
 | 0 => 0
 | n + 1 => cnt f n + if f n then 0 else 1
theorem cnt_le (f : Nat → Bool) : ∀ n, cnt f n ≤ n
 | 0 => Nat.le_refl _
 | n + 1 => by have := cnt_le f n; simp only [cnt]; split <;> omega
theorem cnt_out (f : Nat → Bool) (q : Nat) : ∀ n, n ≤ q → cnt (fun j => f j || j == q) n = cnt f n
 | 0, _ => rfl
 | n + 1, h => by
   have := cnt_out f q n (by omega)
   have e : (n == q) = false := by simp; omega
   simp only [cnt, this, e, Bool.or_false]
theorem cnt_set (f : Nat → Bool) (q : Nat) (hf : f q = false) : ∀ n, q < n → cnt (fun j => f j || j == q) n + 1 = cnt f n
 | 0, h => by omega
 | n + 1, h => by
   by_cases e : n = q
   ·subst e
    simp only [cnt, cnt_out f n n (Nat.le_refl _), hf]
    simp
   ·have := cnt_set f q hf n (by omega)
    have e' : (n == q) = false := by simpa using e
    simp only [cnt, e', Bool.or_false]
    omega
theorem unp_len {b : List Nat} {i : Nat} {D : List Nat} (h : unp b = some (i, D)) : D.length ≤ 116 := by
 unfold unp at h
 split at h
 ·split at h
  ·cases h
  ·split at h
   ·simp only [Option.some.injEq, Prod.mk.injEq] at h
    rw [← h.2, List.length_take]
    omega
   ·cases h
 ·cases h
theorem ldR_some {d : DS} {f : Nat → Bool} {q id : Nat} {D : List Nat} (h : (ldR d f q id).2 = some D) : q < d.n / 4 ∧ f q = false ∧ (ldR d f q id).1 = (fun j => f j || j == q) ∧ D.length ≤ 116 := by
 unfold ldR at h ⊢
 by_cases c : d.n / 4 ≤ q ∨ f q = true
 ·rw [if_pos c] at h; cases h
 ·rw [if_neg c] at h ⊢
  have hf : f q = false := by
   cases hf : f q with
   | true => exact (c (.inr hf)).elim
   | false => rfl
  refine ⟨by omega, hf, rfl, ?_⟩
  have h2 : ldD d q id = some D := h
  unfold ldD at h2
  cases hu : unp (pgN d q 4) with
  | none => rw [hu] at h2; cases h2
  | some y =>
    obtain ⟨i, D'⟩ := y
    rw [hu] at h2
    simp only at h2
    split at h2
    ·cases h2; exact unp_len hu
    ·cases h2
def tbR (d : DS) : Nat → (Nat → Bool) → Nat → List Nat → List Nat → (Nat → Bool) × Option (List Nat × List Nat)
 | 0, f, _, _, _ => (f, none)
 | k + 1, f, nx, at_, tab => if nx = 0 then (f, some (at_, tab)) else
   match (ldR d f nx 2).2 with
   | none => ((ldR d f nx 2).1, none)
   | some D => if D.length < 4 then ((ldR d f nx 2).1, none) else tbR d k (ldR d f nx 2).1 (part D 0 4) (at_ ++ [nx]) (tab ++ D.drop 4)
theorem tbR_end (d : DS) (k : Nat) (f : Nat → Bool) (at_ tab : List Nat) : tbR d (k + 1) f 0 at_ tab = (f, some (at_, tab)) := by unfold tbR; rw [if_pos rfl]
theorem tbR_none {d : DS} {f : Nat → Bool} {nx : Nat} (h0 : nx ≠ 0) (h : (ldR d f nx 2).2 = none) (k : Nat) (at_ tab : List Nat) : tbR d (k + 1) f nx at_ tab = ((ldR d f nx 2).1, none) := by
 rw [tbR, if_neg h0, h]
theorem tbR_short {d : DS} {f : Nat → Bool} {nx : Nat} {D : List Nat} (h0 : nx ≠ 0) (h : (ldR d f nx 2).2 = some D) (hD : D.length < 4) (k : Nat) (at_ tab : List Nat) : tbR d (k + 1) f nx at_ tab = ((ldR d f nx 2).1, none) := by
 rw [tbR, if_neg h0, h]
 exact if_pos hD
theorem tbR_go {d : DS} {f : Nat → Bool} {nx : Nat} {D : List Nat} (h0 : nx ≠ 0) (h : (ldR d f nx 2).2 = some D) (hD : ¬ D.length < 4) (k : Nat) (at_ tab : List Nat) : tbR d (k + 1) f nx at_ tab = tbR d k (ldR d f nx 2).1 (part D 0 4) (at_ ++ [nx]) (tab ++ D.drop 4) := by
 rw [tbR, if_neg h0, h]
 exact if_neg hD
def TbIs (w : World) (L p G n : Nat) (r : (Nat → Bool) × Option (List Nat × List Nat)) (e : Ending) (w' : World) : Prop :=
 LdAt w' L p G n r.1 ∧ Only (fun i => i = G) w w' ∧ match r.2 with
 | none => e = .returned (.tuple #[.slice none 0 0, .slice none 0 0, .bool false])
 | some x => ∃ va vt, e = .returned (.tuple #[va, vt, .bool true]) ∧ FreshI w' w.heap.size va x.1 ∧ Fresh w' w.heap.size vt x.2 ∧ ∀ b, va.ownBlock = some b → vt.ownBlock ≠ some b
theorem app_int2 {w : World} {B : Nat} {v : Value} {zs : List Nat} (h : FreshI w B v zs) (hB : B ≤ w.heap.size) (q : Nat) (hl : zs.length + 1 ≤ 1048576) :
  ∃ a cap w', (∀ ty, (Builtin.append_ #[76, 76] ty #[v, .slice (some ⟨w.heap.size, 0, none⟩) 1 1]).run Tryz.prog (w.alloc (.cells #[.int .i64 (q : Int)] 3)) = .ok (.slice a (zs.length + 1) cap) w') ∧ FreshI w' B (.slice a (zs.length + 1) cap) (zs ++ [q]) ∧ Only (fun i => v.ownBlock = some i) w w' ∧ ∀ b, (Value.slice a (zs.length + 1) cap).ownBlock = some b → v.ownBlock = some b ∨ w.heap.size ≤ b := by
 obtain ⟨i0, hi0, hz0, hz1, hz2⟩ := info_parts info3
 have o1 : Only (fun _ => False) w (w.alloc (.cells #[.int .i64 (q : Int)] 3)) := (Only.refl _ w).alloc _
 have h2 := h.frame o1
 have key := fun ty => run_append_own_at (P := Tryz.prog) (w.alloc (.cells #[.int .i64 (q : Int)] 3)) B 76 ty 3 i0 _ 1 8 Tryz.underlying76 hi0 hz0 hz1 hz2 rfl (by omega) v zs.length (IL zs) h2.1 ⟨w.heap.size, 0, none⟩ 1 1 [.int .i64 (q : Int)] rfl (World.news_of_block (heap_alloc_new w _)) (by simp [Value.oneCell']) (by unfold maxLen; omega) (by omega) (by have := o1.size; omega)
 obtain ⟨v', w', hr, own', hg, _, hb⟩ := key 0
 obtain ⟨a, cap, rfl⟩ := ownsRow_slice own'
 refine ⟨a, cap, w', fun ty => by rw [← hr]; rfl, ⟨?_, by simpa using hl⟩, (o1.mono (fun _ _ e => e.elim)).trans ((Only.refl (fun i => v.ownBlock = some i) _).grown hg (fun k e hk => e)) (fun _ _ e => e), fun b e => ?_⟩
 ·have e : IL (zs ++ [q]) = IL zs ++ [.int .i64 (q : Int)] := by simp [IL]
  rw [e, List.length_append]
  exact own'
 ·rcases hb with hb | hb
  ·exact .inl (hb ▸ e)
  ·rw [hb] at e
   cases e
   exact .inr (by have := o1.size; omega)
theorem app_fresh2 {w : World} {B : Nat} {v u : Value} {zs ys : List Nat} (h : Fresh w B v zs) (hu : BytesAt w u ys) (hB : B ≤ w.heap.size) (hl : zs.length + ys.length ≤ 140737488355328) :
  ∃ a cap w', (∀ ty, (Builtin.append_ #[37, 37] ty #[v, u]).run Tryz.prog w = .ok (.slice a (zs.length + ys.length) cap) w') ∧ Fresh w' B (.slice a (zs.length + ys.length) cap) (zs ++ ys) ∧ Only (fun i => v.ownBlock = some i) w w' ∧ ∀ b, (Value.slice a (zs.length + ys.length) cap).ownBlock = some b → v.ownBlock = some b ∨ w.heap.size ≤ b := by
 obtain ⟨i0, hi0, hz0, hz1, hz2⟩ := info_parts info5
 rcases hu.1 with ⟨rfl, h0⟩ | ⟨ad, c, rfl, hkc, hc⟩
 ·obtain rfl : ys = [] := List.eq_nil_of_length_eq_zero h0
  obtain ⟨a, cap, rfl⟩ := h.form
  refine ⟨a, cap, w, fun ty => run_append_owned_none _ B 37 ty 5 i0 1 Tryz.underlying37 hi0 _ zs.length (BL zs) h.1, by simpa using h, Only.refl _ _, fun b e => .inl e⟩
 ·have hnews : ∀ j x, (BL ys)[j]? = some x → w.cell? (ad.add j) = some x := fun j x hx => by
   have hj : j < ys.length := by have := (List.getElem?_eq_some_iff.1 hx).1; rwa [BL_length] at this
   rw [hc j (by omega)]
   rw [BL_get _ _ hj] at hx
   rw [← hx]
   simp [List.getD, hj]
  have key := fun ty => run_append_own_at (P := Tryz.prog) w B 37 ty 5 i0 _ 1 1 Tryz.underlying37 hi0 hz0 hz1 hz2 rfl (by omega) v zs.length (BL zs) h.1 ad ys.length c (BL ys) (by rw [BL_length]; omega) hnews (BL_one ys) (by unfold maxLen; omega) (by omega) hB
  obtain ⟨v', w', hr, own', hg, _, hb⟩ := key 0
  obtain ⟨a, cap, rfl⟩ := ownsRow_slice own'
  refine ⟨a, cap, w', fun ty => by rw [← hr]; rfl, Fresh.more own' hl h.2.2 hu.2.2, (Only.refl (fun i => v.ownBlock = some i) w).grown hg (fun k e hk => e), fun b e => ?_⟩
  rcases hb with hb | hb
  ·exact .inl (hb ▸ e)
  ·rw [hb] at e
   cases e
   exact .inr (Nat.le_refl _)
theorem slice_four {w : World} (g o k c : Nat) {zs : List Nat} (h : BytesAt w (.slice (some ⟨g, o, none⟩) k c) zs) (hz : zs.length = k) (hk : 4 ≤ k) (hc : k ≤ c) : ∃ a2 c2, (∀ w, (Instr.slice 37 (.slice (some ⟨g, o, none⟩) k c) (some (.int .i64 4)) none none).run Tryz.prog w = .ok (.slice a2 (k - 4) c2) w) ∧ BytesAt w (.slice a2 (k - 4) c2) (zs.drop 4) ∧ ∀ b, (Value.slice a2 (k - 4) c2).ownBlock = some b → b = g := by
 have k0 : (4 : Int) ≤ (k : Int) := by omega
 have kc : (k : Int) ≤ (c : Int) := by omega
 have e1 : ((k : Int) - 4).toNat = k - 4 := by omega
 have e2 : ((c : Int) - 4).toNat = c - 4 := by omega
 by_cases e : c = 4
 ·have ek : k = 4 := by omega
  subst e ek
  refine ⟨some ⟨g, o, none⟩, 0, fun w => by go_simp, ?_, fun b hb => by simp [Value.ownBlock] at hb; omega⟩
  rw [List.drop_of_length_le (by omega)]
  exact BytesAt.none _ _ (fun e => by cases e)
 ·have ec : ¬ c - 4 = 0 := by omega
  refine ⟨some ⟨g, o + 4, none⟩, c - 4, fun w => by go_simp, ?_, fun b hb => by simp [Value.ownBlock] at hb; omega⟩
  have := h.cut 4 (k - 4) (c - 4) (by omega) (by omega)
  rwa [List.take_of_length_le (by rw [List.length_drop]; omega)] at this
def lenOf : Value → Nat
 | .slice _ n _ => n
 | _ => 0
end Go.Proofs.YtlcglapcmdpkfaaGreat
