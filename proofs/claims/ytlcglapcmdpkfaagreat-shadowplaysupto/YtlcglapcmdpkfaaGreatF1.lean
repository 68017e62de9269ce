import Derived.Test.YtlcglapcmdpkfaaGreatS6
namespace Go.Proofs.YtlcglapcmdpkfaaGreat
open Go.RowKit
set_option linter.unusedSimpArgs false
set_option linter.unusedVariables false
def fr (F : List Bool) (n : Nat) : Nat → List Nat
 | 0 => []
 | k + 1 => if (fr F n k).length = n ∨ F.getD k false = true then fr F n k else fr F n k ++ [k]
theorem fr_len (F : List Bool) (n : Nat) : ∀ k, (fr F n k).length ≤ k
 | 0 => by simp [fr]
 | k + 1 => by
   have := fr_len F n k
   simp only [fr]
   split
   ·omega
   ·simp; omega
theorem fr_le (F : List Bool) (n : Nat) : ∀ k, (fr F n k).length ≤ n
 | 0 => by simp [fr]
 | k + 1 => by
   have := fr_le F n k
   simp only [fr]
   split
   ·omega
   ·rename_i h
    have : (fr F n k).length ≠ n := fun e => h (.inl e)
    simp; omega
theorem fr_stop (F : List Bool) (n k : Nat) (h : (fr F n k).length = n) : ∀ j, fr F n (k + j) = fr F n k
 | 0 => rfl
 | j + 1 => by
   have ih := fr_stop F n k h j
   show (if (fr F n (k + j)).length = n ∨ F.getD (k + j) false = true then fr F n (k + j) else fr F n (k + j) ++ [k + j]) = _
   rw [ih, if_pos (.inl h)]
theorem fr_end (F : List Bool) (n k m : Nat) (h : (fr F n k).length = n) (hk : k ≤ m) : fr F n m = fr F n k := by
 have := fr_stop F n k h (m - k)
 rwa [show k + (m - k) = m by omega] at this
theorem fr_taken (F : List Bool) (n k : Nat) (h : F.getD k false = true) : fr F n (k + 1) = fr F n k := by simp only [fr]; rw [if_pos (.inr h)]
theorem fr_free (F : List Bool) (n k : Nat) (h : F.getD k false = false) (hn : (fr F n k).length ≠ n) : fr F n (k + 1) = fr F n k ++ [k] := by
 simp only [fr]
 rw [if_neg]
 rintro (e | e)
 ·exact hn e
 ·rw [h] at e; cases e
def FlagsAt (W : World) (v : Value) (F : List Bool) : Prop := RowAt W v F.length 1 (fun j => .bool (F.getD j false)) ∧ F.length ≤ 140737488351232
theorem FlagsAt.frame {W W' : World} {v : Value} {F : List Bool} (h : FlagsAt W v F) (ho : Only (fun _ => False) W W') : FlagsAt W' v F := ⟨h.1.frame ho (fun _ e => e.elim), h.2⟩
theorem FlagsAt.form {W : World} {v : Value} {F : List Bool} (h : FlagsAt W v F) : ∃ a c, v = .slice a F.length c ∧ F.length ≤ c ∧ ∀ j, j < F.length → ∃ g o, a = some ⟨g, o, none⟩ ∧ W.cell? ⟨g, o + j, none⟩ = some (.bool (F.getD j false)) := by
 rcases h.1 with ⟨rfl, h0⟩ | ⟨ad, c, rfl, hkc, hc⟩
 ·exact ⟨none, 0, by rw [h0], by omega, fun j hj => by omega⟩
 ·refine ⟨some ad, c, rfl, hkc, fun j hj => ?_⟩
  obtain ⟨g, o, c', hv, hc', _⟩ := h.1.at (by omega)
  simp only [Value.slice.injEq, Option.some.injEq] at hv
  obtain ⟨rfl, _, rfl⟩ := hv
  exact ⟨g, o, rfl, hc' j (by omega)⟩
def IL (l : List Nat) : List Value := l.map fun z => .int .i64 (z : Nat)
theorem IL_get (zs : List Nat) (j : Nat) (h : j < zs.length) : (IL zs)[j]? = some (.int .i64 (zs.getD j 0 : Nat)) := by simp [IL, List.getD, h]
def FreshI (w : World) (B : Nat) (v : Value) (l : List Nat) : Prop := w.ownsRow B 3 1 v l.length (IL l) ∧ l.length ≤ 1048576
theorem FreshI.frame {w w' : World} {B : Nat} {v : Value} {zs : List Nat} (h : FreshI w B v zs) (ho : Only (fun _ => False) w w') : FreshI w' B v zs := ⟨ho.owns h.1 (fun _ _ e => e), h.2⟩
theorem FreshI.form {w : World} {B : Nat} {v : Value} {zs : List Nat} (h : FreshI w B v zs) : ∃ a c, v = .slice a zs.length c ∧ ∀ j, j < zs.length → ∃ g, a = some ⟨g, 0, none⟩ ∧ w.cell? ⟨g, j, none⟩ = some (.int .i64 (zs.getD j 0 : Nat)) := by
 rcases h.1.2 with ⟨rfl, h0⟩ | ⟨g, cap, cur, rfl, _⟩
 ·exact ⟨none, 0, by rw [h0], fun j hj => by omega⟩
 ·refine ⟨some ⟨g, 0, none⟩, cap, rfl, fun j hj => ⟨g, rfl, ?_⟩⟩
  rw [h.1.cellAt j (by omega)]
  exact IL_get zs j hj
theorem info3 : (Tryz.prog.info? 3).map (fun i => (i.zero, i.size, i.bytes)) = some (some (.int .i64 0), 1, 8) := by kernel_rfl
theorem app_int {w : World} {B : Nat} {v : Value} {zs : List Nat} (h : FreshI w B v zs) (hB : B ≤ w.heap.size) (q : Nat) (hl : zs.length + 1 ≤ 1048576) :
  ∃ a cap w', (∀ ty, (Builtin.append_ #[76, 76] ty #[v, .slice (some ⟨w.heap.size, 0, none⟩) 1 1]).run Tryz.prog (w.alloc (.cells #[.int .i64 (q : Int)] 3)) = .ok (.slice a (zs.length + 1) cap) w') ∧ FreshI w' B (.slice a (zs.length + 1) cap) (zs ++ [q]) ∧ Only (fun i => B ≤ i) w w' := by
 obtain ⟨i0, hi0, hz0, hz1, hz2⟩ := info_parts info3
 have o1 : Only (fun _ => False) w (w.alloc (.cells #[.int .i64 (q : Int)] 3)) := (Only.refl _ w).alloc _
 have h2 := h.frame o1
 have key := fun ty => run_append_own_at (P := Tryz.prog) (w.alloc (.cells #[.int .i64 (q : Int)] 3)) B 76 ty 3 i0 _ 1 8 Tryz.underlying76 hi0 hz0 hz1 hz2 rfl (by omega) v zs.length (IL zs) h2.1 ⟨w.heap.size, 0, none⟩ 1 1 [.int .i64 (q : Int)] rfl (World.news_of_block (heap_alloc_new w _)) (by simp [Value.oneCell']) (by unfold maxLen; omega) (by omega) (by have := o1.size; omega)
 obtain ⟨v', w', hr, own', hg, _, _⟩ := key 0
 obtain ⟨a, cap, rfl⟩ := ownsRow_slice own'
 refine ⟨a, cap, w', fun ty => by rw [← hr]; rfl, ⟨?_, by simpa using hl⟩, (o1.mono (fun _ _ e => e.elim)).trans ((Only.refl _ _).grown hg (fun k e hk => (h2.1.lt k e).1)) (fun _ _ e => e)⟩
 have e : IL (zs ++ [q]) = IL zs ++ [.int .i64 (q : Int)] := by simp [IL]
 rw [e, List.length_append]
 exact own'
theorem FreshI.nil (w : World) (B : Nat) : FreshI w B (.slice none 0 0) [] := ⟨World.ownsRow_nil _ _ _ _, by simp⟩
def FirstIs (L : List Nat) (n : Nat) (w : World) (e : Ending) (w' : World) : Prop :=
 (L.length < n ∧ e = .returned (.tuple #[.slice none 0 0, .int .i64 7]) ∧ Only (fun _ => False) w w') ∨
 (L.length = n ∧ ∃ u, e = .returned (.tuple #[u, .int .i64 0]) ∧ FreshI w' w.heap.size u L ∧ Only (fun _ => False) w w')
set_option maxRecDepth 100000 in
set_option maxHeartbeats 2000000 in
theorem first_ok (v : Value) (F : List Bool) (n : Nat) (w : World) (h : FlagsAt w v F) (hF : F.length ≤ 1048576) :
  Calls Tryz.prog 55 #[v, .int .i64 n] w fun e w' => FirstIs (fr F n F.length) n w e w' := by
 obtain ⟨a, c, rfl, hcap, hc⟩ := h.form
 have HC : Hid _ := hc
 obtain ⟨m, hm⟩ : ∃ m, m = F.length := ⟨_, rfl⟩
 have HM : Hid (m = F.length) := hm
 rw [← hm] at hF
 rw [← hm]
 have n0 : ¬ (n : Int) < 0 := by omega
 clear h hc hcap hm
 go_enter Tryz.func55, Tryz.ntmps55
 go_wp2
 go_loopw [6, 13] (fun b t wr => ∃ k : Nat, k ≤ m ∧ t = .int .i64 k ∧ FreshI wr w.heap.size b (fr F n k) ∧ Only (fun _ => False) w wr) (fun _ t _ => m - (intOf t).toNat)
 case atStart => exact ⟨0, by omega, rfl, FreshI.nil _ _, Only.refl _ _⟩
 case round =>
  obtain ⟨k, hk, rfl, hf, ho⟩ := hrel
  obtain ⟨w2, rfl⟩ : ∃ w2, w2 = wr := ⟨_, rfl⟩
  obtain ⟨b, rfl⟩ : ∃ x, x = u6 := ⟨_, rfl⟩
  obtain ⟨a2, c2, rfl, _⟩ := hf.form
  have HF : Hid (FreshI w2 w.heap.size (.slice a2 (fr F n k).length c2) (fr F n k)) := hf
  have HO : Hid (Only (fun _ => False) w w2) := ho
  have hlk := fr_len F n k
  have hln := fr_le F n k
  obtain ⟨L, hL⟩ : ∃ L, L = fr F n k := ⟨_, rfl⟩
  have HL : Hid (L = fr F n k) := hL
  rw [← hL] at hlk hln HF hf
  rw [← hL]
  obtain ⟨q, hq⟩ : ∃ q, q = L.length := ⟨_, rfl⟩
  have HQ : Hid (q = L.length) := hq
  rw [← hq] at hlk hln HF hf
  rw [← hq]
  have fin : ∀ e, fr F n m = L → FirstIs (fr F n m) n w e w2 ∨ True := fun _ _ => .inr trivial
  clear fin hL
  by_cases hlt : k < m
  ·have k1 : (k : Int) < (m : Int) := by omega
   have k0 : (0 : Int) ≤ (k : Int) := by omega
   obtain ⟨g, o, rfl, hcell⟩ := HC.out k (by have := HM.out; omega)
   have y1 := ho.cell hcell (fun e => e)
   by_cases hqn : q = n
   ·have he : ((q : Int) == (n : Int)) = true := by simp [hqn]
    have hn2 : ¬ (q : Int) < (n : Int) := by omega
    have HE : Hid (fr F n m = L ∧ L.length = n) := by
     have e1 : (fr F n k).length = n := by rw [← HL.out, ← hq]; exact hqn
     exact ⟨(fr_end F n k m e1 (by omega)).trans HL.out.symm, by omega⟩
    clear hf ho hcell hqn hq
    go_wp2
    go_ret2
    refine .inr ⟨by rw [HE.out.1]; exact HE.out.2, _, rfl, by rw [HE.out.1]; exact HF.out, HO.out⟩
   ·have he : ((q : Int) == (n : Int)) = false := by simp; omega
    cases hb : F.getD k false with
    | true =>
      rw [hb] at y1
      have HT : Hid (fr F n (k + 1) = L) := (fr_taken F n k hb).trans HL.out.symm
      clear hf ho hcell hqn hq hb
      go_wp2
      go_roundw
      case rel => exact ⟨k + 1, by omega, by go_num, by rw [HT.out]; exact HF.out, HO.out⟩
      case measure => simp [intOf]; omega
    | false =>
      rw [hb] at y1
      have HT : Hid (fr F n (k + 1) = L ++ [k]) := (by rw [fr_free F n k hb (by rw [← HL.out, ← hq]; exact hqn), HL.out] : _ = _)
      obtain ⟨a5, c5, w5, hr5, hf5, ho5⟩ := app_int hf ho.size k (by omega)
      rw [← hq] at hr5 hf5
      have HR : Hid _ := hr5
      have HF5 : Hid (FreshI w5 w.heap.size (.slice a5 (q + 1) c5) (fr F n (k + 1))) := by rw [HT.out]; exact hf5
      have HO5 : Hid (Only (fun _ => False) w w5) := ho.trans ho5 (fun i hi e => by omega)
      clear hf ho hcell hqn hq hb hr5 hf5 ho5
      go_wp2_with (at_builtin; go_must (refine wpList_append_run rfl _ _ 76 rfl _ _ (.slice a5 (q + 1) c5) rfl rfl HR.out ?_))
      go_roundw
      case rel => exact ⟨k + 1, by omega, by go_num, HF5.out, HO5.out⟩
      case measure => simp [intOf]; omega
  ·obtain rfl : k = m := by omega
   by_cases hqn : q < n
   ·have hn2 : (q : Int) < (n : Int) := by omega
    clear hf ho hq
    go_wp2
    go_ret2
    exact .inl ⟨by rw [← HL.out, ← HQ.out]; exact hqn, rfl, HO.out⟩
   ·have hn2 : ¬ (q : Int) < (n : Int) := by omega
    clear hf ho hq
    go_wp2
    go_ret2
    exact .inr ⟨by rw [← HL.out, ← HQ.out]; omega, _, rfl, by rw [← HL.out]; exact HF.out, HO.out⟩
set_option maxRecDepth 100000 in
set_option maxHeartbeats 2000000 in
theorem rfirst_ok (v : Value) (F : List Bool) (n : Nat) (w : World) (h : FlagsAt w v F) (hF : F.length ≤ 1048576) :
  Calls Tryz.prog 88 #[v, .int .i64 n] w fun e w' => FirstIs (fr F n F.length) n w e w' := by
 obtain ⟨a, c, rfl, hcap, hc⟩ := h.form
 have HC : Hid _ := hc
 obtain ⟨m, hm⟩ : ∃ m, m = F.length := ⟨_, rfl⟩
 have HM : Hid (m = F.length) := hm
 rw [← hm] at hF
 rw [← hm]
 have n0 : ¬ (n : Int) < 0 := by omega
 clear h hc hcap hm
 go_enter Tryz.func88, Tryz.ntmps88
 go_wp2
 go_loopw [6, 7] (fun b t wr => ∃ k : Nat, k ≤ m ∧ t = .int .i64 k ∧ FreshI wr w.heap.size b (fr F n k) ∧ Only (fun _ => False) w wr) (fun _ t _ => m - (intOf t).toNat)
 case atStart => exact ⟨0, by omega, rfl, FreshI.nil _ _, Only.refl _ _⟩
 case round =>
  obtain ⟨k, hk, rfl, hf, ho⟩ := hrel
  obtain ⟨w2, rfl⟩ : ∃ w2, w2 = wr := ⟨_, rfl⟩
  obtain ⟨b, rfl⟩ : ∃ x, x = u6 := ⟨_, rfl⟩
  obtain ⟨a2, c2, rfl, _⟩ := hf.form
  have HF : Hid (FreshI w2 w.heap.size (.slice a2 (fr F n k).length c2) (fr F n k)) := hf
  have HO : Hid (Only (fun _ => False) w w2) := ho
  have hlk := fr_len F n k
  have hln := fr_le F n k
  obtain ⟨L, hL⟩ : ∃ L, L = fr F n k := ⟨_, rfl⟩
  have HL : Hid (L = fr F n k) := hL
  rw [← hL] at hlk hln HF hf
  rw [← hL]
  obtain ⟨q, hq⟩ : ∃ q, q = L.length := ⟨_, rfl⟩
  have HQ : Hid (q = L.length) := hq
  rw [← hq] at hlk hln HF hf
  rw [← hq]
  clear hL
  by_cases hlt : k < m
  ·have k1 : (k : Int) < (m : Int) := by omega
   have k0 : (0 : Int) ≤ (k : Int) := by omega
   obtain ⟨g, o, rfl, hcell⟩ := HC.out k (by have := HM.out; omega)
   have y1 := ho.cell hcell (fun e => e)
   by_cases hqn : q = n
   ·have hn2 : ¬ (q : Int) < (n : Int) := by omega
    have HE : Hid (fr F n m = L ∧ L.length = n) := by
     have e1 : (fr F n k).length = n := by rw [← HL.out, ← hq]; exact hqn
     exact ⟨(fr_end F n k m e1 (by omega)).trans HL.out.symm, by omega⟩
    clear hf ho hcell hqn hq
    go_wp2
    go_ret2
    refine .inr ⟨by rw [HE.out.1]; exact HE.out.2, _, rfl, by rw [HE.out.1]; exact HF.out, HO.out⟩
   ·have hn2 : (q : Int) < (n : Int) := by omega
    cases hb : F.getD k false with
    | true =>
      rw [hb] at y1
      have HT : Hid (fr F n (k + 1) = L) := (fr_taken F n k hb).trans HL.out.symm
      clear hf ho hcell hqn hq hb
      go_wp2
      go_roundw
      case rel => exact ⟨k + 1, by omega, by go_num, by rw [HT.out]; exact HF.out, HO.out⟩
      case measure => simp [intOf]; omega
    | false =>
      rw [hb] at y1
      have HT : Hid (fr F n (k + 1) = L ++ [k]) := (by rw [fr_free F n k hb (by rw [← HL.out, ← hq]; exact hqn), HL.out] : _ = _)
      obtain ⟨a5, c5, w5, hr5, hf5, ho5⟩ := app_int hf ho.size k (by omega)
      rw [← hq] at hr5 hf5
      have HR : Hid _ := hr5
      have HF5 : Hid (FreshI w5 w.heap.size (.slice a5 (q + 1) c5) (fr F n (k + 1))) := by rw [HT.out]; exact hf5
      have HO5 : Hid (Only (fun _ => False) w w5) := ho.trans ho5 (fun i hi e => by omega)
      clear hf ho hcell hqn hq hb hr5 hf5 ho5
      go_wp2_with (at_builtin; go_must (refine wpList_append_run rfl _ _ 76 rfl _ _ (.slice a5 (q + 1) c5) rfl rfl HR.out ?_))
      go_roundw
      case rel => exact ⟨k + 1, by omega, by go_num, HF5.out, HO5.out⟩
      case measure => simp [intOf]; omega
  ·obtain rfl : k = m := by omega
   have k1 : ¬ (k : Int) < (k : Int) := by omega
   by_cases hqn : q < n
   ·have hn2 : (q : Int) < (n : Int) := by omega
    clear hf ho hq
    go_wp2
    go_ret2
    exact .inl ⟨by rw [← HL.out, ← HQ.out]; exact hqn, rfl, HO.out⟩
   ·have hn2 : ¬ (q : Int) < (n : Int) := by omega
    clear hf ho hq
    go_wp2
    go_ret2
    exact .inr ⟨by rw [← HL.out, ← HQ.out]; omega, _, rfl, by rw [← HL.out]; exact HF.out, HO.out⟩
set_option maxRecDepth 100000 in
set_option maxHeartbeats 1000000 in
theorem sameints_any (a1 a2 : Option Addr) (m c1 c2 : Nat) (f : Nat → Int) (w : World) (hm : m ≤ 1048576) (f1 : ∀ j, j < m → ∃ g, a1 = some ⟨g, 0, none⟩ ∧ w.cell? ⟨g, j, none⟩ = some (.int .i64 (f j))) (f2 : ∀ j, j < m → ∃ g, a2 = some ⟨g, 0, none⟩ ∧ w.cell? ⟨g, j, none⟩ = some (.int .i64 (f j))) :
  Calls Tryz.prog 50 #[.slice a1 m c1, .slice a2 m c2] w fun e w' => e = .returned (.bool true) ∧ Only (fun _ => False) w w' := by
 go_enter Tryz.func50, Tryz.ntmps50
 go_wp2
 go_loopw [5] (fun t wr => ∃ k : Nat, k ≤ m ∧ t = .int .i64 k ∧ Only (fun _ => False) w wr) (fun t _ => m - (intOf t).toNat)
 case atStart => exact ⟨0, Nat.zero_le _, rfl, Only.refl _ _⟩
 case round =>
  obtain ⟨k, hk, rfl, ho⟩ := hrel
  by_cases hlt : k < m
  ·obtain ⟨g1, rfl, x1⟩ := f1 k hlt
   obtain ⟨g2, rfl, x2⟩ := f2 k hlt
   have y1 := ho.cell x1 (fun e => e)
   have y2 := ho.cell x2 (fun e => e)
   have k0 : (0 : Int) ≤ (k : Int) := Int.natCast_nonneg _
   have k1 : (k : Int) < (m : Int) := by omega
   obtain ⟨z, hz⟩ : ∃ z, z = f k := ⟨_, rfl⟩
   rw [← hz] at y1 y2
   have HO : Hid (Only (fun _ => False) w wr) := ho
   clear f1 f2 x1 x2 ho hz
   go_wp2_with fail
   go_region_held3 (fun w' => w'.cell? ⟨g1, k, none⟩ = some (.int .i64 z) ∧ w'.cell? ⟨g2, k, none⟩ = some (.int .i64 z)) (go_keep) (fail)
   go_wp2
   go_roundw
   case rel => exact ⟨k + 1, by omega, by go_num, HO.out.drew⟩
   case measure => simp [intOf]; omega
  ·obtain rfl : k = m := by omega
   clear f1 f2
   go_wp2
   go_ret
   exact ⟨rfl, ho⟩
end Go.Proofs.YtlcglapcmdpkfaaGreat
