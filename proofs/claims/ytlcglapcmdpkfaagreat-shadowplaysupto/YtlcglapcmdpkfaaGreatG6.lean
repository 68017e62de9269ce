import Derived.Test.YtlcglapcmdpkfaaGreatG5
import Derived.Test.YtlcglapcmdpkfaaGreatS2
import Derived.BigRegion
namespace Go.Proofs.YtlcglapcmdpkfaaGreat
open Go.RowKit
set_option linter.unusedSimpArgs false
set_option linter.unusedVariables false
section
variable {w : World} {rk : Nat → Prop} {B r q : Nat} {tv kv nv : Value} {x : SS} {lk ln : List RPg}
def rpE (i : Int) (m : Nat) : Int := if badE i ≠ 0 then 4 else if 116 < m then 11 else 0
theorem rput4_dead (r : Nat) (i : Int) (v : Value) (w : World) (h : w.cell? ⟨r, 6, none⟩ = some (.bool true)) :
  Calls Tryz.prog 26 #[.pointer (some ⟨r, 0, none⟩), .int .i64 i, v] w fun e w' => e = .returned (.int .i64 3) ∧ w' = w := by
 have HB := rbad_dead r i w h
 go_enter Tryz.func26, Tryz.ntmps26
 go_wp2_with fail
 refine HB.mono ?_
 rintro e w1 ⟨rfl, rfl⟩
 go_wp2
 go_ret
 exact ⟨rfl, rfl⟩
set_option maxRecDepth 100000 in
set_option maxHeartbeats 1000000 in
theorem rput4_bad (h : RsAt w rk B r q tv kv nv x lk ln) (i : Int) (a : Option Addr) (m c : Nat) (he : rpE i m ≠ 0) :
  Calls Tryz.prog 26 #[.pointer (some ⟨r, 0, none⟩), .int .i64 i, .slice a m c] w fun e w' => e = .returned (.int .i64 (rpE i m)) ∧ w' = w := by
 have HB := rbad_any r i w h.c6
 by_cases hb : badE i = 0
 ·have hm : 116 < m := by
   unfold rpE at he
   rw [if_neg (by simpa using hb)] at he
   by_cases h1 : 116 < m
   ·exact h1
   ·rw [if_neg h1] at he; exact absurd rfl he
  rw [show rpE i m = 11 by unfold rpE; rw [if_neg (by simpa using hb), if_pos hm]]
  rw [hb] at HB
  have hm2 : (116 : Int) < (m : Int) := by omega
  clear he hb h
  go_enter Tryz.func26, Tryz.ntmps26
  go_wp2_with fail
  refine HB.mono ?_
  rintro e w1 ⟨rfl, rfl⟩
  go_wp2
  go_ret
  exact ⟨rfl, rfl⟩
 ·have hbe : badE i = 4 := by unfold badE at *; split at hb <;> simp_all
  rw [show rpE i m = 4 by unfold rpE; rw [if_pos hb]]
  rw [hbe] at HB
  clear he hb hbe h
  go_enter Tryz.func26, Tryz.ntmps26
  go_wp2_with fail
  refine HB.mono ?_
  rintro e w1 ⟨rfl, rfl⟩
  go_wp2
  go_ret
  exact ⟨rfl, rfl⟩
theorem put_chain {w3 : World} (h : RsAt w rk B r q tv kv nv x lk ln) (hrk : ∀ k, rk k → k < w.heap.size) (hB : B ≤ w.heap.size) (i : Int) (hi0 : 0 ≤ i ∧ i < 728) (zs : List Nat) (hz : zs.length ≤ 116) (hi : isAt x.now i = false)
  (o3 : Only (fun _ => False) w w3) (a1 : Option Addr) (c1 m k n : Nat) (hm : m = zs.length) (hk : k = fi x.now i) (hn : n = ln.length) (fr : Fresh w3 w.heap.size (.slice a1 m c1) zs) :
  ∃ a5 c5 a6 c6 w6 a7 c7 w7 a9 c9 a8 c8 w8, (∀ w', (Instr.slice 95 nv none (some (.int .i64 (k : Nat))) none).run Tryz.prog w' = .ok (.slice a5 k c5) w') ∧
    (∀ w', (Instr.slice 95 nv (some (.int .i64 (k : Nat))) none none).run Tryz.prog w' = .ok (.slice a9 (n - k) c9) w') ∧
    (∀ ty, (Builtin.append_ #[95, 95] ty #[.slice none 0 0, .slice a5 k c5]).run Tryz.prog (w3.alloc (.cells #[.int .i64 i, .int .i64 0, .slice a1 m c1] 103)) = .ok (.slice a6 k c6) w6) ∧
    (∀ ty, (Builtin.append_ #[95, 95] ty #[.slice a6 k c6, .slice (some ⟨w6.heap.size, 0, none⟩) 1 1]).run Tryz.prog (w6.alloc (.cells #[.int .i64 i, .int .i64 0, .slice a1 m c1] 103)) = .ok (.slice a7 (k + 1) c7) w7) ∧
    (∀ ty, (Builtin.append_ #[95, 95] ty #[.slice a7 (k + 1) c7, .slice a9 (n - k) c9]).run Tryz.prog w7 = .ok (.slice a8 (n + 1) c8) w8) ∧
    Only (fun _ => False) (w3.alloc (.cells #[.int .i64 i, .int .i64 0, .slice a1 m c1] 103)) w6 ∧ Only (fun _ => False) w w6 ∧ Only (fun _ => False) w w7 ∧ Only (fun _ => False) w w8 ∧
    RsIs w rk B r q nv { x with now := putL x.now i (0, zs) } (w8.setCell ⟨r, 5, none⟩ (.slice a8 (n + 1) c8)) := by
 have hkl : k ≤ ln.length := by rw [hk, h.nowLen]; exact fi_le _ _
 have hnS := h.nowS
 have hd0 := h.datOut
 have hC : ∀ k, (k = r ∨ rk k) → k < w.heap.size := fun k e => e.elim (fun e => by rw [e]; exact h.lt) (hrk k)
 obtain ⟨a5, c5, s5, src5, ob5⟩ := h.now.to k hkl
 obtain ⟨a9, c9, s9, src9, ob9⟩ := h.now.from k hkl
 rw [← hn] at s9 src9
 obtain ⟨w4, hw4⟩ : ∃ q, q = w3.alloc (.cells #[.int .i64 i, .int .i64 0, .slice a1 m c1] 103) := ⟨_, rfl⟩
 have o34 : Only (fun _ => False) w3 w4 := by rw [hw4]; exact (Only.refl _ w3).alloc _
 have o4 := o3.trans o34 (fun _ _ e => e)
 have hs4 := o4.size
 have hs3 := o3.size
 obtain ⟨a6, c6, w6, hr6, hp6, ho6, hb6⟩ := (PgsAt.nil w4 B (fun k => (k = r ∨ rk k) ∨ (Value.slice none 0 0).ownBlock = some k)).app (C := fun k => k = r ∨ rk k) (fun k e => by have := hC k e; omega) (by omega) (.slice a5 k c5) (ln.take k)
  (src5.frame o4 (fun _ _ e => e)) (fun y hy => ⟨(hd0 y (List.mem_of_mem_take hy)).1.frame o4, fun b e => ⟨by have := ((hd0 y (List.mem_of_mem_take hy)).2 b e).1; omega, fun e' => by
   rcases e' with e' | e'
   ·exact ((hd0 y (List.mem_of_mem_take hy)).2 b e).2 e'
   ·cases e'⟩⟩) (by simp; omega)
 have tl : (ln.take k).length = k := by simp; omega
 simp only [List.length_nil, Nat.zero_add, tl, List.nil_append] at hr6 hp6 hb6
 have o46 : Only (fun _ => False) w4 w6 := ho6.mono (fun b _ e => by cases e)
 have o6 : Only (fun _ => False) w w6 := o4.trans o46 (fun _ _ e => e)
 have hs6 := o46.size
 have v6 : ∀ b, (Value.slice a6 k c6).ownBlock = some b → w4.heap.size ≤ b := fun b e => by
  rcases hb6 b e with e' | e'
  ·cases e'
  ·exact e'
 obtain ⟨wL, hwL⟩ : ∃ q, q = w6.alloc (.cells #[.int .i64 i, .int .i64 0, .slice a1 m c1] 103) := ⟨_, rfl⟩
 have o6L : Only (fun _ => False) w6 wL := by rw [hwL]; exact (Only.refl _ w6).alloc _
 have oL := o6.trans o6L (fun _ _ e => e)
 have hsL := o6L.size
 have h34 := o34.size
 have frL : Fresh wL w.heap.size (.slice a1 m c1) zs := fr.frame ((o34.trans o46 (fun _ _ e => e)).trans o6L (fun _ _ e => e))
 have frb : ∀ b, (Value.slice a1 m c1).ownBlock = some b → w.heap.size ≤ b ∧ b < w3.heap.size := fun b e => fr.1.lt b e
 have hp6L : PgsAt wL B (fun j => (j = r ∨ rk j) ∨ (Value.slice a6 k c6).ownBlock = some j) (.slice a6 k c6) (ln.take k) := hp6.frame o6L (fun _ _ e => e) (fun _ _ e => e.elim) (fun _ _ e => e)
 obtain ⟨a7, c7, w7, hr7, hp7, ho7, hb7⟩ := hp6L.app (C := fun k => k = r ∨ rk k) (fun k e => by have := hC k e; omega) (by omega) (.slice (some ⟨w6.heap.size, 0, none⟩) 1 1) [⟨i, 0, zs, .slice a1 m c1⟩]
  (.inr ⟨_, 1, rfl, by rw [hwL]; exact World.news_of_block (heap_alloc_new w6 _)⟩) (fun y hy => by
   obtain rfl : y = ⟨i, 0, zs, .slice a1 m c1⟩ := by simpa using hy
   refine ⟨frL.bytes, fun b e => ?_⟩
   have := frb b e
   refine ⟨by omega, fun e' => ?_⟩
   rcases e' with e' | e'
   ·have := hC b e'; omega
   ·have := v6 b e'; omega) (by simp only [tl, List.length_cons, List.length_nil]; omega)
 simp only [tl, List.length_cons, List.length_nil, Nat.zero_add] at hr7 hp7 hb7
 have v7 : ∀ b, (Value.slice a7 (k + 1) c7).ownBlock = some b → w4.heap.size ≤ b := fun b e => by
  rcases hb7 b e with e' | e'
  ·exact v6 b e'
  ·omega
 have o7 : Only (fun _ => False) w w7 := oL.trans ho7 (fun b hb e => by have := v6 b e; omega)
 have hs7 := ho7.size
 obtain ⟨a8, c8, w8, hr8, hp8, ho8, hb8⟩ := hp7.app (C := fun k => k = r ∨ rk k) (fun k e => by have := hC k e; omega) (by omega) (.slice a9 (n - k) c9) (ln.drop k)
  (src9.frame o7 (fun _ _ e => e)) (fun y hy => ⟨(hd0 y (List.mem_of_mem_drop hy)).1.frame o7, fun b e => ⟨by have := ((hd0 y (List.mem_of_mem_drop hy)).2 b e).1; omega, fun e' => by
   rcases e' with e' | e'
   ·exact ((hd0 y (List.mem_of_mem_drop hy)).2 b e).2 e'
   ·have := v7 b e'; have := ((hd0 y (List.mem_of_mem_drop hy)).2 b e).1; omega⟩⟩) (by simp; omega)
 have tl2 : (ln.take k ++ ([⟨i, 0, zs, .slice a1 m c1⟩] : List RPg)).length = k + 1 := by simp; omega
 have dl : (ln.drop k).length = n - k := by simp; omega
 have en : k + 1 + (n - k) = n + 1 := by omega
 simp only [tl2, dl, en] at hr8 hp8 hb8
 have o8 : Only (fun _ => False) w w8 := o7.trans ho8 (fun b hb e => by have := v7 b e; omega)
 have v8 : ∀ b, (Value.slice a8 (n + 1) c8).ownBlock = some b → w.heap.size ≤ b := fun b e => by
  rcases hb8 b e with e' | e'
  ·have := v7 b e'; omega
  ·omega
 have hsn : (ln.take k ++ ([⟨i, 0, zs, .slice a1 m c1⟩] : List RPg) ++ ln.drop k).map RPg.p = putL x.now i (0, zs) := by
  rw [put_not h.nowR hi, ← hk, List.map_append, List.map_append, List.map_take, List.map_drop, h.nowE]
  rfl
 have hsub : ∀ p ∈ putL x.now i (0, zs), p ∈ x.now ∨ p = (i, 0, zs) := fun p hp => by
  rw [put_not h.nowR hi] at hp
  simp only [List.mem_append, List.mem_singleton] at hp
  rcases hp with (hp | hp) | hp
  ·exact .inl (List.mem_of_mem_take hp)
  ·exact .inr hp
  ·exact .inl (List.mem_of_mem_drop hp)
 obtain ⟨q1, q2⟩ := h.setNow hrk (o8.mono (fun _ _ e => e.elim)) (.slice a8 (n + 1) c8) _ (putL x.now i (0, zs)) hp8 (fun b e => .inr (v8 b e)) hsn (h.nowR.put i _) (fun p hp => by
  rcases hsub p hp with hp | rfl
  ·exact h.wf.now p hp
  ·exact ⟨hi0, .inl rfl, hz⟩)
 rw [hw4] at hr6 o46
 rw [hwL] at hr7
 exact ⟨a5, c5, a6, c6, w6, a7, c7, w7, a9, c9, a8, c8, w8, s5, s9, hr6, hr7, hr8, o46, o6, o7, o8, _, _, _, _, _, q1, q2, fun b e => .inr (v8 b e)⟩
set_option maxRecDepth 100000 in
set_option maxHeartbeats 4000000 in
theorem rput4_not (h : RsAt w rk B r q tv kv nv x lk ln) (hrk : ∀ k, rk k → k < w.heap.size) (hB : B ≤ w.heap.size) (i : Int) (hi0 : 0 ≤ i ∧ i < 728) (v : Value) (zs : List Nat) (hv : BytesAt w v zs) (hz : zs.length ≤ 116) (hi : isAt x.now i = false) :
  Calls Tryz.prog 26 #[.pointer (some ⟨r, 0, none⟩), .int .i64 i, v] w fun e w' => e = .returned (.int .i64 0) ∧ Hid (RsIs w rk B r q nv { x with now := putL x.now i (0, zs) } w') := by
 have HB := rbad_any r i w h.c6
 rw [show badE i = 0 from if_pos hi0] at HB
 have HF : Hid (Calls Tryz.prog 53 _ _ _) := find_any h i
 rw [hi] at HF
 obtain ⟨av, cv, hvf, hvr⟩ := hv.form
 have HV : Hid (BytesAt w v zs) := hv
 obtain ⟨m, hm⟩ : ∃ m, m = zs.length := ⟨_, rfl⟩
 have HM : Hid (m = zs.length) := hm
 have HZ : Hid (zs.length ≤ 116) := hz
 rw [← hm] at hvf hz
 subst hvf
 have hm2 : ¬ (116 : Int) < (m : Int) := by omega
 have hem := empty23
 have c5 := h.c5
 obtain ⟨k, hk⟩ : ∃ k, k = fi x.now i := ⟨_, rfl⟩
 obtain ⟨n, hn⟩ : ∃ n, n = ln.length := ⟨_, rfl⟩
 obtain ⟨an, cn, hnv, hcn⟩ := h.now.form
 rw [← hk] at HF
 rw [← hn] at hnv
 have hlt := h.lt
 have f5 := h.fz 5 (by omega)
 have HCH : Hid (∀ (w3 : World) (a1 : Option Addr) (c1 : Nat), Only (fun _ => False) w w3 → Fresh w3 w.heap.size (.slice a1 m c1) zs → _) := fun w3 a1 c1 o3 fr => put_chain h hrk hB i hi0 zs HZ.out hi o3 a1 c1 m k n HM.out hk hn fr
 clear hvr hm hv h hrk hk hn hcn
 subst hnv
 go_enter Tryz.func26, Tryz.ntmps26
 go_wp2_with fail
 refine HB.mono ?_
 rintro e w1 ⟨rfl, rfl⟩
 go_wp2_with fail
 refine (show Calls Tryz.prog 53 _ _ _ from HF.out).mono ?_
 rintro e w2 ⟨rfl, ho⟩
 obtain ⟨i0, hi0', hz0, hz1, hz2⟩ := info_parts info5
 obtain ⟨a1, c1, w3, hr1, own1, o3⟩ := app_copy 37 5 i0 _ 1 Tryz.underlying37 hi0' hz0 hz1 hz2 rfl rfl w2 (.slice av m cv) m _ (by have := (HV.out.frame ho).1; rw [← HM.out] at this; exact this) (fun j => rfl) (by omega)
 have o13 := ho.trans o3 (fun _ _ e => e)
 have fr1 : Fresh w3 w1.heap.size (.slice a1 m c1) zs := by
  have e1 : w3.ownsRow w2.heap.size 5 1 (.slice a1 m c1) zs.length (BL zs) := by rw [BL_getD, ← HM.out]; exact own1
  refine ⟨⟨e1.1, ?_⟩, HV.out.2⟩
  rcases e1.2 with e | ⟨g, cap, cur, hv, hb, rest⟩
  ·exact .inl e
  ·exact .inr ⟨g, cap, cur, hv, by have := ho.size; omega, rest⟩
 obtain ⟨a5, c5', a6, c6, w6, a7, c7, w7, a9, c9, a8, c8, w8, s5, s9, hr6, hr7, hr8, o46, o6, o7, o8, hz⟩ := HCH.out w3 a1 c1 o13 fr1
 have HR1 : Hid _ := hr1
 have HR6 : Hid _ := hr6
 have HR7 : Hid _ := hr7
 have HR8 : Hid _ := hr8
 have HFIN : Hid (RsIs w1 rk B r q (.slice an n cn) { x with now := putL x.now i (0, zs) } (w8.setCell ⟨r, 5, none⟩ (.slice a8 (n + 1) c8))) := hz
 obtain ⟨w4, hw4⟩ : ∃ q, q = w3.alloc (.cells #[.int .i64 i, .int .i64 0, .slice a1 m c1] 103) := ⟨_, rfl⟩
 have z3 := o13.cell c5 (fun e => e)
 have z4 : (w3.alloc (.cells #[.int .i64 i, .int .i64 0, .slice a1 m c1] 103)).cell? ⟨r, 5, none⟩ = some (.slice an n cn) := (o13.alloc _).cell c5 (fun e => e)
 have z6 := o6.cell c5 (fun e => e)
 have z7 := o7.cell c5 (fun e => e)
 have z8 := o8.cell c5 (fun e => e)
 have zf : w8.frozen? ⟨r, 5, none⟩ = false := (o8.frozen hlt (fun e => e)).trans f5
 have hpb : (w3.alloc (.cells #[.int .i64 i, .int .i64 0, .slice a1 m c1] 103)).heap[w3.heap.size]? = some (.cells #[.int .i64 i, .int .i64 0, .slice a1 m c1] 103 (0, 0)) := heap_alloc_new w3 _
 have hpb6 : w6.heap[w3.heap.size]? = some (.cells #[.int .i64 i, .int .i64 0, .slice a1 m c1] 103 (0, 0)) := by rw [o46.block _ (by simp) (fun e => e)]; exact hpb
 have p0 : w6.cell? ⟨w3.heap.size, 0, none⟩ = some (.int .i64 i) := by rw [cell_of_row _ _ _ _ _ _ hpb6]; rfl
 have p1 : w6.cell? ⟨w3.heap.size, 1, none⟩ = some (.int .i64 0) := by rw [cell_of_row _ _ _ _ _ _ hpb6]; rfl
 have p2 : w6.cell? ⟨w3.heap.size, 2, none⟩ = some (.slice a1 m c1) := by rw [cell_of_row _ _ _ _ _ _ hpb6]; rfl
 clear hr1 hr6 hr7 hr8 hz own1 o3 o13 fr1 HCH HV HB HF o46 o6 o7 o8 hpb hpb6 ho hw4 hi0' hz0 hz1 hz2 c5
 go_wp2_with (first
  | (at_builtin; refine wpList_append_run rfl _ _ 37 rfl (.slice (some ⟨w2.heap.size, 0, none⟩) 0 0) (.slice av m cv) (.slice a1 m c1) rfl rfl HR1.out ?_)
  | (at_builtin; refine wpList_append_run rfl _ _ 95 rfl (.slice none 0 0) (.slice a5 k c5') (.slice a6 k c6) rfl rfl HR6.out ?_)
  | (at_builtin; refine wpList_append_run rfl _ _ 95 rfl (.slice a6 k c6) (.slice (some ⟨w6.heap.size, 0, none⟩) 1 1) (.slice a7 (k + 1) c7) rfl rfl HR7.out ?_)
  | (at_builtin; refine wpList_append_run rfl _ _ 95 rfl (.slice a7 (k + 1) c7) (.slice a9 (n - k) c9) (.slice a8 (n + 1) c8) rfl rfl HR8.out ?_))
 go_ret
 exact ⟨rfl, HFIN⟩
end
end Go.Proofs.YtlcglapcmdpkfaaGreat
