import Derived.Test.YtlcglapcmdpkfaaGreatG2
namespace Go.Proofs.YtlcglapcmdpkfaaGreat
open Go.RowKit
set_option linter.unusedSimpArgs false
set_option linter.unusedVariables false
structure CpI (w wr : World) (l : List RPg) (k : Nat) (u : Value) (ys : List RPg) : Prop where
 pg : PgsAt wr w.heap.size (fun j => j < w.heap.size ∨ u.ownBlock = some j) u ys
 eq : ys.map RPg.p = (l.take k).map RPg.p
 ho : Only (fun _ => False) w wr
theorem CpI.len {w wr : World} {l : List RPg} {k : Nat} {u : Value} {ys : List RPg} (h : CpI w wr l k u ys) (hk : k ≤ l.length) : ys.length = k := by
 have := congrArg List.length h.eq
 simpa [Nat.min_eq_left hk] using this
theorem CpI.step {w wr : World} {l : List RPg} {k : Nat} {u : Value} {ys : List RPg} (h : CpI w wr l k u ys) (hk : k < l.length) (hl : l.length ≤ 1000) (hv : BytesAt wr (l[k]).v (l[k]).b) :
  ∃ a1 c1 w2 a3 c3 w3 ys', (∀ ty, (Builtin.append_ #[37, 37] ty #[.slice (some ⟨wr.heap.size, 0, none⟩) 0 0, (l[k]).v]).run Tryz.prog (wr.drew.alloc (.cells #[] 5)) = .ok (.slice a1 (l[k]).b.length c1) w2) ∧
    (∀ ty, (Builtin.append_ #[95, 95] ty #[u, .slice (some ⟨w2.heap.size, 0, none⟩) 1 1]).run Tryz.prog (w2.alloc (.cells #[.int .i64 (l[k]).i, .int .i64 ((l[k]).at_ : Nat), .slice a1 (l[k]).b.length c1] 103)) = .ok (.slice a3 (k + 1) c3) w3) ∧
    CpI w w3 l (k + 1) (.slice a3 (k + 1) c3) ys' ∧ Only (fun _ => False) wr w2 := by
 obtain ⟨i0, hi0, hz0, hz1, hz2⟩ := info_parts info5
 have oD : Only (fun _ => False) wr wr.drew := (Only.refl _ wr).drew
 obtain ⟨a1, c1, w2, hr1, own1, o2⟩ := app_copy 37 5 i0 _ 1 Tryz.underlying37 hi0 hz0 hz1 hz2 rfl rfl wr.drew (l[k]).v (l[k]).b.length _ (hv.frame oD).1 (fun j => rfl) hv.2.1
 rw [← BL_getD] at own1
 have hs1 : wr.drew.heap.size = wr.heap.size := rfl
 have o2' : Only (fun _ => False) wr w2 := oD.trans o2 (fun _ _ e => e)
 have hlen := h.len (Nat.le_of_lt hk)
 obtain ⟨wL, hwL⟩ : ∃ q, q = w2.alloc (.cells #[.int .i64 (l[k]).i, .int .i64 ((l[k]).at_ : Nat), .slice a1 (l[k]).b.length c1] 103) := ⟨_, rfl⟩
 have oL : Only (fun _ => False) w2 wL := by rw [hwL]; exact (Only.refl _ w2).alloc _
 have oL' := o2'.trans oL (fun _ _ e => e)
 have hws := h.ho.size
 have hpg : PgsAt wL w.heap.size (fun j => j < w.heap.size ∨ u.ownBlock = some j) u ys := h.pg.frame oL' (fun _ _ e => e) (fun _ _ e => e.elim) (fun _ _ e => e)
 have fr1 : Fresh wL wr.heap.size (.slice a1 (l[k]).b.length c1) (l[k]).b := Fresh.frame ⟨own1, hv.2⟩ oL
 obtain ⟨a3, c3, w3, hr3, hp3, ho3, hb3⟩ := hpg.app (C := fun j => j < w.heap.size) (fun j hj => by have := oL'.size; omega) (by have := oL'.size; omega) (.slice (some ⟨w2.heap.size, 0, none⟩) 1 1) [⟨(l[k]).i, (l[k]).at_, (l[k]).b, .slice a1 (l[k]).b.length c1⟩]
  (.inr ⟨_, 1, rfl, by rw [hwL]; exact World.news_of_block (heap_alloc_new w2 _)⟩)
  (fun y hy => by
   obtain rfl : y = ⟨(l[k]).i, (l[k]).at_, (l[k]).b, .slice a1 (l[k]).b.length c1⟩ := by simpa using hy
   refine ⟨fr1.bytes, fun b hb => ?_⟩
   have := fr1.1.lt b hb
   refine ⟨this.2, fun e => ?_⟩
   rcases e with e | e
   ·omega
   ·have := h.pg.lt b e; omega)
  (by simp only [List.length_cons, List.length_nil]; omega)
 simp only [List.length_cons, List.length_nil, Nat.zero_add, hlen] at hr3 hp3 hb3
 refine ⟨a1, c1, w2, a3, c3, w3, _, hr1, by rw [← hwL]; exact hr3, ⟨hp3, ?_, ?_⟩, o2'⟩
 ·rw [List.map_append, h.eq, List.take_succ_eq_append_getElem hk, List.map_append]
  rfl
 ·exact (h.ho.trans oL' (fun _ _ e => e)).trans ho3 (fun b hb e => by have := h.pg.lt b e; omega)
set_option maxRecDepth 100000 in
set_option maxHeartbeats 2000000 in
theorem copied_any (v : Value) (l : List RPg) (B0 : Nat) (av : Nat → Prop) (w : World) (h : PgsAt w B0 av v l) (hl : l.length ≤ 1000) :
  Calls Tryz.prog 62 #[v] w fun e w' => ∃ a c ys, e = .returned (.slice a l.length c) ∧ Hid (PgsAt w' w.heap.size (fun k => k < w.heap.size ∨ (Value.slice a l.length c).ownBlock = some k) (.slice a l.length c) ys ∧ ys.map RPg.p = l.map RPg.p ∧ Only (fun _ => False) w w') := by
 obtain ⟨a, c, hv, hc⟩ := h.form
 subst hv
 have HH : Hid (PgsAt w B0 av (.slice a l.length c) l) := h
 obtain ⟨n, hn⟩ : ∃ n, n = l.length := ⟨_, rfl⟩
 have HN : Hid (n = l.length) := hn
 rw [← hn]
 rw [← hn] at hc hl
 clear h hn
 have hem := empty23
 go_enter Tryz.func62, Tryz.ntmps62
 go_wp2_with fail
 go_loopw [3, 4] (fun u t wr => ∃ k : Nat, k ≤ n ∧ t = .int .i64 k ∧ Hid (∃ (a : Option Addr) (c : Nat) (ys : List RPg), u = .slice a k c ∧ CpI w wr l k (.slice a k c) ys)) (fun _ t _ => n - (intOf t).toNat)
 case atStart => exact ⟨0, Nat.zero_le _, rfl, none, 0, [], rfl, ⟨PgsAt.nil _ _ _, by simp, Only.refl _ _⟩⟩
 case round =>
  obtain ⟨k, hk, rfl, HI0⟩ := hrel
  obtain ⟨a2, c2, ys, rfl, hI0⟩ := HI0.out
  have HI : Hid (CpI w wr l k (.slice a2 k c2) ys) := hI0
  clear hI0 HI0
  obtain ⟨wq, rfl⟩ : ∃ q, q = wr := ⟨_, rfl⟩
  by_cases hlt : k < n
  ·have hkl : k < l.length := by rw [← HN.out]; exact hlt
   obtain ⟨g, hga, z0, z1, z2⟩ := HH.out.at k hkl
   subst hga
   have hvb : BytesAt wq (l[k]).v (l[k]).b := (HH.out.dat _ (List.getElem_mem hkl)).1.frame HI.out.ho
   obtain ⟨av2, cv2, hvf, hvr⟩ := hvb.form
   clear hvr
   obtain ⟨a1, c1, w2, a3, c3, w3, ys', hr1, hr2, hI, o2⟩ := HI.out.step hkl (by rw [← HN.out]; exact hl) hvb
   have y0 := HI.out.ho.cell z0 (fun e => e)
   have y1 := HI.out.ho.cell z1 (fun e => e)
   have y2 := HI.out.ho.cell z2 (fun e => e)
   obtain ⟨I, hI2⟩ : ∃ q, q = (l[k]).i := ⟨_, rfl⟩
   obtain ⟨A, hA2⟩ : ∃ q, q = (l[k]).at_ := ⟨_, rfl⟩
   obtain ⟨M, hM2⟩ : ∃ q, q = (l[k]).b.length := ⟨_, rfl⟩
   rw [hvf, ← hM2] at y2 hr1
   rw [← hI2] at y0 hr2
   rw [← hA2] at y1 hr2
   rw [← hM2] at hr2
   have oA : Only (fun _ => False) wq (wq.alloc (.cells #[] 5)) := (Only.refl _ wq).alloc _
   have q0 := oA.cell y0 (fun e => e)
   have q1 := oA.cell y1 (fun e => e)
   have q2 := oA.cell y2 (fun e => e)
   have s0 := o2.cell y0 (fun e => e)
   have s1 := o2.cell y1 (fun e => e)
   have s2 := o2.cell y2 (fun e => e)
   have oP : Only (fun _ => False) w2 (w2.alloc (.cells #[.int .i64 I, .int .i64 (A : Nat), .slice a1 M c1] 103)) := (Only.refl _ w2).alloc _
   have HS0 : Hid (wq.cell? ⟨g, k * 3, none⟩ = some (.int .i64 I) ∧ wq.cell? ⟨g, k * 3 + 1, none⟩ = some (.int .i64 (A : Nat)) ∧ wq.cell? ⟨g, k * 3 + 2, none⟩ = some (.slice av2 M cv2)) := ⟨y0, y1, y2⟩
   have HS1 : Hid (_ ∧ _ ∧ _) := ⟨q0, q1, q2⟩
   have HS2 : Hid (w2.cell? ⟨g, k * 3, none⟩ = some (.int .i64 I) ∧ w2.cell? ⟨g, k * 3 + 1, none⟩ = some (.int .i64 (A : Nat)) ∧ w2.cell? ⟨g, k * 3 + 2, none⟩ = some (.slice av2 M cv2)) := ⟨s0, s1, s2⟩
   have HS3 : Hid (_ ∧ _ ∧ _) := ⟨oP.cell s0 (fun e => e), oP.cell s1 (fun e => e), oP.cell s2 (fun e => e)⟩
   have HS4 : Hid (w3.cell? ⟨g, k * 3, none⟩ = some (.int .i64 I) ∧ w3.cell? ⟨g, k * 3 + 1, none⟩ = some (.int .i64 (A : Nat)) ∧ w3.cell? ⟨g, k * 3 + 2, none⟩ = some (.slice av2 M cv2)) := by
    have e3 : ∀ o v, w.cell? ⟨g, o, none⟩ = some v → w3.cell? ⟨g, o, none⟩ = some v := fun o v e => hI.ho.cell e (fun e => e)
    refine ⟨?_, ?_, ?_⟩
    ·rw [hI2]; exact e3 _ _ z0
    ·rw [hA2]; exact e3 _ _ z1
    ·rw [hM2, ← hvf]; exact e3 _ _ z2
   have HR1 : Hid _ := hr1
   have HR2 : Hid _ := hr2
   have HI3 : Hid (CpI w w3 l (k + 1) (.slice a3 (k + 1) c3) ys') := hI
   have i0 : (0 : Int) ≤ (k : Int) := Int.natCast_nonneg _
   have i1 : (k : Int) < (n : Int) := by omega
   clear hr1 hr2 hI o2 oA oP s0 s1 s2 q0 q1 q2 hvb hvf hI2 hA2 hM2 z0 z1 z2 hkl HI
   go_wp2_with fail
   go_region_held3 (fun w' => w'.cell? ⟨g, k * 3, none⟩ = some (.int .i64 I) ∧ w'.cell? ⟨g, k * 3 + 1, none⟩ = some (.int .i64 (A : Nat)) ∧ w'.cell? ⟨g, k * 3 + 2, none⟩ = some (.slice av2 M cv2)) (first | exact HS0.out | exact HS1.out | exact HS2.out | exact HS3.out | exact HS4.out | go_keep) (first | (refine step_append_run (by rfl) _ _ 37 (by rfl) _ _ (.slice a1 M c1) (by rfl) (by rfl) HR1.out ?_) | (refine step_append_run (by rfl) _ _ 95 (by rfl) _ _ (.slice a3 (k + 1) c3) (by rfl) (by rfl) HR2.out ?_) | (refine wp_append_run _ _ 37 (by rfl) _ _ (.slice a1 M c1) (by rfl) (by rfl) (HR1.out _) ?_) | (refine wp_append_run _ _ 95 (by rfl) _ _ (.slice a3 (k + 1) c3) (by rfl) (by rfl) (HR2.out _) ?_))
   all_goals
    go_wp2
    go_roundw
    case rel => exact ⟨k + 1, by omega, by go_num, ⟨a3, c3, ys', rfl, HI3.out⟩⟩
    case measure => simp [intOf]; omega
  ·obtain rfl : k = n := by omega
   have HF : Hid (PgsAt wq w.heap.size (fun j => j < w.heap.size ∨ (Value.slice a2 k c2).ownBlock = some j) (.slice a2 k c2) ys ∧ ys.map RPg.p = l.map RPg.p ∧ Only (fun _ => False) w wq) :=
    ⟨HI.out.pg, by rw [HI.out.eq, List.take_of_length_le (by rw [HN.out]; exact Nat.le_refl _)], HI.out.ho⟩
   clear HI
   go_wp2
   go_ret
   exact ⟨_, _, _, rfl, HF⟩
end Go.Proofs.YtlcglapcmdpkfaaGreat
