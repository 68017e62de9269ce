import Derived.Test.YtlcglapcmdpkfaaGreatG6
namespace Go.Proofs.YtlcglapcmdpkfaaGreat
open Go.RowKit
set_option linter.unusedSimpArgs false
set_option linter.unusedVariables false
theorem own_set {w : World} {B e size n g c : Nat} {xs : List Value} (h : w.ownsRow B e size (.slice (some ⟨g, 0, none⟩) n c) n xs) (j : Nat) (hj : j < n * size) (u : Value) : (w.setCell ⟨g, j, none⟩ u).ownsRow B e size (.slice (some ⟨g, 0, none⟩) n c) n (xs.set j u) := by
 refine ⟨by rw [List.length_set]; exact h.1, ?_⟩
 rcases h.2 with ⟨hv, _⟩ | ⟨g', cap, cur, hv, hb, hg, hc, hcm, hcs, ht⟩
 ·cases hv
 ·simp only [Value.slice.injEq, Option.some.injEq, Addr.mk.injEq, and_true, true_and] at hv
  obtain ⟨rfl, rfl⟩ := hv
  refine .inr ⟨g, c, _, rfl, hb, heap_setCell_same w g j _ _ u hg, hc, hcm, ?_, ?_⟩
  ·simpa using hcs
  ·rw [← ht]
   apply List.ext_getElem?
   intro q
   simp only [List.getElem?_take, List.getElem?_set, Array.getElem?_toList, Array.getElem?_set, Array.getElem?_setIfInBounds, List.length_take, Array.length_toList]
   have hm : n * size ≤ c * size := Nat.mul_le_mul_right _ hc
   by_cases e : j = q
   ·subst e
    simp only [hj, if_true, hcs]
    rw [if_pos (by omega), if_pos (by omega)]
   ·simp [e]
theorem setCell_self (W : World) (a : Addr) (v : Value) (hc : W.cell? a = some v) (j : Nat) : (W.setCell a v).heap[j]? = W.heap[j]? := by
 by_cases hj : j = a.block
 ·subst hj
  have hs : a.spot = none := World.cell?_spot hc
  obtain ⟨b, o, sp⟩ := a
  simp only at hs
  subst hs
  simp only [World.cell?] at hc
  cases hb : W.heap[b]? with
  | none => rw [hb] at hc; cases hc
  | some ob =>
    cases ob with
    | cells cs t fr =>
      rw [hb] at hc
      simp only [World.setCell, Array.getElem?_modify, if_true, hb, Option.map_some, Option.isSome_none, Bool.false_eq_true, if_false]
      have hc2 : cs[o]? = some v := by simpa using hc
      congr 2
      apply Array.ext_getElem?
      intro q
      rw [Array.getElem?_setIfInBounds]
      split
      ·rename_i e
       subst e
       rw [hc2]
       have := (Array.getElem?_eq_some_iff.1 hc2).1
       simp [this]
      ·rfl
    | map es cl => simp [World.setCell, Array.getElem?_modify, hb]
    | _ => simp [World.setCell, Array.getElem?_modify, hb]
 ·exact heap_setCell_other W a j v hj
theorem rpgL_set : ∀ (l : List RPg) (k : Nat) (y : RPg), k < l.length → (((rpgL l).set (k * 3) (.int .i64 y.i)).set (k * 3 + 1) (.int .i64 (y.at_ : Nat))).set (k * 3 + 2) y.v = rpgL (l.set k y)
 | [], _, _, h => by simp at h
 | x :: r, 0, y, _ => by simp [rpgL, RPg.cells]
 | x :: r, k + 1, y, h => by
   have ih := rpgL_set r k y (by simpa using h)
   have e : rpgL (x :: r) = .int .i64 x.i :: .int .i64 (x.at_ : Nat) :: x.v :: rpgL r := by simp [rpgL, RPg.cells]
   have e2 : rpgL ((x :: r).set (k + 1) y) = .int .i64 x.i :: .int .i64 (x.at_ : Nat) :: x.v :: rpgL (r.set k y) := by simp [rpgL, RPg.cells]
   rw [e, e2, ← ih]
   rw [show (k + 1) * 3 = k * 3 + 1 + 1 + 1 by omega, show k * 3 + 1 + 1 + 1 + 1 = k * 3 + 1 + 1 + 1 + 1 from rfl, show k * 3 + 1 + 1 + 1 + 2 = k * 3 + 2 + 1 + 1 + 1 by omega]
   simp only [List.set_cons_succ]
theorem PgsAt.set {w : World} {B : Nat} {C : Nat → Prop} {g c n : Nat} {l : List RPg} (h : PgsAt w B (fun j => C j ∨ (Value.slice (some ⟨g, 0, none⟩) n c).ownBlock = some j) (.slice (some ⟨g, 0, none⟩) n c) l) (hn : n = l.length) (k : Nat) (hk : k < l.length) (y : RPg)
  (hd : BytesAt w y.v y.b ∧ ∀ b, y.v.ownBlock = some b → b < w.heap.size ∧ ¬ (C b ∨ (Value.slice (some ⟨g, 0, none⟩) n c).ownBlock = some b)) :
  PgsAt (((w.setCell ⟨g, k * 3, none⟩ (.int .i64 y.i)).setCell ⟨g, k * 3 + 1, none⟩ (.int .i64 (y.at_ : Nat))).setCell ⟨g, k * 3 + 2, none⟩ y.v) B (fun j => C j ∨ (Value.slice (some ⟨g, 0, none⟩) n c).ownBlock = some j) (.slice (some ⟨g, 0, none⟩) n c) (l.set k y) ∧
  Only (fun b => b = g) w (((w.setCell ⟨g, k * 3, none⟩ (.int .i64 y.i)).setCell ⟨g, k * 3 + 1, none⟩ (.int .i64 (y.at_ : Nat))).setCell ⟨g, k * 3 + 2, none⟩ y.v) := by
 subst hn
 have oo : Only (fun b => b = g) w (((w.setCell ⟨g, k * 3, none⟩ (.int .i64 y.i)).setCell ⟨g, k * 3 + 1, none⟩ (.int .i64 (y.at_ : Nat))).setCell ⟨g, k * 3 + 2, none⟩ y.v) :=
  (((Only.refl (fun b => b = g) w).setCell ⟨g, k * 3, none⟩ _ (fun _ => rfl)).setCell ⟨g, k * 3 + 1, none⟩ _ (fun _ => rfl)).setCell ⟨g, k * 3 + 2, none⟩ _ (fun _ => rfl)
 have keep : ∀ z : RPg, (BytesAt w z.v z.b ∧ ∀ b, z.v.ownBlock = some b → b < w.heap.size ∧ ¬ (C b ∨ (Value.slice (some ⟨g, 0, none⟩) l.length c).ownBlock = some b)) → BytesAt (((w.setCell ⟨g, k * 3, none⟩ (.int .i64 y.i)).setCell ⟨g, k * 3 + 1, none⟩ (.int .i64 (y.at_ : Nat))).setCell ⟨g, k * 3 + 2, none⟩ y.v) z.v z.b ∧ ∀ b, z.v.ownBlock = some b → b < (((w.setCell ⟨g, k * 3, none⟩ (.int .i64 y.i)).setCell ⟨g, k * 3 + 1, none⟩ (.int .i64 (y.at_ : Nat))).setCell ⟨g, k * 3 + 2, none⟩ y.v).heap.size ∧ ¬ (C b ∨ (Value.slice (some ⟨g, 0, none⟩) l.length c).ownBlock = some b) := fun z hz =>
  ⟨hz.1.keep oo (fun b e e' => (hz.2 b e).2 (.inr (by rw [e']; rfl))), fun b e => ⟨Nat.lt_of_lt_of_le (hz.2 b e).1 oo.size, (hz.2 b e).2⟩⟩
 refine ⟨⟨?_, fun z hz => ?_⟩, oo⟩
 ·have h1 := own_set h.own (k * 3) (by omega) (.int .i64 y.i)
  have h2 := own_set h1 (k * 3 + 1) (by omega) (.int .i64 (y.at_ : Nat))
  have h3 := own_set h2 (k * 3 + 2) (by omega) y.v
  rw [rpgL_set l k y hk] at h3
  rw [List.length_set]
  exact h3
 ·rcases List.mem_or_eq_of_mem_set hz with hz | rfl
  ·exact keep z (h.dat z hz)
  ·exact keep z hd
section
variable {w : World} {rk : Nat → Prop} {B r q : Nat} {tv kv nv : Value} {x : SS} {lk ln : List RPg}
set_option maxRecDepth 100000 in
set_option maxHeartbeats 4000000 in
theorem rput4_is (h : RsAt w rk B r q tv kv nv x lk ln) (hrk : ∀ k, rk k → k < w.heap.size) (hB : B ≤ w.heap.size) (i : Int) (hi0 : 0 ≤ i ∧ i < 728) (v : Value) (zs : List Nat) (hv : BytesAt w v zs) (hz : zs.length ≤ 116) (hi : isAt x.now i = true) :
  Calls Tryz.prog 26 #[.pointer (some ⟨r, 0, none⟩), .int .i64 i, v] w fun e w' => e = .returned (.int .i64 0) ∧ Hid (RsIs w rk B r q nv { x with now := putL x.now i (0, zs) } w') := by
 have HB := rbad_any r i w h.c6
 rw [show badE i = 0 from if_pos hi0] at HB
 have HF : Hid (Calls Tryz.prog 53 _ _ _) := find_any h i
 rw [hi] at HF
 obtain ⟨av, cv, hvf, hvr⟩ := hv.form
 have HV : Hid (BytesAt w v zs) := hv
 obtain ⟨m, hm⟩ : ∃ m, m = zs.length := ⟨_, rfl⟩
 have HM : Hid (m = zs.length) := hm
 have HZ : Hid (zs.length ≤ 116) := hz
 rw [← hm] at hvf hz
 subst hvf
 have hm2 : ¬ (116 : Int) < (m : Int) := by omega
 have hem := empty23
 have c5 := h.c5
 obtain ⟨k, hk⟩ : ∃ k, k = fi x.now i := ⟨_, rfl⟩
 obtain ⟨n, hn⟩ : ∃ n, n = ln.length := ⟨_, rfl⟩
 have hkx : k < x.now.length := by
  unfold isAt at hi
  rw [← hk] at hi
  rcases Nat.lt_or_ge k x.now.length with h1 | h1
  ·exact h1
  ·rw [List.getElem?_eq_none h1] at hi; cases hi
 have hkl : k < ln.length := by have := h.nowLen; omega
 obtain ⟨an, cn, hnv, hcn⟩ := h.now.form
 rw [← hk] at HF
 rw [← hn] at hnv
 have hlt := h.lt
 have hnow := h.now
 rw [hnv] at hnow
 obtain ⟨g, hga, hcells, hfz⟩ := hnow.get k hkl
 have kk0 : (0 : Int) ≤ (k : Int) := by omega
 have kk1 : (k : Int) < (n : Int) := by omega
 have HH : Hid (RsAt w rk B r q tv kv nv x lk ln) := h
 have HRK : Hid (∀ k, rk k → k < w.heap.size) := hrk
 have HNN : Hid (n = ln.length) := hn
 have HI : Hid (isAt x.now i = true) := hi
 have HK : Hid (k = fi x.now i) := hk
 clear hvr hm hv h hrk hk hn hcn hnow hkx
 subst hnv hga
 go_enter Tryz.func26, Tryz.ntmps26
 go_wp2_with fail
 refine HB.mono ?_
 rintro e w1 ⟨rfl, rfl⟩
 go_wp2_with fail
 refine (show Calls Tryz.prog 53 _ _ _ from HF.out).mono ?_
 rintro e w2 ⟨rfl, ho⟩
 obtain ⟨i0, hi0', hz0, hz1, hz2⟩ := info_parts info5
 obtain ⟨a1, c1, w3, hr1, own1, o3⟩ := app_copy 37 5 i0 _ 1 Tryz.underlying37 hi0' hz0 hz1 hz2 rfl rfl w2 (.slice av m cv) m _ (by have := (HV.out.frame ho).1; rw [← HM.out] at this; exact this) (fun j => rfl) (by omega)
 have o13 := ho.trans o3 (fun _ _ e => e)
 have HR1 : Hid _ := hr1
 obtain ⟨w4, hw4⟩ : ∃ q, q = w3.alloc (.cells #[.int .i64 i, .int .i64 0, .slice a1 m c1] 103) := ⟨_, rfl⟩
 have o14 : Only (fun _ => False) w1 w4 := by rw [hw4]; exact o13.alloc _
 have z4 : w4.cell? ⟨r, 5, none⟩ = some (.slice (some ⟨g, 0, none⟩) n cn) := o14.cell c5 (fun e => e)
 have hpb : w4.heap[w3.heap.size]? = some (.cells #[.int .i64 i, .int .i64 0, .slice a1 m c1] 103 (0, 0)) := by rw [hw4]; exact heap_alloc_new w3 _
 have p0 : w4.cell? ⟨w3.heap.size, 0, none⟩ = some (.int .i64 i) := by rw [cell_of_row _ _ _ _ _ _ hpb]; rfl
 have p1 : w4.cell? ⟨w3.heap.size, 1, none⟩ = some (.int .i64 0) := by rw [cell_of_row _ _ _ _ _ _ hpb]; rfl
 have p2 : w4.cell? ⟨w3.heap.size, 2, none⟩ = some (.slice a1 m c1) := by rw [cell_of_row _ _ _ _ _ _ hpb]; rfl
 obtain ⟨u0, _, g0⟩ := hcells 0 (by omega)
 obtain ⟨u1, _, g1⟩ := hcells 1 (by omega)
 obtain ⟨u2, _, g2⟩ := hcells 2 (by omega)
 have y0 := o14.cell g0 (fun e => e)
 have y1 := o14.cell g1 (fun e => e)
 have y2 := o14.cell g2 (fun e => e)
 have gl : g < w1.heap.size := World.block_lt_of_cell? w1 _ g0
 have yf0 : w4.frozen? ⟨g, k * 3, none⟩ = false := (o14.frozen gl (fun e => e)).trans (hfz 0 (by omega))
 have yf1 : w4.frozen? ⟨g, k * 3 + 1, none⟩ = false := (o14.frozen gl (fun e => e)).trans (hfz 1 (by omega))
 have yf2 : w4.frozen? ⟨g, k * 3 + 2, none⟩ = false := (o14.frozen gl (fun e => e)).trans (hfz 2 (by omega))
 rw [Nat.add_zero] at y0
 have HFIN : Hid (RsIs w1 rk B r q (.slice (some ⟨g, 0, none⟩) n cn) { x with now := putL x.now i (0, zs) } (((w4.setCell ⟨g, k * 3, none⟩ (.int .i64 i)).setCell ⟨g, k * 3 + 1, none⟩ (.int .i64 0)).setCell ⟨g, k * 3 + 2, none⟩ (.slice a1 m c1)).drew) := by
  have hh := HH.out
  have fr1 : Fresh w3 w2.heap.size (.slice a1 m c1) zs := ⟨by rw [BL_getD, ← HM.out]; exact own1, HV.out.2⟩
  have fr4 : Fresh w4 w2.heap.size (.slice a1 m c1) zs := fr1.frame (by rw [hw4]; exact (Only.refl _ w3).alloc _)
  have hs2 := ho.size
  have hp4 : PgsAt w4 B (fun j => muR rk r (.slice (some ⟨g, 0, none⟩) n cn) j ∨ (Value.slice (some ⟨g, 0, none⟩) n cn).ownBlock = some j) (.slice (some ⟨g, 0, none⟩) n cn) ln := hh.now.frame o14 (fun _ _ e => e) (fun _ _ e => e.elim) (fun k _ e => by
   rcases e with e | e
   ·exact e
   ·exact .inr (.inl e))
  have hC : ∀ j, (j = r ∨ rk j) → j < w1.heap.size := fun k e => e.elim (fun e => by rw [e]; exact hlt) (HRK.out k)
  obtain ⟨s1, s2⟩ := hp4.set HNN.out k hkl ⟨i, 0, zs, .slice a1 m c1⟩ ⟨fr4.bytes, fun b e => ⟨(fr4.1.lt b e).2, fun e' => by
   have h9 := (fr4.1.lt b e).1
   rcases e' with (e' | e' | e') | e'
   ·have := hC b (.inl e'); omega
   ·have := (hh.now.lt b e').2; omega
   ·have := hC b (.inr e'); omega
   ·have := (hh.now.lt b e').2; omega⟩⟩
  have oo : Only (fun b => (Value.slice (some ⟨g, 0, none⟩) n cn).ownBlock = some b) w1 (((w4.setCell ⟨g, k * 3, none⟩ (.int .i64 i)).setCell ⟨g, k * 3 + 1, none⟩ (.int .i64 0)).setCell ⟨g, k * 3 + 2, none⟩ (.slice a1 m c1)) := (o14.mono (fun _ _ e => e.elim)).trans s2 (fun b _ e => by rw [e]; rfl)
  obtain ⟨q1, q2⟩ := hh.setNow HRK.out oo (.slice (some ⟨g, 0, none⟩) n cn) (ln.set k ⟨i, 0, zs, .slice a1 m c1⟩) (putL x.now i (0, zs)) (s1.av (fun j _ e => by
   rcases e with (e | e) | e
   ·exact .inl (.inl e)
   ·exact .inl (.inr (.inr e))
   ·exact .inr e)) (fun b e => .inl e) (by
    rw [put_at hh.nowR HI.out, ← HK.out, List.map_set, hh.nowE]; rfl) (hh.nowR.put i _) (fun p hp => by
    rw [put_at hh.nowR HI.out] at hp
    rcases List.mem_or_eq_of_mem_set hp with hp | rfl
    ·exact hh.wf.now p hp
    ·exact ⟨hi0, .inl rfl, HZ.out⟩)
  have nr : ¬ (Value.slice (some ⟨g, 0, none⟩) n cn).ownBlock = some r := fun e => (hh.k2 r e).1 rfl
  have hcell : (((w4.setCell ⟨g, k * 3, none⟩ (.int .i64 i)).setCell ⟨g, k * 3 + 1, none⟩ (.int .i64 0)).setCell ⟨g, k * 3 + 2, none⟩ (.slice a1 m c1)).cell? ⟨r, 5, none⟩ = some (.slice (some ⟨g, 0, none⟩) n cn) := oo.cell c5 nr
  have same : ∀ (W : World) (a : Addr) (v : Value), W.cell? a = some v → Only (fun _ => False) (W.setCell a v) W := fun W a v hc => by
   refine ⟨rfl, rfl, rfl, by simp [World.setCell], fun j hj _ => ?_⟩
   exact (setCell_self W a v hc j).symm
  have od : Only (fun _ => False) ((((w4.setCell ⟨g, k * 3, none⟩ (.int .i64 i)).setCell ⟨g, k * 3 + 1, none⟩ (.int .i64 0)).setCell ⟨g, k * 3 + 2, none⟩ (.slice a1 m c1)).setCell ⟨r, 5, none⟩ (.slice (some ⟨g, 0, none⟩) n cn)) (((w4.setCell ⟨g, k * 3, none⟩ (.int .i64 i)).setCell ⟨g, k * 3 + 1, none⟩ (.int .i64 0)).setCell ⟨g, k * 3 + 2, none⟩ (.slice a1 m c1)).drew := (same _ _ _ hcell).drew
  exact ⟨_, _, _, _, _, q1.still od, q2.trans od (fun _ _ e => e.elim), fun b e => .inl e⟩
 clear HB HF hr1
 subst hw4
 go_wp2_with (at_builtin; refine wpList_append_run rfl _ _ 37 rfl (.slice (some ⟨w2.heap.size, 0, none⟩) 0 0) (.slice av m cv) (.slice a1 m c1) rfl rfl HR1.out ?_)
 go_region
 go_wp2
 go_ret
 exact ⟨rfl, HFIN⟩
end
end Go.Proofs.YtlcglapcmdpkfaaGreat
