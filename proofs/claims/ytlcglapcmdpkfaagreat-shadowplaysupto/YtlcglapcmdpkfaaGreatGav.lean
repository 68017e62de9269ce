/-     -/
import Derived.Test.YtlcglapcmdpkfaaGreatGau
import Derived.Test.YtlcglapcmdpkfaaGreatGaa
import Derived.Test.YtlcglapcmdpkfaaGreatGaq
namespace Go.Proofs.YtlcglapcmdpkfaaGreat
open Go.RowKit
set_option linter.unusedSimpArgs false
set_option linter.unusedVariables false
set_option maxRecDepth 100000
set_option maxHeartbeats 16000000
theorem rpgL_setAt (l : List RPg) (k a : Nat) (hk : k < l.length) : (rpgL l).set (k * 3 + 1) (.int .i64 (a : Nat)) = rpgL (l.set k ⟨(l[k]).i, a, (l[k]).b, (l[k]).v⟩) := by
 rw [← rpgL_set l k ⟨(l[k]).i, a, (l[k]).b, (l[k]).v⟩ hk]
 have h0 := rpgL_get l k hk 0 (by omega)
 have h2 := rpgL_get l k hk 2 (by omega)
 simp only [RPg.cells, List.getElem?_cons_zero, List.getElem?_cons_succ, Nat.add_zero] at h0 h2
 have l0 : k * 3 + 2 < (rpgL l).length := by rw [rpgL_length]; omega
 have e0 : (rpgL l).set (k * 3) (.int .i64 (l[k]).i) = rpgL l := by
  apply List.ext_getElem?
  intro q
  rw [List.getElem?_set]
  split
  ·rename_i e
   subst e
   rw [h0, if_pos (by omega)]
  ·rfl
 simp only
 rw [e0]
 apply List.ext_getElem?
 intro q
 rw [List.getElem?_set (i := k * 3 + 2)]
 split
 ·rename_i e
  subst e
  rw [List.getElem?_set, if_neg (by omega), h2, if_pos (by simpa using l0)]
 ·rfl
section
variable {w : World} {rk : Nat → Prop} {B r q : Nat} {tv kv nv : Value} {x : SS} {lk ln : List RPg}
theorem RsAt.inPlace {w1 : World} (h : RsAt w rk B r q tv kv nv x lk ln) (hrk : ∀ k, rk k → k < w.heap.size) (ho : Only (fun b => nv.ownBlock = some b) w w1) (ln' : List RPg) (l' : Pgs)
  (hp : PgsAt w1 B (fun k => (k = r ∨ rk k) ∨ nv.ownBlock = some k) nv ln') (he : ln'.map RPg.p = l') (hr : Rise l') (hw : ∀ p ∈ l', (0 ≤ p.1 ∧ p.1 < 728) ∧ (p.2.1 = 0 ∨ 2 ≤ p.2.1 ∧ p.2.1 < x.size) ∧ p.2.2.length ≤ 116) :
  RsAt w1 rk B r q tv kv nv { x with now := l' } lk ln' := by
 obtain ⟨q1, q2⟩ := h.setNow hrk ho nv ln' l' hp (fun b e => .inl e) he hr hw
 have nr : ¬ nv.ownBlock = some r := fun e => (h.k2 r e).1 rfl
 have hcell : w1.cell? ⟨r, 5, none⟩ = some nv := ho.cell h.c5 nr
 have od : Only (fun _ => False) (w1.setCell ⟨r, 5, none⟩ nv) w1 := ⟨rfl, rfl, rfl, by simp [World.setCell], fun j hj _ => (setCell_self w1 _ _ hcell j).symm⟩
 exact q1.still od
theorem RsAt.layAt (h : RsAt w rk B r q tv kv nv x lk ln) (hrk : ∀ k, rk k → k < w.heap.size) (k a : Nat) (hk : k < x.now.length) (ha : 2 ≤ a ∧ a < x.size) :
  ∃ g c, nv = .slice (some ⟨g, 0, none⟩) x.now.length c ∧ (∃ u, w.cell? ⟨g, k * 3 + 1, none⟩ = some u) ∧ w.frozen? ⟨g, k * 3 + 1, none⟩ = false ∧ g ≠ r ∧ ¬ rk g ∧
    ∃ ln', RsAt (w.setCell ⟨g, k * 3 + 1, none⟩ (.int .i64 (a : Nat))) rk B r q tv kv nv { x with now := x.now.set k ((x.now[k]).1, a, (x.now[k]).2.2) } lk ln' ∧ Only (fun b => b = g) w (w.setCell ⟨g, k * 3 + 1, none⟩ (.int .i64 (a : Nat))) := by
 obtain ⟨an, cn, hnv, hcn⟩ := h.now.form
 have hl := h.nowLen
 have hkl : k < ln.length := by omega
 have hnow := h.now
 rw [hnv] at hnow
 obtain ⟨g, rfl, hcells, hfz⟩ := hnow.get k hkl
 obtain ⟨u, _, hu⟩ := hcells 1 (by omega)
 have hgk := h.k2 g (by rw [hnv]; rfl)
 have e : x.now[k] = (ln[k]).p := by
  have := h.nowE
  simp only [← this, List.getElem_map]
 have oo : Only (fun b => b = g) w (w.setCell ⟨g, k * 3 + 1, none⟩ (.int .i64 (a : Nat))) := (Only.refl (fun b => b = g) w).setCell _ _ (fun _ => rfl)
 have oo2 : Only (fun b => nv.ownBlock = some b) w (w.setCell ⟨g, k * 3 + 1, none⟩ (.int .i64 (a : Nat))) := oo.mono (fun b _ e => by rw [hnv, e]; rfl)
 refine ⟨g, cn, by rw [hnv, hl], ⟨u, hu⟩, hfz 1 (by omega), hgk.1, hgk.2, ln.set k ⟨(ln[k]).i, a, (ln[k]).b, (ln[k]).v⟩, ?_, oo⟩
 refine h.inPlace hrk oo2 _ _ ⟨?_, fun y hy => ?_⟩ ?_ ?_ ?_
 ·have h1 := own_set hnow.own (k * 3 + 1) (by omega) (.int .i64 (a : Nat))
  rw [rpgL_setAt ln k a hkl] at h1
  rw [List.length_set, hnv]
  exact h1
 ·have key : ∀ z : RPg, z ∈ ln → BytesAt (w.setCell ⟨g, k * 3 + 1, none⟩ (.int .i64 (a : Nat))) z.v z.b ∧ ∀ b, z.v.ownBlock = some b → b < (w.setCell ⟨g, k * 3 + 1, none⟩ (.int .i64 (a : Nat))).heap.size ∧ ¬ ((b = r ∨ rk b) ∨ nv.ownBlock = some b) := fun z hz =>
   ⟨(h.now.dat z hz).1.keep oo (fun b e e' => ((h.now.dat z hz).2 b e).2 (.inr (.inl (by rw [hnv, e']; rfl)))), fun b e => ⟨Nat.lt_of_lt_of_le ((h.now.dat z hz).2 b e).1 oo.size, fun e' => ((h.now.dat z hz).2 b e).2 (by
     rcases e' with (e' | e') | e'
     ·exact .inl e'
     ·exact .inr (.inr e')
     ·exact .inr (.inl e'))⟩⟩
  rcases List.mem_or_eq_of_mem_set hy with hy | rfl
  ·exact key y hy
  ·exact key (ln[k]) (List.getElem_mem hkl)
 ·rw [List.map_set, h.nowE, e]
  rfl
 ·refine h.nowR.keys ?_
  rw [List.map_set]
  apply List.ext_getElem?
  intro j
  rw [List.getElem?_set]
  split
  ·rename_i e'
   subst e'
   rw [List.getElem?_map, List.getElem?_eq_getElem hk]
   simp [hk]
  ·rfl
 ·intro p hp
  rcases List.mem_or_eq_of_mem_set hp with hp | rfl
  ·exact h.wf.now p hp
  ·have := h.wf.now _ (List.getElem_mem hk)
   exact ⟨this.1, .inr ha, this.2.2⟩
end
def layTo (l : Pgs) (A : List Nat) (k : Nat) : Pgs := layP (l.take k) A ++ l.drop k
theorem layTo_zero (l : Pgs) (A : List Nat) : layTo l A 0 = l := by simp [layTo, layP, layK]
theorem layTo_all (l : Pgs) (A : List Nat) (k : Nat) (h : l.length ≤ k) : layTo l A k = layP l A := by
 unfold layTo
 rw [List.take_of_length_le h, List.drop_eq_nil_of_le h, List.append_nil]
theorem layTo_length (l : Pgs) (A : List Nat) (k : Nat) : (layTo l A k).length = l.length := by
 unfold layTo
 rw [List.length_append, layP_length]
 simp; omega
theorem layTo_get {l : Pgs} (A : List Nat) {k : Nat} (h : k < l.length) : (layTo l A k)[k]? = some (l[k]) := by
 unfold layTo
 have e : (layP (l.take k) A).length = k := by rw [layP_length]; simp; omega
 rw [List.getElem?_append_right (by omega), e, Nat.sub_self, List.getElem?_drop, Nat.add_zero, List.getElem?_eq_getElem h]
theorem layTo_succ {l : Pgs} (A : List Nat) {k : Nat} (h : k < l.length) : layTo l A (k + 1) = (layTo l A k).set k (if (l[k]).2.1 = 0 then ((l[k]).1, A.getD (freshN (l.take k)).length 0, (l[k]).2.2) else l[k]) := by
 unfold layTo
 have e : (layP (l.take k) A).length = k := by rw [layP_length]; simp; omega
 rw [List.take_succ_eq_append_getElem h, layP_snoc, List.set_append_right _ _ (by omega), e, Nat.sub_self, List.drop_eq_getElem_cons h, List.set_cons_zero, List.append_assoc]
 rfl
theorem layTo_keep {l : Pgs} (A : List Nat) {k : Nat} (h : k < l.length) (h0 : (l[k]).2.1 ≠ 0) : layTo l A (k + 1) = layTo l A k := by
 rw [layTo_succ A h, if_neg h0]
 apply List.ext_getElem?
 intro j
 rw [List.getElem?_set]
 split
 ·rename_i e
  subst e
  rw [layTo_get A h, if_pos (by rw [layTo_length]; exact h)]
 ·rfl
theorem freshN_succ {l : Pgs} {k : Nat} (h : k < l.length) : freshN (l.take (k + 1)) = if (l[k]).2.1 = 0 then freshN (l.take k) ++ [(l[k]).1.toNat] else freshN (l.take k) := by
 rw [List.take_succ_eq_append_getElem h]
 unfold freshN
 rw [List.filter_append, List.map_append]
 by_cases e : (l[k]).2.1 = 0
 ·rw [if_pos e]; simp only [List.filter_cons, e, beq_self_eq_true, if_true, List.filter_nil, List.map_cons, List.map_nil]
 ·have e' : ((l[k]).2.1 == 0) = false := by simpa using e
  rw [if_neg e]; simp only [List.filter_cons, e', Bool.false_eq_true, if_false, List.filter_nil, List.map_nil, List.append_nil]
theorem layP_at {l : Pgs} (hr : Rise l) (A : List Nat) {k : Nat} (h : k < l.length) (h0 : (l[k]).2.1 = 0) : pgAt (layP l A) (l[k]).1 = some (A.getD (freshN (l.take k)).length 0, (l[k]).2.2) := by
 have e1 : layP l A = layTo (layP l A) [] 0 := (layTo_zero _ _).symm
 have hk1 : (layTo l A (k + 1))[k]? = some ((l[k]).1, A.getD (freshN (l.take k)).length 0, (l[k]).2.2) := by
  rw [layTo_succ A h, if_pos h0, List.getElem?_set, if_pos rfl, if_pos (by rw [layTo_length]; exact h)]
 have hpre : ∀ n, k < n → n ≤ l.length → (layTo l A n)[k]? = (layTo l A (k + 1))[k]? := by
  intro n hn
  induction n with
  | zero => omega
  | succ n ih =>
    intro hn2
    by_cases e : n = k
    ·subst e; rfl
    ·rw [layTo_succ A (by omega), List.getElem?_set, if_neg (by omega)]
     exact ih (by omega) (by omega)
 have hall := hpre l.length h (Nat.le_refl _)
 rw [layTo_all l A _ (Nat.le_refl _), hk1] at hall
 have hmem : ((l[k]).1, A.getD (freshN (l.take k)).length 0, (l[k]).2.2) ∈ layP l A := List.mem_of_getElem? hall
 exact (getL_mem (layP_rise hr A) _ _).2 hmem
end Go.Proofs.YtlcglapcmdpkfaaGreat
namespace Go.Proofs.YtlcglapcmdpkfaaGreat
open Go.RowKit Go.Maps Go.Shelf
set_option linter.unusedSimpArgs false
set_option linter.unusedVariables false
set_option maxRecDepth 100000
set_option maxHeartbeats 16000000
theorem slice_from (g k c f : Nat) (hf : f ≤ k) (hc : k ≤ c) : ∃ a2 c2, (∀ w, (Instr.slice 76 (.slice (some ⟨g, 0, none⟩) k c) (some (.int .i64 (f : Nat))) none none).run Tryz.prog w = .ok (.slice a2 (k - f) c2) w) ∧ (a2 = some ⟨g, f, none⟩ ∨ k = f ∧ a2 = some ⟨g, 0, none⟩) ∧ k - f ≤ c2 := by
 have k0 : (0 : Int) ≤ (f : Int) := by omega
 have k1 : (f : Int) ≤ (k : Int) := by omega
 have kc : (k : Int) ≤ (c : Int) := by omega
 have k2 : (f : Int) ≤ (c : Int) := by omega
 have e1 : ((k : Int) - (f : Int)).toNat = k - f := by omega
 have e2 : ((c : Int) - (f : Int)).toNat = c - f := by omega
 by_cases e : c = f
 ·have ek : k = f := by omega
  subst e ek
  exact ⟨some ⟨g, 0, none⟩, 0, fun w => by go_simp, .inr ⟨rfl, rfl⟩, by omega⟩
 ·have ec : ¬ c - f = 0 := by omega
  have ec2 : ¬ c = f := e
  refine ⟨some ⟨g, f, none⟩, c - f, fun w => ?_, .inl rfl, by omega⟩
  go_simp
theorem slice_none (w : World) : (Instr.slice 76 (.slice none 0 0) (some (.int .i64 0)) none none).run Tryz.prog w = .ok (.slice none 0 0) w := by kernel_rfl
theorem slice_fresh {w : World} {B : Nat} {v : Value} {zs : List Nat} (h : FreshI w B v zs) (f : Nat) (hf : f ≤ zs.length) : ∃ a2 c2, (∀ w', (Instr.slice 76 v (some (.int .i64 (f : Nat))) none none).run Tryz.prog w' = .ok (.slice a2 (zs.length - f) c2) w') ∧ IntsAt w (.slice a2 (zs.length - f) c2) (zs.drop f) ∧ ∀ b, (Value.slice a2 (zs.length - f) c2).ownBlock = some b → v.ownBlock = some b := by
 rcases h.1.2 with ⟨rfl, h0⟩ | ⟨g, cap, cur, rfl, hB, hg, hcap, _, _, _⟩
 ·have f0 : f = 0 := by omega
  subst f0
  refine ⟨none, 0, fun w' => by rw [h0]; exact slice_none w', ?_, fun b e => by cases e⟩
  rw [h0]
  exact .inl ⟨rfl, by simp [h0]⟩
 ·have hcap' : zs.length ≤ cap := by simpa using hcap
  obtain ⟨a2, c2, hr, ha, hc⟩ := slice_from g zs.length cap f hf hcap'
  refine ⟨a2, c2, hr, ?_, fun b e => ?_⟩
  ·have hl : (zs.drop f).length = zs.length - f := List.length_drop ..
   unfold IntsAt
   rw [hl]
   rcases ha with rfl | ⟨e, rfl⟩
   ·refine .inr ⟨⟨g, f, none⟩, c2, rfl, hc, fun j hj => ?_⟩
    rw [Addr.add_mid, h.1.cellAt (f + j) (by omega)]
    rw [IL_get zs (f + j) (by omega)]
    simp [List.getD]
   ·exact .inr ⟨⟨g, 0, none⟩, c2, rfl, hc, fun j hj => by omega⟩
  ·rcases ha with rfl | ⟨_, rfl⟩
   ·exact e
   ·exact e
theorem range_sets {w : World} {s : Nat} {v0 v1 v2 v3 v4 v5 v6 : Value} (h : w.rangeAt s 0 [v0, v1, v2, v3, v4, v5, v6]) (ht : w.there s 0 7) (u2 u3 u4 : Value) :
  (((w.setCell ⟨s, 2, none⟩ u2).setCell ⟨s, 3, none⟩ u3).setCell ⟨s, 4, none⟩ u4).rangeAt s 0 [v0, v1, u2, u3, u4, v5, v6] ∧ (((w.setCell ⟨s, 2, none⟩ u2).setCell ⟨s, 3, none⟩ u3).setCell ⟨s, 4, none⟩ u4).there s 0 7 := by
 have r1 := range_set h (j := 2) (by simp) u2
 have t1 := there_set ht (h 2 _ rfl) u2
 have r2 := range_set r1 (j := 3) (by simp) u3
 have t2 := there_set t1 (r1 3 _ rfl) u3
 have r3 := range_set r2 (j := 4) (by simp) u4
 have t3 := there_set t2 (r2 4 _ rfl) u4
 exact ⟨r3, t3⟩
theorem only_sets (W : World) (g : Nat) : ∀ (l : List (Nat × Value)), Only (fun b => b = g) W (l.foldl (fun w q => w.setCell ⟨g, q.1, none⟩ q.2) W) := by
 intro l
 have key : ∀ (l : List (Nat × Value)) (V : World), Only (fun b => b = g) W V → Only (fun b => b = g) W (l.foldl (fun w q => w.setCell ⟨g, q.1, none⟩ q.2) V) := by
  intro l
  induction l with
  | nil => exact fun V h => h
  | cons q l ih => exact fun V h => ih _ (h.setCell ⟨g, q.1, none⟩ q.2 (fun _ => rfl))
 exact key l W (Only.refl _ W)
theorem dead_set {w : World} {s : Nat} {v0 : Value} (h : w.cell? ⟨s, 0, none⟩ = some v0) (u1 u2 u3 u4 u5 u6 : Value) :
  (((((((w.setCell ⟨s, 0, none⟩ (.pointer none)).setCell ⟨s, 1, none⟩ u1).setCell ⟨s, 2, none⟩ u2).setCell ⟨s, 3, none⟩ u3).setCell ⟨s, 4, none⟩ u4).setCell ⟨s, 5, none⟩ u5).setCell ⟨s, 6, none⟩ u6).cell? ⟨s, 0, none⟩ = some (.pointer none) ∧
  Only (fun b => b = s) w (((((((w.setCell ⟨s, 0, none⟩ (.pointer none)).setCell ⟨s, 1, none⟩ u1).setCell ⟨s, 2, none⟩ u2).setCell ⟨s, 3, none⟩ u3).setCell ⟨s, 4, none⟩ u4).setCell ⟨s, 5, none⟩ u5).setCell ⟨s, 6, none⟩ u6) := by
 refine ⟨?_, only_sets w s [(0, .pointer none), (1, u1), (2, u2), (3, u3), (4, u4), (5, u5), (6, u6)]⟩
 rw [World.cell?_setCell_other _ _ _ _ (by simp), World.cell?_setCell_other _ _ _ _ (by simp), World.cell?_setCell_other _ _ _ _ (by simp), World.cell?_setCell_other _ _ _ _ (by simp), World.cell?_setCell_other _ _ _ _ (by simp), World.cell?_setCell_other _ _ _ _ (by simp), World.cell?_setCell_same _ _ _ h]
def dkE (E : Nat → Prop) (p S : Nat) (pv : Value) : Nat → Prop := fun k => diskB p S pv k ∨ E k
def CmIsE (E : Nat → Prop) (x : SS) (d : DS) (w : World) (B p S s : Nat) (pv : Value) (e : Ending) (w' : World) : Prop :=
 (freeN x x.size < needN x ∧ e = .returned (.int .i64 7) ∧ Only (fun _ => False) w w') ∨
 (needN x ≤ freeN x x.size ∧ (cmX x d).1 ≠ 0 ∧ e = .returned (.int .i64 3) ∧ ∃ pv', DiskAt w' B p S pv' (cmX x d).2 ∧ w'.cell? ⟨s, 0, none⟩ = some (.pointer none) ∧ Only (fun k => diskB p S pv k ∨ k = s) w w' ∧ (∀ b, pv'.ownBlock = some b → pv.ownBlock = some b ∨ w.heap.size ≤ b)) ∨
 (needN x ≤ freeN x x.size ∧ (cmX x d).1 = 0 ∧ e = .returned (.int .i64 0) ∧ ∃ pv' mc' mn' tv', DiskAt w' B p S pv' (cmX x d).2 ∧ StAt w' (dkE E p S pv') s p mc' mn' tv' x.next ∧ Only (fun k => diskB p S pv k ∨ k = s) w w' ∧ (∀ b, pv'.ownBlock = some b → pv.ownBlock = some b ∨ w.heap.size ≤ b) ∧ w.heap.size ≤ mc' ∧ w.heap.size ≤ mn')
theorem mut_sub {E : Nat → Prop} {p S s mc mn k : Nat} {pv : Value} (h : mutB (diskB p S pv) s mc mn k) : mutB (dkE E p S pv) s mc mn k := by
 rcases h with e | e | e | e
 ·exact .inl e
 ·exact .inr (.inl e)
 ·exact .inr (.inr (.inl e))
 ·exact .inr (.inr (.inr (.inl e)))
theorem commit_anyE {w : World} {E : Nat → Prop} {s p mc mn S B : Nat} {tv pv : Value} {x : SS} {d : DS} (h : StAt w (dkE E p S pv) s p mc mn tv x) (hEl : ∀ k, E k → k < w.heap.size) (hd : DiskAt w B p S pv d) (hB : B ≤ w.heap.size) (hb : ByteD d) (hg : Good d) (hp : d.pend.length ≤ 9000000000) :
  Calls Tryz.prog 20 #[.pointer (some ⟨s, 0, none⟩)] w fun e w' => Hid (CmIsE E x d w B p S s pv e w') := by
 have hlt := hd.lt
 have hd0 : ∀ k, diskB p S pv k → k < w.heap.size := fun k hk => (hlt k hk).2
 have hdE : ∀ k, dkE E p S pv k → k < w.heap.size := fun k hk => hk.elim (hd0 k) (hEl k)
 have HU := usable_ok s p w h.c0
 have HPl : Hid (Calls Tryz.prog 54 _ _ _) := plan_any h hdE
 have HS : Hid (StAt w (dkE E p S pv) s p mc mn tv x) := h
 have HD : Hid (DiskAt w B p S pv d) := hd
 have hwf := h.wf
 have hnl := st_len h
 have hT := tab_small hwf hnl (plA_small hwf)
 have hP := putN_le x
 obtain ⟨T, hTe⟩ : ∃ T, T = (tabB (layP x.now (plA x))).length := ⟨_, rfl⟩
 obtain ⟨F, hF⟩ : ∃ q, q = putN x := ⟨_, rfl⟩
 obtain ⟨nd, hnd⟩ : ∃ q, q = needN x := ⟨_, rfl⟩
 have HE : Hid (F = putN x ∧ nd = needN x ∧ T = (tabB (layP x.now (plA x))).length) := ⟨hF, hnd, hTe⟩
 have HNN : Hid (nd = F + tabN T) := by rw [hnd, hF, hTe]; rfl
 rw [← hTe] at hT
 rw [← hF] at hP
 have hnd4 : nd ≤ 1000 := by rw [hnd, show needN x = putN x + tabN (tabB (layP x.now (plA x))).length from rfl, ← hTe, ← hF]; unfold tabN; omega
 have hdisk : ¬ diskB p S pv s := fun e => h.k1 (.inl e)
 have hEs : ¬ E s := fun e => h.k1 (.inr e)
 have hsl := h.lt
 clear h hd hlt hTe hF hnd
 go_enter Tryz.func20, Tryz.ntmps20
 go_wp2_with (go_at_call 35; refine HU.mono ?_; rintro e w' ⟨rfl, rfl⟩)
 refine (show Calls Tryz.prog 54 _ _ _ from HPl.out).mono ?_
 rintro e w1 ⟨a1, c1, ml, a3, c3, rfl, HP⟩
 clear HPl HU
 rw [← HE.out.1, ← HE.out.2.2] at HP
 rw [← HE.out.1, ← HE.out.2.2]
 obtain ⟨R, hR⟩ : ∃ R, R = w1.heap.size := ⟨_, rfl⟩
 obtain ⟨wq, hwq⟩ : ∃ q, q = w1.alloc (.cells #[.slice a1 F c1, .map (some ml), .slice a3 T c3] 105) := ⟨_, rfl⟩
 have oq : Only (fun _ => False) w1 wq := by rw [hwq]; exact (Only.refl _ w1).alloc _
 have bq : wq.heap[R]? = some (.cells #[.slice a1 F c1, .map (some ml), .slice a3 T c3] 105 (0, 0)) := by rw [hwq, hR]; exact heap_alloc_new w1 _
 have HWQ : Hid (wq = w1.alloc (.cells #[.slice a1 F c1, .map (some ml), .slice a3 T c3] 105) ∧ R = w1.heap.size) := ⟨hwq, hR⟩
 have HOQ : Hid (Only (fun _ => False) w1 wq) := oq
 have HBQ : Hid (wq.heap[R]? = some (.cells #[.slice a1 F c1, .map (some ml), .slice a3 T c3] 105 (0, 0))) := bq
 have hRq : R < wq.heap.size := (Array.getElem?_eq_some_iff.1 bq).1
 clear hwq hR oq bq
 have HC4 : Hid (∀ wx, Only (fun _ => False) wq wx → wx.cell? ⟨R, 0, none⟩ = some (.slice a1 F c1) ∧ wx.cell? ⟨R, 1, none⟩ = some (.map (some ml)) ∧ wx.cell? ⟨R, 2, none⟩ = some (.slice a3 T c3)) := fun wx ho => by
  have hx : wx.heap[R]? = some (.cells #[.slice a1 F c1, .map (some ml), .slice a3 T c3] 105 (0, 0)) := by rw [ho.block R hRq (fun e => e)]; exact HBQ.out
  refine ⟨?_, ?_, ?_⟩ <;> (rw [cell_of_row _ _ _ _ _ _ hx]; rfl)
 have hsq : StAt wq (dkE E p S pv) s p mc mn tv x := (HS.out.still HP.out.2.2.2.2).still HOQ.out
 have HUs : Hid (Calls Tryz.prog 56 #[.pointer (some ⟨s, 0, none⟩)] wq.drew fun e w2 => ∃ g, e = .returned (.slice (some ⟨g, 0, none⟩) x.size x.size) ∧ Hid (FBlk w2 g x.size (usedF x) ∧ Only (fun _ => False) wq w2)) := by
  have od : Only (fun _ => False) wq wq.drew := (Only.refl _ wq).drew
  refine (used_any (hsq.still od)).mono ?_
  rintro e w2 ⟨rfl, q1, q2⟩
  exact ⟨_, rfl, q1, od.trans q2 (fun _ _ e => e)⟩
 have HSQ : Hid (StAt wq (dkE E p S pv) s p mc mn tv x) := hsq
 clear hsq
 go_wp2_with fail
 rw [← HWQ.out.1, ← HWQ.out.2]
 refine wp_region_held_drew (S := fun w2 => Only (fun _ => False) wq w2) (by kernel_rfl) ((Only.refl _ wq).drew) (fun hHeld => ?_)
 refine t8 (i := 0) (v := .pointer (some ⟨s, 0, none⟩)) rfl hHeld ?_
 simp only [Act.put, z9]
 refine t8 (i := 2) (v := .agg #[.slice a1 F c1, .map (some ml), .slice a3 T c3]) rfl hHeld ?_ (Or.inl ⟨by rfl, fun wx hSw => by obtain ⟨q0, q1, q2⟩ := HC4.out wx hSw; go_simp⟩)
 simp only [Act.put, z9]
 refine wpAnyH_ready (rs := [1]) (by kernel_rfl) (by simp) ?_
 refine AllReadyH.cons rfl (fun K hK => ?_) AllReadyH.nil
 rw [if_pos (by rfl)]
 refine wp_call_func #[.tmp 16] #[32] rfl #[.pointer (some ⟨s, 0, none⟩)] (by simp [Act.eval]) (enters_of Tryz.func56 (by kernel_rfl) rfl) (show Calls Tryz.prog 56 _ _ _ from HUs.out) (fun e w2 he => ?_)
 obtain ⟨g, rfl, HF2⟩ := he
 refine ⟨_, rfl, hK _ _ HF2.out.2 (fun hHeld => ?_)⟩
 clear hK K HUs
 simp only [Act.put, z9]
 have HNd : Hid (Calls Tryz.prog 57 #[.agg #[.slice a1 F c1, .map (some ml), .slice a3 T c3]] w2 fun e w3 => e = .returned (.int .i64 (nd : Nat)) ∧ Only (fun _ => False) w2 w3) := by
  have := need_any a1 a3 F c1 T c3 (some ml) w2 (by omega) (by omega)
  rw [← HNN.out] at this
  exact this
 refine wpAnyH_ready (rs := [3]) (by kernel_rfl) (by simp) ?_
 refine AllReadyH.cons rfl (fun K hK => ?_) AllReadyH.nil
 rw [if_pos (by rfl)]
 refine wp_call_func #[.tmp 18] #[105] rfl #[.agg #[.slice a1 F c1, .map (some ml), .slice a3 T c3]] (by simp [Act.eval]) (enters_of Tryz.func57 (by kernel_rfl) rfl) (show Calls Tryz.prog 57 _ _ _ from HNd.out) (fun e w3 he => ?_)
 obtain ⟨rfl, ho3⟩ := he
 have o3 : Only (fun _ => False) wq w3 := HF2.out.2.trans ho3 (fun _ _ e => e)
 refine ⟨_, rfl, hK _ _ o3 (fun hHeld => ?_)⟩
 clear hK K HNd
 simp only [Act.put, z9]
 have HFi : Hid (Calls Tryz.prog 55 #[.slice (some ⟨g, 0, none⟩) x.size x.size, .int .i64 (nd : Nat)] w3 fun e w4 => FirstIs ((freeL x x.size).take nd) nd w3 e w4) := by
  have hf3 : FBlk w3 g x.size (usedF x) := HF2.out.1.frame ho3 (fun e => e)
  have := first_ok _ _ nd w3 (hf3.flags (by have := hwf.size; omega)) (by rw [flF_length]; have := hwf.size; omega)
  rw [fr_free_all] at this
  exact this
 have O3 : Hid (Only (fun _ => False) wq w3) := o3
 clear o3 ho3 HF2
 refine wpAnyH_ready (rs := [4]) (by kernel_rfl) (by simp) ?_
 refine AllReadyH.cons rfl (fun K hK => ?_) AllReadyH.nil
 rw [if_pos (by rfl)]
 refine wp_call_func #[.tmp 17, .tmp 19] #[38, 3] rfl #[.slice (some ⟨g, 0, none⟩) x.size x.size, .int .i64 (nd : Nat)] (by simp [Act.eval]) (enters_of Tryz.func55 (by kernel_rfl) rfl) (show Calls Tryz.prog 55 _ _ _ from HFi.out) (fun e w4 he => ?_)
 clear HFi
 rcases he with ⟨hl, rfl, ho4⟩ | ⟨heq, u, rfl, hu, ho4⟩
 ·have o4 : Only (fun _ => False) wq w4 := O3.out.trans ho4 (fun _ _ e => e)
  refine ⟨_, rfl, hK _ _ o4 (fun hHeld => ?_)⟩
  clear hK K
  simp only [Act.put, z9]
  refine t8 (i := 5) (v := .tuple #[.slice none 0 0, .int .i64 7]) rfl hHeld ?_
  simp only [Act.put, z9]
  refine t8 (i := 6) (v := .slice none 0 0) rfl hHeld ?_
  simp only [Act.put, z9]
  refine t8 (i := 8) (v := .slice none 0 0) rfl hHeld ?_
  simp only [Act.put, z9]
  refine t8 (i := 7) (v := .int .i64 7) rfl hHeld ?_
  simp only [Act.put, z9]
  refine t8 (i := 9) (v := .int .i64 7) rfl hHeld ?_
  simp only [Act.put, z9]
  refine wpAnyH_done (by kernel_rfl) ?_ _
  have HQ : Hid (CmIsE E x d w' B p S s pv (.returned (.int .i64 7)) w4) := by
   refine .inl ⟨?_, rfl, (HP.out.2.2.2.2.trans HOQ.out (fun _ _ e => e)).trans o4 (fun _ _ e => e)⟩
   rw [List.length_take, freeL_len] at hl
   have := HE.out.2.1
   omega
  clear o4 ho4 hl hHeld
  go_wp2
  go_ret
  exact HQ.out
 ·have o4 : Only (fun _ => False) wq w4 := O3.out.trans ho4 (fun _ _ e => e)
  refine ⟨_, rfl, hK _ _ o4 (fun hHeld => ?_)⟩
  clear hK K
  simp only [Act.put, z9]
  refine t8 (i := 5) (v := .tuple #[u, .int .i64 0]) rfl hHeld ?_
  simp only [Act.put, z9]
  refine t8 (i := 6) (v := u) rfl hHeld ?_
  simp only [Act.put, z9]
  refine t8 (i := 8) (v := u) rfl hHeld ?_
  simp only [Act.put, z9]
  refine t8 (i := 7) (v := .int .i64 0) rfl hHeld ?_
  simp only [Act.put, z9]
  refine t8 (i := 9) (v := .int .i64 0) rfl hHeld ?_
  simp only [Act.put, z9]
  refine wpAnyH_done (by kernel_rfl) ?_ _
  obtain ⟨a2, c2, hsl2, hi2, hob2⟩ := slice_fresh hu F (by rw [heq]; have := HNN.out; omega)
  rw [heq] at hsl2 hi2 hob2
  have hcs := HC4.out w4 o4
  obtain ⟨q0, q1, q2⟩ := hcs
  obtain ⟨au, cu, rfl, _⟩ := hu.form
  rw [heq] at hsl2 hob2 hu ⊢
  have O4 : Hid (Only (fun _ => False) wq w4) := o4
  have HU2 : Hid (∀ b, (Value.slice a2 (nd - F) c2).ownBlock = some b → w3.heap.size ≤ b ∧ b < w4.heap.size) := fun b e => hu.1.lt b (hob2 b e)
  have HI2 : Hid (IntsAt w4 (.slice a2 (nd - F) c2) (((freeL x x.size).take nd).drop F)) := hi2
  clear hHeld
  have HWr : Hid (Calls Tryz.prog 58 #[.pointer (some ⟨s, 0, none⟩), .agg #[.slice a1 F c1, .map (some ml), .slice a3 T c3], .slice a2 (nd - F) c2] w4 fun e w5 => e = .returned (.int .i64 (cmX x d).1) ∧ Hid (WrIs w4 B p S pv (cmX x d) e w5)) := by
   obtain ⟨p1, p2, p3, p4, p5⟩ := HP.out
   have o14 : Only (fun _ => False) w1 w4 := HOQ.out.trans O4.out (fun _ _ e => e)
   have hs4 : StAt w4 (diskB p S pv) s p mc mn tv x := (HSQ.out.still O4.out).frame (Only.refl (fun _ => False) w4) (fun _ _ e => e.elim) (fun _ _ e => .inl e)
   have ow4 : Only (fun _ => False) w' w4 := p5.trans o14 (fun _ _ e => e)
   have s4 := ow4.size
   have s14 := o14.size
   have hfit : needN x ≤ freeN x x.size := by
    rw [List.length_take, freeL_len] at heq
    have := HE.out.2.1
    omega
   have htl : tbs x = ((freeL x x.size).take nd).drop F := by unfold tbs; rw [HE.out.1, HE.out.2.1]
   have htn := tbs_length hfit
   have e1 : (freshN x.now).length = F := HE.out.1.symm
   have e2 : (tabB (laid x)).length = T := HE.out.2.2.symm
   have e3 : (tbs x).length = nd - F := by rw [htl, List.length_drop, heq]
   have h1 : IntsAt w4 (.slice a1 (freshN x.now).length c1) (freshN x.now) := by rw [e1]; exact (p1.frame o14).ints
   have h2 : BytesAt w4 (.slice a3 (tabB (laid x)).length c3) (tabB (laid x)) := by rw [e2]; exact (p4.frame o14).bytes
   have h3 : IntsAt w4 (.slice a2 (tbs x).length c2) (tbs x) := by rw [e3, htl]; exact HI2.out
   have nd0 : ∀ b, w'.heap.size ≤ b → ¬ diskB p S pv b := fun b hb' e => by have := hd0 b e; omega
   have key := swrite_core hs4 (HD.out.frame ow4 (fun _ _ e => e)) (by omega) hb hg hp a1 a3 a2 c1 c3 c2 (freshN x.now) (tabB (laid x)) (tbs x) (laid x) (ml := ml) h1
    (fun b e => by rw [e1] at e; have := p1.1.lt b e; exact ⟨by omega, nd0 b this.1⟩) (by omega)
    (p3.frame o14 (fun e => e) (fun _ _ e => e.elim) (fun k _ e => .inl (mut_sub e))) (nd0 ml p2)
    (fun i hi => by
     obtain ⟨dt, hm⟩ := (freshN_mem (fun p hp => (hwf.now p hp).1.1)).1 hi
     have := (hwf.now _ hm).1
     simp only at this
     omega)
    h2 (fun b e => by rw [e2] at e; have := p4.1.lt b e; exact ⟨by omega, nd0 b this.1⟩) (by omega)
    h3 (fun b e => by rw [e3] at e; have := hu.1.lt b (hob2 b e); exact ⟨this.2, nd0 b (by have := O3.out.size; have := HOQ.out.size; have := p5.size; omega)⟩) htn
    (fun t ht => by have := ((next_wf hwf hfit).tabs.2 t ht).2; have := hwf.size; have e9 : x.next.size = x.size := rfl; omega)
   rw [e1, e2, e3] at key
   refine key.mono ?_
   rintro e w5 hw
   exact ⟨hw.out.1, hw.out⟩
  obtain ⟨r, hr⟩ : ∃ r, r = cmX x d := ⟨_, rfl⟩
  have HR : Hid (r = cmX x d) := hr
  rw [← hr] at HWr
  clear hr hu hi2 ho4 o4
  go_wp2_with fail
  refine (show Calls Tryz.prog 58 _ _ _ from HWr.out).mono ?_
  rintro e w5 ⟨rfl, HW5⟩
  clear HWr q0 q1 q2 hsl2
  obtain ⟨_, pv5, hd5, ho5, hp5⟩ := HW5.out
  have hs5 : StAt w5 (dkE E p S pv) s p mc mn tv x := (HSQ.out.still O4.out).frame ho5 (fun _ _ e => .inl e) (fun _ _ e => e)
  have c0 := hs5.c0
  have c1' := hs5.c1
  have c2' := hs5.c2
  have c3' := hs5.c3
  have c4' : w5.cell? ⟨s, 4, none⟩ = some tv := hs5.cells 4 _ rfl
  have c5' := hs5.c5
  have c6' := hs5.c6
  have f0 := hs5.fz 0 (by omega)
  have f1 := hs5.fz 1 (by omega)
  have f2 := hs5.fz 2 (by omega)
  have f3 := hs5.fz 3 (by omega)
  have f4 := hs5.fz 4 (by omega)
  have f5 := hs5.fz 5 (by omega)
  have f6 := hs5.fz 6 (by omega)
  have HS5 : Hid (StAt w5 (dkE E p S pv) s p mc mn tv x ∧ DiskAt w5 B p S pv5 r.2 ∧ Only (diskB p S pv) w4 w5 ∧ ∀ b, pv5.ownBlock = some b → pv.ownBlock = some b ∨ w4.heap.size ≤ b) := ⟨hs5, hd5, ho5, hp5⟩
  have hfit : Hid (needN x ≤ freeN x x.size) := by
   rw [List.length_take, freeL_len] at heq
   have := HE.out.2.1
   show needN x ≤ freeN x x.size
   omega
  clear hs5 hd5 ho5 hp5 HW5
  by_cases hz : r.1 = 0
  ·obtain ⟨EP, hE⟩ : ∃ E, E = (x.epoch + 1) % 18446744073709551616 := ⟨_, rfl⟩
   have hEp := hwf.epoch
   have eE : IntKind.u64.wrap ((x.epoch : Int) + 1) = (EP : Int) := by rw [IntKind.wrap_u64, hE]; omega
   have hsec : x.sector ≤ 4 := by have := hwf.sector; omega
   obtain ⟨q, hq⟩ : ∃ q, q = 4 - x.sector := ⟨_, rfl⟩
   have HEQ : Hid (EP = (x.epoch + 1) % 18446744073709551616 ∧ q = 4 - x.sector) := ⟨hE, hq⟩
   have HOt : Hid (∀ W, W.cell? ⟨s, 3, none⟩ = some (.int .i64 (x.sector : Nat)) → Calls Tryz.prog 59 #[.pointer (some ⟨s, 0, none⟩)] W fun e W2 => e = .returned (.int .i64 (q : Nat)) ∧ W2 = W) := fun W hW => by rw [hq]; exact other_raw s x.sector W hW hsec
   obtain ⟨p1, p2, p3, p4, p5⟩ := HP.out
   obtain ⟨g1, g2, g3, g4⟩ := HS5.out
   have o14 : Only (fun _ => False) w1 w4 := HOQ.out.trans O4.out (fun _ _ e => e)
   have o15 : Only (diskB p S pv) w1 w5 := (o14.mono (fun _ _ e => e.elim)).trans g3 (fun _ _ e => e)
   have hmls : ml ≠ s := by omega
   have hRs : R ≠ s := by have := HWQ.out.2; have := p5.size; omega
   have hRd : ¬ diskB p S pv R := fun e => by have := hd0 R e; have := HWQ.out.2; have := p5.size; omega
   have hmd : ¬ diskB p S pv ml := fun e => by have := hd0 ml e; omega
   have qR : w5.cell? ⟨R, 1, none⟩ = some (.map (some ml)) := g3.cell ((HC4.out w4 O4.out).2.1) hRd
   obtain ⟨sl, hm, hbd⟩ := p3
   have hm5 : MapAt w5 ml ((laid x).map fun p => (p.1, pgV sl p)) := hm.frame o15 hmd
   obtain ⟨rs, ts⟩ := range_sets g1.cells g1.there (.int .u64 (EP : Nat)) (.int .i64 (q : Nat)) (.slice a2 (nd - F) c2)
   have os : Only (fun b => b = s) w5 (((w5.setCell ⟨s, 2, none⟩ (.int .u64 (EP : Nat))).setCell ⟨s, 3, none⟩ (.int .i64 (q : Nat))).setCell ⟨s, 4, none⟩ (.slice a2 (nd - F) c2)) := only_sets w5 s [(2, .int .u64 (EP : Nat)), (3, .int .i64 (q : Nat)), (4, .slice a2 (nd - F) c2)]
   have HTk : Hid (Calls Tryz.prog 31 _ _ _) := take_any s ml _ _ _ _ _ _ _ _ _ rs ts (hm5.frame os hmls)
   have HFin : Hid (∀ W10, (W10.rangeAt s 0 [.pointer (some ⟨p, 0, none⟩), .int .i64 (x.size : Nat), .int .u64 (EP : Nat), .int .i64 (q : Nat), .slice a2 (nd - F) c2, .map (some ml), .map (some (((w5.setCell ⟨s, 2, none⟩ (.int .u64 (EP : Nat))).setCell ⟨s, 3, none⟩ (.int .i64 (q : Nat))).setCell ⟨s, 4, none⟩ (.slice a2 (nd - F) c2)).heap.size)] ∧ W10.there s 0 7 ∧ MapAt W10 (((w5.setCell ⟨s, 2, none⟩ (.int .u64 (EP : Nat))).setCell ⟨s, 3, none⟩ (.int .i64 (q : Nat))).setCell ⟨s, 4, none⟩ (.slice a2 (nd - F) c2)).heap.size ((laid x).map fun p => (p.1, pgV sl p)) ∧ MapAt W10 ml ((laid x).map fun p => (p.1, pgV sl p)) ∧ Only (fun k => k = s) (((w5.setCell ⟨s, 2, none⟩ (.int .u64 (EP : Nat))).setCell ⟨s, 3, none⟩ (.int .i64 (q : Nat))).setCell ⟨s, 4, none⟩ (.slice a2 (nd - F) c2)) W10) → CmIsE E x d w' B p S s pv (.returned (.int .i64 0)) W10) := by
    rintro W10 ⟨z1, z2, z3, z4, z5⟩
    have hs9 := os.size
    obtain ⟨W9, hW9⟩ : ∃ V, V = ((w5.setCell ⟨s, 2, none⟩ (.int .u64 (EP : Nat))).setCell ⟨s, 3, none⟩ (.int .i64 (q : Nat))).setCell ⟨s, 4, none⟩ (.slice a2 (nd - F) c2) := ⟨_, rfl⟩
    rw [← hW9] at z1 z3 z5 os hs9
    have o10 : Only (fun b => b = s) w5 W10 := os.trans z5 (fun _ _ e => e)
    have s14 := o14.size
    have s5 := g3.size
    have sp := p5.size
    have ow4 : Only (fun _ => False) w' w4 := p5.trans o14 (fun _ _ e => e)
    have o410 : Only (fun k => diskB p S pv k ∨ k = s) w4 W10 := (g3.mono (fun _ _ e => .inl e)).trans (o10.mono (fun _ _ e => .inr e)) (fun _ _ e => e)
    have oAll : Only (fun k => diskB p S pv k ∨ k = s) w' W10 := (ow4.mono (fun _ _ e => e.elim)).trans o410 (fun _ _ e => e)
    have hls := z3.lt
    have hdn : ∀ b, diskB p S pv5 b → diskB p S pv b ∨ w4.heap.size ≤ b := fun b e => by
     rcases e with e | e | e
     ·exact .inl (.inl e)
     ·exact .inl (.inr (.inl e))
     ·rcases g4 b e with e | e
      ·exact .inl (.inr (.inr e))
      ·exact .inr e
    have hdl : ∀ b, diskB p S pv5 b → b < w5.heap.size := fun b e => (g2.lt b e).2
    have hd10 : DiskAt W10 B p S pv5 r.2 := g2.frame o10 (fun b e e' => by
     rcases hdn b e with e | e
     ·exact hdisk (e' ▸ e)
     ·omega)
    have hown : ∀ b, pv5.ownBlock = some b → pv.ownBlock = some b ∨ w'.heap.size ≤ b := fun b e => by
     rcases g4 b e with e | e
     ·exact .inl e
     ·exact .inr (by omega)
    have hfit' := hfit.out
    have htl : tbs x = ((freeL x x.size).take nd).drop F := by unfold tbs; rw [HE.out.1, HE.out.2.1]
    have e3 : (tbs x).length = nd - F := by rw [htl, List.length_drop, heq]
    have hub : ∀ b, (Value.slice a2 (nd - F) c2).ownBlock = some b → w3.heap.size ≤ b ∧ b < w4.heap.size := fun b e => HU2.out b e
    have s3 := O3.out.size
    have sq := HOQ.out.size
    have mlt : ml < w4.heap.size := by have := hm.lt; omega
    refine .inr (.inr ⟨hfit', by rw [← HR.out]; exact hz, rfl, pv5, ml, W9.heap.size, .slice a2 (nd - F) c2, by rw [← HR.out]; exact hd10, ?_, oAll, hown, p2, by omega⟩)
    have pg : ∀ p' ∈ laid x, BytesAt W10 (sl p'.1) p'.2.2 ∧ ∀ b, (sl p'.1).ownBlock = some b → b < W10.heap.size ∧ ¬ mutB (dkE E p S pv5) s ml W9.heap.size b := fun p' hp' => by
     obtain ⟨y1, y2⟩ := hbd p' hp'
     have yb : ∀ b, (sl p'.1).ownBlock = some b → b < w'.heap.size ∧ ¬ mutB (dkE E p S pv) s mc mn b := fun b e => by
      have := (y2 b e).2
      exact ⟨Nat.lt_of_not_le (fun e' => this (.inr e')), fun e' => this (.inl e')⟩
     refine ⟨(y1.keep o14 (fun _ _ e => e)).keep o410 (fun b e e' => ?_), fun b e => ⟨by have := (yb b e).1; have := oAll.size; omega, fun e' => ?_⟩⟩
     ·rcases e' with e' | e'
      ·exact (yb b e).2 (.inr (.inr (.inr (.inl e'))))
      ·exact (yb b e).2 (.inl e')
     ·have hb1 := (yb b e).1
      rcases e' with e' | e' | e' | e' | e'
      ·exact (yb b e).2 (.inl e')
      ·omega
      ·omega
      ·rcases hdn b e' with e' | e'
       ·exact (yb b e).2 (.inr (.inr (.inr (.inl e'))))
       ·omega
      ·exact (yb b e).2 (.inr (.inr (.inr (.inr e'))))
    exact { cells := by
             have e1 := HEQ.out.1
             have e2 := HEQ.out.2
             show W10.rangeAt s 0 [.pointer (some ⟨p, 0, none⟩), .int .i64 (x.size : Nat), .int .u64 (((x.epoch + 1) % 18446744073709551616 : Nat) : Int), .int .i64 ((4 - x.sector : Nat) : Int), .slice a2 (nd - F) c2, .map (some ml), .map (some W9.heap.size)]
             rw [← e1, ← e2]
             exact z1
            there := z2, d1 := fun e => hmls e.symm, d2 := by omega, d3 := by omega
            k1 := fun e => by
             rcases e with e | e
             ·rcases hdn s e with e | e
              ·exact hdisk e
              ·omega
             ·exact hEs e
            k2 := fun e => by
             rcases e with e | e
             ·rcases hdn ml e with e | e
              ·exact hmd e
              ·omega
             ·have := hEl _ e; omega
            k3 := fun e => by
             rcases e with e | e
             ·have := hdl _ e; omega
             ·have := hEl _ e; omega
            tabs := by
             show RowAt W10 (.slice a2 (nd - F) c2) (tbs x).length 1 (fun j => .int .i64 ((tbs x).getD j 0 : Nat))
             have := HI2.out
             rw [← htl] at this
             refine RowAt.keep this o410 (fun b e e' => ?_)
             have hb1 := hub b e
             rcases e' with e' | e'
             ·have := hd0 b e'; omega
             ·omega
            tabsB := fun b e => by
             have hb1 := hub b e
             refine ⟨by have := o410.size; omega, fun e' => ?_⟩
             rcases e' with e' | e' | e' | e' | e'
             ·omega
             ·have := hm.lt; omega
             ·omega
             ·rcases hdn b e' with e' | e'
              ·have := hd0 b e'; omega
              ·omega
             ·have := hEl b e'; omega
            com := ⟨sl, z4, pg⟩, now := ⟨sl, z3, pg⟩, wf := next_wf hwf hfit' }
   clear p1 p2 p4 p5 g1 g2 g3 g4 o14 o15 hm hbd hm5 rs ts os hE hq hRd hmd heq
   go_wp2_with (first | (go_at_call 59; refine (HOt.out _ (by go_simp)).mono ?_; rintro e wz ⟨rfl, rfl⟩))
   refine (show Calls Tryz.prog 31 _ _ _ from HTk.out).mono ?_
   rintro e W10 ⟨rfl, hz9⟩
   have HZ9 := HFin.out W10 hz9
   have HZ : Hid (CmIsE E x d w' B p S s pv (.returned (.int .i64 0)) W10) := HZ9
   clear hz9 HZ9 HFin HTk
   go_wp2
   go_ret
   exact HZ.out
  ·have hz' : (r.1 == 0) = false := by simpa using hz
   go_wp2
   go_ret
   obtain ⟨k1, k2⟩ := dead_set c0 (.int .i64 0) (.int .u64 0) (.int .i64 0) (.slice none 0 0) (.map none) (.map none)
   obtain ⟨g1, g2, g3, g4⟩ := HS5.out
   have ow4 : Only (fun _ => False) w' w4 := (HP.out.2.2.2.2.trans HOQ.out (fun _ _ e => e)).trans O4.out (fun _ _ e => e)
   have s4 := ow4.size
   refine .inr (.inl ⟨hfit.out, by rw [← HR.out]; exact hz, rfl, pv5, ?_, k1, ((ow4.mono (fun _ _ e => e.elim)).trans (g3.mono (fun _ _ e => .inl e)) (fun _ _ e => e)).trans (k2.mono (fun _ _ e => .inr e)) (fun _ _ e => e), fun b e => ?_⟩)
   ·rw [← HR.out]
    refine g2.frame k2 (fun b e e' => ?_)
    subst e'
    rcases e with e | e | e
    ·exact hdisk (.inl e)
    ·exact hdisk (.inr (.inl e))
    ·rcases g4 _ e with e | e
     ·exact hdisk (.inr (.inr e))
     ·omega
   ·rcases g4 b e with e | e
    ·exact .inl e
    ·exact .inr (by omega)
end Go.Proofs.YtlcglapcmdpkfaaGreat
namespace Go.Proofs.YtlcglapcmdpkfaaGreat
open Go.RowKit
set_option linter.unusedSimpArgs false
set_option linter.unusedVariables false
set_option maxRecDepth 100000
set_option maxHeartbeats 16000000
structure MidE (w : World) (E : Nat → Prop) (B q K : Nat) (rv : Value) (rs : List RW) (d : DS) (W : World) (rv' : Value) (rs' : List RW) : Prop where
 ref : RefAt W B q K rv' d rs'
 ho : Only (fun b => refB q K rv rs b ∨ E b) w W
 sub : ∀ b, refB q K rv' rs' b → refB q K rv rs b ∨ w.heap.size ≤ b
section
variable {w W : World} {E : Nat → Prop} {B q K : Nat} {rv rv' : Value} {rs rs' : List RW} {d : DS}
theorem MidE.via {W2 : World} {d2 : DS} {rv2 : Value} {rs2 : List RW} (h : MidE w E B q K rv rs d W rv' rs') (h2 : MidR W B q K rv' rs' d2 W2 rv2 rs2) : MidE w E B q K rv rs d2 W2 rv2 rs2 :=
 ⟨h2.ref, h.ho.trans h2.ho (fun b hb e => by
  rcases h.sub b e with e | e
  ·exact .inl e
  ·omega), fun b e => by
  rcases h2.sub b e with e | e
  ·exact h.sub b e
  ·exact .inr (by have := h.ho.size; omega)⟩
theorem MidE.still {W' : World} (h : MidE w E B q K rv rs d W rv' rs') (ho : Only (fun _ => False) W W') : MidE w E B q K rv rs d W' rv' rs' :=
 ⟨h.ref.frame ho (fun _ _ e => e), h.ho.trans ho (fun _ _ e => e.elim), h.sub⟩
theorem MidE.set {W' : World} {bs : Nat → Prop} (h : MidE w E B q K rv rs d W rv' rs') (ho : Only bs W W') (hE : ∀ b, b < w.heap.size → bs b → E b) (hn : ∀ b, refB q K rv' rs' b → ¬ bs b) : MidE w E B q K rv rs d W' rv' rs' :=
 ⟨h.ref.frame ho hn, h.ho.trans ho (fun b hb e => .inr (hE b hb e)), h.sub⟩
end
def refE (E : Nat → Prop) (m q K : Nat) (rv : Value) (rs : List RW) : Nat → Prop := fun k => refB q K rv rs k ∨ (E k ∧ k < m)
structure Und (E : Nat → Prop) (w : World) (B r q K : Nat) (rv nv : Value) (rs : List RW) (d : DS) (x : SS) (W : World) : Prop where
 all : ∃ rv' rs' tv kv lk ln, MidE w (fun b => nv.ownBlock = some b ∨ b = r) B q K rv rs d W rv' rs' ∧ RsAt W (refE E w.heap.size q K rv' rs') B r q tv kv nv x lk ln
theorem Und.still {E : Nat → Prop} {w W W' : World} {B r q K : Nat} {rv nv : Value} {rs : List RW} {d : DS} {x : SS} (h : Und E w B r q K rv nv rs d x W) (ho : Only (fun _ => False) W W') : Und E w B r q K rv nv rs d x W' := by
 obtain ⟨rv', rs', tv, kv, lk, ln, h1, h2⟩ := h.all
 exact ⟨rv', rs', tv, kv, lk, ln, h1.still ho, h2.still ho⟩
theorem Und.disk {E : Nat → Prop} {w W W2 : World} {B r q K : Nat} {rv nv : Value} {rs : List RW} {d d2 : DS} {x : SS} {rv' : Value} {rs' : List RW} {tv kv : Value} {lk ln : List RPg} (h1 : MidE w (fun b => nv.ownBlock = some b ∨ b = r) B q K rv rs d W rv' rs') (h2 : RsAt W (refE E w.heap.size q K rv' rs') B r q tv kv nv x lk ln) (h3 : RfIs W B q K rv' rs' d2 W2) : Und E w B r q K rv nv rs d2 x W2 := by
 obtain ⟨rv2, rs2, hm⟩ := h3
 refine ⟨rv2, rs2, tv, kv, lk, ln, h1.via hm, h2.frame hm.ho (fun _ _ e => .inl e) (fun k hk e => ?_)⟩
 rcases e with e | e
 ·rcases hm.sub k e with e | e
  ·exact .inl e
  ·omega
 ·exact .inr e
theorem Und.wpage {E : Nat → Prop} {w W : World} {B r q K : Nat} {rv nv : Value} {rs : List RW} {d : DS} {x : SS} (h : Und E w B r q K rv nv rs d x W) (hB : B ≤ w.heap.size) (hw : w.heap.size ≤ W.heap.size) (P : Int) (id : Nat) (v : Value) (D : List Nat) (hv : BytesAt W v D) (hid : id < 4294967296) (hp : d.pend.length ≤ 10000000000) (hb : ByteD d) (hg : Good d) :
  Calls Tryz.prog 91 #[.pointer (some ⟨q, 0, none⟩), .int .i64 P, .int .u32 id, v] W fun e W2 => e = .returned (.int .i64 (d.wpage P id D).1) ∧ Hid (Und E w B r q K rv nv rs (d.wpage P id D).2 x W2 ∧ ∀ b o u, (nv.ownBlock = some b ∨ b = r) → W.cell? ⟨b, o, none⟩ = some u → W2.cell? ⟨b, o, none⟩ = some u) := by
 obtain ⟨rv', rs', tv, kv, lk, ln, h1, h2⟩ := h.all
 refine ((MidR.start h1.ref).wpage (by omega) P id v D hv hid hp hb hg).mono ?_
 rintro e W2 ⟨rfl, h3⟩
 refine ⟨rfl, Und.disk h1 h2 h3.out, fun b o u hb' hc => ?_⟩
 obtain ⟨rv2, rs2, hm⟩ := h3.out
 refine hm.ho.cell hc (fun e => ?_)
 rcases hb' with hb' | hb'
 ·exact (h2.k2 b hb').2 (.inl e)
 ·exact h2.k1 (.inl (hb' ▸ e))
theorem Und.barrier {E : Nat → Prop} {w W : World} {B r q K : Nat} {rv nv : Value} {rs : List RW} {d : DS} {x : SS} (h : Und E w B r q K rv nv rs d x W) (hg : Good d) (hp : d.pend.length ≤ 140737488351232) :
  Calls Tryz.prog 72 #[.pointer (some ⟨q, 0, none⟩)] W fun e W2 => e = .returned (.int .i64 d.barrier.1) ∧ Hid (Und E w B r q K rv nv rs d.barrier.2 x W2) := by
 obtain ⟨rv', rs', tv, kv, lk, ln, h1, h2⟩ := h.all
 refine ((MidR.start h1.ref).barrier hg hp).mono ?_
 rintro e W2 ⟨rfl, h3⟩
 exact ⟨rfl, Und.disk h1 h2 h3.out⟩
theorem Und.put {E : Nat → Prop} {w W : World} {B r q K : Nat} {rv nv : Value} {rs : List RW} {d : DS} {x : SS} (h : Und E w B r q K rv nv rs d x W) (hB : B ≤ w.heap.size) (hw : w.heap.size ≤ W.heap.size) (a : Option Addr) (c : Nat) (k : Int) (f : Nat → Int) (hr : RowAt W (.slice a 32 c) 32 1 (fun j => .int .u8 (f j))) (hby : (d.pend.length + 1) * 72 ≤ 140737488355328) :
  Calls Tryz.prog 42 #[.pointer (some ⟨q, 0, none⟩), .int .i64 k, .slice a 32 c] W fun e W2 => e = .returned (.int .i64 (d.write k f 32).1) ∧ Hid (Und E w B r q K rv nv rs (d.write k f 32).2 x W2) := by
 obtain ⟨rv', rs', tv, kv, lk, ln, h1, h2⟩ := h.all
 refine ((MidR.start h1.ref).put (by omega) a 32 c k f hr hby (by omega)).mono ?_
 rintro e W2 ⟨rfl, h3⟩
 exact ⟨rfl, Und.disk h1 h2 h3.out⟩
theorem Und.layAt {E : Nat → Prop} {w W : World} {B r q K : Nat} {rv nv : Value} {rs : List RW} {d : DS} {x : SS} (h : Und E w B r q K rv nv rs d x W) (k a : Nat) (hk : k < x.now.length) (ha : 2 ≤ a ∧ a < x.size) :
  ∃ g c, nv = .slice (some ⟨g, 0, none⟩) x.now.length c ∧ W.cell? ⟨r, 5, none⟩ = some nv ∧ (∃ u, W.cell? ⟨g, k * 3 + 1, none⟩ = some u) ∧ W.frozen? ⟨g, k * 3 + 1, none⟩ = false ∧
    Und E w B r q K rv nv rs d { x with now := x.now.set k ((x.now[k]).1, a, (x.now[k]).2.2) } (W.setCell ⟨g, k * 3 + 1, none⟩ (.int .i64 (a : Nat))) := by
 obtain ⟨rv', rs', tv, kv, lk, ln, h1, h2⟩ := h.all
 obtain ⟨g, c, hnv, hu, hf, hgr, hgk, ln', h3, h4⟩ := h2.layAt (fun k e => by
  rcases e with e | e
  ·exact (h1.ref.lt k e).2
  ·exact Nat.lt_of_lt_of_le e.2 h1.ho.size) k a hk ha
 exact ⟨g, c, hnv, h2.c5, hu, hf, rv', rs', tv, kv, lk, ln', h1.set h4 (fun b _ e => .inl (by rw [hnv, e]; rfl)) (fun b e e' => hgk (.inl (e' ▸ e))), h3⟩
theorem Und.page {E : Nat → Prop} {w W : World} {B r q K : Nat} {rv nv : Value} {rs : List RW} {d : DS} {x : SS} (h : Und E w B r q K rv nv rs d x W) (k : Nat) (hk : k < x.now.length) :
  ∃ g c v, nv = .slice (some ⟨g, 0, none⟩) x.now.length c ∧ W.cell? ⟨r, 0, none⟩ = some (.pointer (some ⟨q, 0, none⟩)) ∧ W.cell? ⟨r, 5, none⟩ = some nv ∧ W.cell? ⟨g, k * 3, none⟩ = some (.int .i64 (x.now[k]).1) ∧ W.cell? ⟨g, k * 3 + 1, none⟩ = some (.int .i64 ((x.now[k]).2.1 : Nat)) ∧ W.cell? ⟨g, k * 3 + 2, none⟩ = some v ∧ BytesAt W v (x.now[k]).2.2 := by
 obtain ⟨rv', rs', tv, kv, lk, ln, h1, h2⟩ := h.all
 obtain ⟨a, c, hnv, _⟩ := h2.now.form
 have hl := h2.nowLen
 have hkl : k < ln.length := by omega
 have hn := h2.now
 rw [hnv] at hn
 obtain ⟨g, rfl, z0, z1, z2⟩ := hn.at k hkl
 have e : x.now[k] = (ln[k]).p := by
  have := h2.nowE
  simp only [← this, List.getElem_map]
 rw [e]
 exact ⟨g, c, _, by rw [hnv, hl], h2.c0, h2.c5, z0, z1, z2, (h2.now.dat _ (List.getElem_mem hkl)).1⟩
theorem Und.size {E : Nat → Prop} {w W : World} {B r q K : Nat} {rv nv : Value} {rs : List RW} {d : DS} {x : SS} (h : Und E w B r q K rv nv rs d x W) : w.heap.size ≤ W.heap.size := by
 obtain ⟨rv', rs', tv, kv, lk, ln, h1, h2⟩ := h.all
 exact h1.ho.size
theorem Und.cells {E : Nat → Prop} {w W : World} {B r q K : Nat} {rv nv : Value} {rs : List RW} {d : DS} {x : SS} (h : Und E w B r q K rv nv rs d x W) : W.cell? ⟨r, 0, none⟩ = some (.pointer (some ⟨q, 0, none⟩)) ∧ W.cell? ⟨r, 1, none⟩ = some (.int .i64 ((x.sector / 4 : Nat) : Int)) ∧ W.cell? ⟨r, 2, none⟩ = some (.int .u64 (x.epoch : Nat)) ∧ W.cell? ⟨r, 5, none⟩ = some nv ∧ (∀ j, j < 7 → W.frozen? ⟨r, j, none⟩ = false) ∧ (∃ a n c, nv = .slice a n c) := by
 obtain ⟨rv', rs', tv, kv, lk, ln, h1, h2⟩ := h.all
 obtain ⟨a, c, hnv, _⟩ := h2.now.form
 exact ⟨h2.c0, h2.c1, h2.c2, h2.c5, fun j hj => h2.fz j hj, a, _, c, hnv⟩
theorem Und.form {E : Nat → Prop} {w W : World} {B r q K : Nat} {rv nv : Value} {rs : List RW} {d : DS} {x : SS} (h : Und E w B r q K rv nv rs d x W) : ∃ a c, nv = .slice a x.now.length c := by
 obtain ⟨rv', rs', tv, kv, lk, ln, h1, h2⟩ := h.all
 exact h2.nowForm
theorem Und.ints {E : Nat → Prop} {w W : World} {B r q K : Nat} {rv nv : Value} {rs : List RW} {d : DS} {x : SS} (h : Und E w B r q K rv nv rs d x W) {v : Value} {A : List Nat} (hv : IntsAt w v A) (hb : ∀ b, v.ownBlock = some b → ¬ refB q K rv rs b ∧ nv.ownBlock ≠ some b ∧ b ≠ r) : IntsAt W v A := by
 obtain ⟨rv', rs', tv, kv, lk, ln, h1, h2⟩ := h.all
 exact RowAt.keep hv h1.ho (fun b e e' => by
  rcases e' with e' | e' | e'
  ·exact (hb b e).1 e'
  ·exact (hb b e).2.1 e'
  ·exact (hb b e).2.2 e')
theorem Und.bytes {E : Nat → Prop} {w W : World} {B r q K : Nat} {rv nv : Value} {rs : List RW} {d : DS} {x : SS} (h : Und E w B r q K rv nv rs d x W) {v : Value} {A : List Nat} (hv : BytesAt w v A) (hb : ∀ b, v.ownBlock = some b → ¬ refB q K rv rs b ∧ nv.ownBlock ≠ some b ∧ b ≠ r) : BytesAt W v A := by
 obtain ⟨rv', rs', tv, kv, lk, ln, h1, h2⟩ := h.all
 exact BytesAt.keep hv h1.ho (fun b e e' => by
  rcases e' with e' | e' | e'
  ·exact (hb b e).1 e'
  ·exact (hb b e).2.1 e'
  ·exact (hb b e).2.2 e')
theorem bytes_mid2 {w : World} {a : Option Addr} {T c : Nat} {zs : List Nat} (h : BytesAt w (.slice a T c) zs) (hT : T = zs.length) (p e : Nat) (hp : p < e) (he : e ≤ T) :
  ∃ g o, a = some ⟨g, o, none⟩ ∧ T ≤ c ∧ BytesAt w (.slice (some ⟨g, o + p, none⟩) (e - p) (c - p)) ((zs.drop p).take (e - p)) := by
 obtain ⟨a', c', hv, hcap, hc⟩ := h.form
 simp only [Value.slice.injEq] at hv
 obtain ⟨rfl, _, rfl⟩ := hv
 obtain ⟨g, o, rfl, _⟩ := hc 0 (by omega)
 have hl : ((zs.drop p).take (e - p)).length = e - p := by simp; omega
 refine ⟨g, o, rfl, by omega, ⟨?_, by rw [hl]; have := h.2.1; omega, fun z hz => h.2.2 z (List.mem_of_mem_drop (List.mem_of_mem_take hz))⟩⟩
 rw [hl]
 refine .inr ⟨⟨g, o + p, none⟩, c - p, rfl, by omega, fun j hj => ?_⟩
 obtain ⟨g', o', he', hcell⟩ := hc (p + j) (by omega)
 simp only [Option.some.injEq, Addr.mk.injEq, and_true] at he'
 obtain ⟨rfl, rfl⟩ := he'
 rw [Addr.add_mid, Nat.add_assoc, hcell]
 have hj' : j < e - p := by omega
 simp [List.getD, hj']
section
variable {w : World} {rk : Nat → Prop} {B r q : Nat} {tv kv nv : Value} {x : SS} {lk ln : List RPg}
theorem RsAt.ofCells {w1 : World} (h : RsAt w rk B r q tv kv nv x lk ln) (ho : Only (fun b => b = r) w w1) (tv' kv' : Value) (x' : SS) (lk' : List RPg) (hc : w1.rangeAt r 0 (rsL q x' tv' kv' nv false)) (ht : w1.there r 0 7)
  (htabs : RowAt w1 tv' x'.tabs.length 1 (fun j => .int .i64 (x'.tabs.getD j 0 : Nat))) (htB : ∀ b, tv'.ownBlock = some b → b < w1.heap.size ∧ ¬ muR rk r nv b) (hkB : ∀ b, kv'.ownBlock = some b → ¬ muR rk r nv b) (hk : PgsAt w1 B (muR rk r nv) kv' lk') (hkE : lk'.map RPg.p = x'.com) (hkR : Rise x'.com) (hnow : x'.now = x.now) (hw : x'.Wf) :
  RsAt w1 rk B r q tv' kv' nv x' lk' ln :=
 { cells := hc, there := ht, rB := h.rB, k1 := h.k1, k2 := h.k2, tabs := htabs, tabsB := htB, keptB := hkB, kept := hk
   now := h.now.frame ho (fun b e e' => (h.k2 b e).1 e') (fun k _ e => .inl e) (fun _ _ e => e)
   comE := hkE, nowE := by rw [hnow]; exact h.nowE, comR := hkR, nowR := by rw [hnow]; exact h.nowR, wf := hw }
theorem RsAt.setTabs (h : RsAt w rk B r q tv kv nv x lk ln) (a : Option Addr) (T : List Nat) (c : Nat) (ht : IntsAt w (.slice a T.length c) T) (hb : ∀ b, (Value.slice a T.length c).ownBlock = some b → b < w.heap.size ∧ ¬ muR rk r nv b) (hw : SS.Wf { x with tabs := T }) :
  RsAt (w.setCell ⟨r, 3, none⟩ (.slice a T.length c)) rk B r q (.slice a T.length c) kv nv { x with tabs := T } lk ln ∧ Only (fun b => b = r) w (w.setCell ⟨r, 3, none⟩ (.slice a T.length c)) := by
 have oo : Only (fun b => b = r) w (w.setCell ⟨r, 3, none⟩ (.slice a T.length c)) := (Only.refl (fun b => b = r) w).setCell _ _ (fun _ => rfl)
 refine ⟨h.ofCells oo _ _ { x with tabs := T } lk ?_ (there_set h.there (h.cells 3 _ rfl) _) (RowAt.keep ht oo (fun b e e' => (hb b e).2 (.inl e'))) (fun b e => ⟨Nat.lt_of_lt_of_le (hb b e).1 oo.size, (hb b e).2⟩) h.keptB
  (h.kept.frame oo (fun b e e' => h.keptB b e (.inl e')) (fun k _ e => .inl e) (fun _ _ e => e)) h.comE h.comR rfl hw, oo⟩
 exact range_set h.cells (j := 3) (by simp [rsL]) _
theorem RsAt.setEpoch (h : RsAt w rk B r q tv kv nv x lk ln) (ep : Nat) (hw : SS.Wf { x with epoch := ep }) :
  RsAt (w.setCell ⟨r, 2, none⟩ (.int .u64 (ep : Nat))) rk B r q tv kv nv { x with epoch := ep } lk ln ∧ Only (fun b => b = r) w (w.setCell ⟨r, 2, none⟩ (.int .u64 (ep : Nat))) := by
 have oo : Only (fun b => b = r) w (w.setCell ⟨r, 2, none⟩ (.int .u64 (ep : Nat))) := (Only.refl (fun b => b = r) w).setCell _ _ (fun _ => rfl)
 refine ⟨h.ofCells oo _ _ { x with epoch := ep } lk ?_ (there_set h.there (h.cells 2 _ rfl) _) (h.tabs.keep oo (fun b e e' => (h.tabsB b e).2 (.inl e'))) (fun b e => ⟨Nat.lt_of_lt_of_le (h.tabsB b e).1 oo.size, (h.tabsB b e).2⟩) h.keptB
  (h.kept.frame oo (fun b e e' => h.keptB b e (.inl e')) (fun k _ e => .inl e) (fun _ _ e => e)) h.comE h.comR rfl hw, oo⟩
 exact range_set h.cells (j := 2) (by simp [rsL]) _
theorem RsAt.setSector (h : RsAt w rk B r q tv kv nv x lk ln) (sc : Nat) (hw : SS.Wf { x with sector := sc }) :
  RsAt (w.setCell ⟨r, 1, none⟩ (.int .i64 ((sc / 4 : Nat) : Int))) rk B r q tv kv nv { x with sector := sc } lk ln ∧ Only (fun b => b = r) w (w.setCell ⟨r, 1, none⟩ (.int .i64 ((sc / 4 : Nat) : Int))) := by
 have oo : Only (fun b => b = r) w (w.setCell ⟨r, 1, none⟩ (.int .i64 ((sc / 4 : Nat) : Int))) := (Only.refl (fun b => b = r) w).setCell _ _ (fun _ => rfl)
 refine ⟨h.ofCells oo _ _ { x with sector := sc } lk ?_ (there_set h.there (h.cells 1 _ rfl) _) (h.tabs.keep oo (fun b e e' => (h.tabsB b e).2 (.inl e'))) (fun b e => ⟨Nat.lt_of_lt_of_le (h.tabsB b e).1 oo.size, (h.tabsB b e).2⟩) h.keptB
  (h.kept.frame oo (fun b e e' => h.keptB b e (.inl e')) (fun k _ e => .inl e) (fun _ _ e => e)) h.comE h.comR rfl hw, oo⟩
 exact range_set h.cells (j := 1) (by simp [rsL]) _
theorem RsAt.setKept (h : RsAt w rk B r q tv kv nv x lk ln) (kv' : Value) (lk' : List RPg) (hk : PgsAt w B (muR rk r nv) kv' lk') (hkB : ∀ b, kv'.ownBlock = some b → ¬ muR rk r nv b) (hkE : lk'.map RPg.p = x.now) (hw : SS.Wf { x with com := x.now }) :
  RsAt (w.setCell ⟨r, 4, none⟩ kv') rk B r q tv kv' nv { x with com := x.now } lk' ln ∧ Only (fun b => b = r) w (w.setCell ⟨r, 4, none⟩ kv') := by
 have oo : Only (fun b => b = r) w (w.setCell ⟨r, 4, none⟩ kv') := (Only.refl (fun b => b = r) w).setCell _ _ (fun _ => rfl)
 refine ⟨h.ofCells oo _ _ { x with com := x.now } lk' ?_ (there_set h.there (h.cells 4 _ rfl) _) (h.tabs.keep oo (fun b e e' => (h.tabsB b e).2 (.inl e'))) (fun b e => ⟨Nat.lt_of_lt_of_le (h.tabsB b e).1 oo.size, (h.tabsB b e).2⟩) hkB
  (hk.frame oo (fun b e e' => hkB b e (.inl e')) (fun k _ e => .inl e) (fun _ _ e => e)) hkE h.nowR rfl hw, oo⟩
 exact range_set h.cells (j := 4) (by simp [rsL]) _
end
section
variable {E : Nat → Prop} {w W : World} {B r q K : Nat} {rv nv : Value} {rs : List RW} {d : DS} {x : SS}
theorem Und.setTabs {W2 : World} (h : Und E w B r q K rv nv rs d x W) (ho : Only (fun _ => False) W W2) (a : Option Addr) (T : List Nat) (c : Nat) (ht : FreshI W2 W.heap.size (.slice a T.length c) T) (hw : SS.Wf { x with tabs := T }) :
  Und E w B r q K rv nv rs d { x with tabs := T } (W2.setCell ⟨r, 3, none⟩ (.slice a T.length c)) := by
 obtain ⟨rv', rs', tv, kv, lk, ln, h1, h2⟩ := h.all
 have h2' := h2.still ho
 obtain ⟨q1, q2⟩ := h2'.setTabs a T c ht.ints (fun b e => ⟨(ht.1.lt b e).2, fun e' => by
  have := (ht.1.lt b e).1
  rcases e' with e' | e' | e'
  ·have := h2.lt; omega
  ·have := (h2.now.lt b e').2; omega
  ·rcases e' with e' | e'
   ·have := (h1.ref.lt b e').2; omega
   ·have := h1.ho.size; omega⟩) hw
 exact ⟨rv', rs', _, kv, lk, ln, (h1.still ho).set q2 (fun b _ e => .inr e) (fun b e e' => h2.k1 (.inl (e' ▸ e))), q1⟩
theorem Und.setEpoch (h : Und E w B r q K rv nv rs d x W) (ep : Nat) (hw : SS.Wf { x with epoch := ep }) :
  Und E w B r q K rv nv rs d { x with epoch := ep } (W.setCell ⟨r, 2, none⟩ (.int .u64 (ep : Nat))) := by
 obtain ⟨rv', rs', tv, kv, lk, ln, h1, h2⟩ := h.all
 obtain ⟨q1, q2⟩ := h2.setEpoch ep hw
 exact ⟨rv', rs', tv, kv, lk, ln, h1.set q2 (fun b _ e => .inr e) (fun b e e' => h2.k1 (.inl (e' ▸ e))), q1⟩
theorem Und.setSector (h : Und E w B r q K rv nv rs d x W) (sc : Nat) (hw : SS.Wf { x with sector := sc }) :
  Und E w B r q K rv nv rs d { x with sector := sc } (W.setCell ⟨r, 1, none⟩ (.int .i64 ((sc / 4 : Nat) : Int))) := by
 obtain ⟨rv', rs', tv, kv, lk, ln, h1, h2⟩ := h.all
 obtain ⟨q1, q2⟩ := h2.setSector sc hw
 exact ⟨rv', rs', tv, kv, lk, ln, h1.set q2 (fun b _ e => .inr e) (fun b e e' => h2.k1 (.inl (e' ▸ e))), q1⟩
theorem Und.copied (h : Und E w B r q K rv nv rs d x W) (hB : B ≤ w.heap.size) (hw : SS.Wf { x with com := x.now }) :
  Calls Tryz.prog 62 #[nv] W fun e W2 => ∃ a c, e = .returned (.slice a x.now.length c) ∧ Hid (Und E w B r q K rv nv rs d { x with com := x.now } (W2.setCell ⟨r, 4, none⟩ (.slice a x.now.length c)) ∧ Only (fun _ => False) W W2) := by
 obtain ⟨rv', rs', tv, kv, lk, ln, h1, h2⟩ := h.all
 have hl := h2.nowLen
 have hws := h1.ho.size
 refine (copied_any nv ln B _ W h2.now (by have := h2.nowS; omega)).mono ?_
 rintro e W2 ⟨a, c, ys, rfl, H⟩
 obtain ⟨q1, q2, q3⟩ := H.out
 rw [hl] at q1 ⊢
 refine ⟨a, c, rfl, ?_, q3⟩
 have h2' := h2.still q3
 have hmu : ∀ b, W.heap.size ≤ b → ¬ muR (refE E w.heap.size q K rv' rs') r nv b := fun b hb e => by
  rcases e with e | e | e
  ·have := h2.lt; omega
  ·have := (h2.now.lt b e).2; omega
  ·rcases e with e | e
   ·have := (h1.ref.lt b e).2; omega
   ·omega
 obtain ⟨p1, p2⟩ := h2'.setKept (.slice a x.now.length c) ys ((q1.less (by omega)).av (fun k hk e => .inl (by
  rcases Nat.lt_or_ge k W.heap.size with e' | e'
  ·exact e'
  ·exact absurd e (hmu k e')))) (fun b e => hmu b (q1.lt b e).1) (by rw [q2, h2.nowE]) hw
 exact ⟨rv', rs', tv, _, ys, ln, (h1.still q3).set p2 (fun b _ e => .inr e) (fun b e e' => h2.k1 (.inl (e' ▸ e))), p1⟩
theorem Und.root (h : Und E w B r q K rv nv rs d x W) :
  Calls Tryz.prog 73 #[.pointer (some ⟨r, 0, none⟩)] W fun e w' => ∃ a c, e = .returned (.slice a 32 c) ∧ Hid (Fresh w' W.heap.size (.slice a 32 c) (rootB x.epoch (x.tabs.getD 0 0) x.tabs.length) ∧ Only (fun _ => False) W w') := by
 obtain ⟨rv', rs', tv, kv, lk, ln, h1, h2⟩ := h.all
 exact rroot2_any r x.epoch tv x.tabs W h2.c2 h2.c3 h2.tabs h2.wf.epoch h2.wf.tabs.1 (fun t ht => by have := (h2.wf.tabs.2 t ht).2; have := h2.wf.size; omega)
end
end Go.Proofs.YtlcglapcmdpkfaaGreat
