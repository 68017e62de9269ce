import Derived.Test.YtlcglapcmdpkfaaGreatG13
import Derived.Test.YtlcglapcmdpkfaaGreatG7
namespace Go.Proofs.YtlcglapcmdpkfaaGreat
open Go.RowKit
set_option linter.unusedSimpArgs false
set_option linter.unusedVariables false
theorem rpgL_setAt (l : List RPg) (k a : Nat) (hk : k < l.length) : (rpgL l).set (k * 3 + 1) (.int .i64 (a : Nat)) = rpgL (l.set k ⟨(l[k]).i, a, (l[k]).b, (l[k]).v⟩) := by
 rw [← rpgL_set l k ⟨(l[k]).i, a, (l[k]).b, (l[k]).v⟩ hk]
 have h0 := rpgL_get l k hk 0 (by omega)
 have h2 := rpgL_get l k hk 2 (by omega)
 simp only [RPg.cells, List.getElem?_cons_zero, List.getElem?_cons_succ, Nat.add_zero] at h0 h2
 have l0 : k * 3 + 2 < (rpgL l).length := by rw [rpgL_length]; omega
 have e0 : (rpgL l).set (k * 3) (.int .i64 (l[k]).i) = rpgL l := by
  apply List.ext_getElem?
  intro q
  rw [List.getElem?_set]
  split
  ·rename_i e
   subst e
   rw [h0, if_pos (by omega)]
  ·rfl
 simp only
 rw [e0]
 apply List.ext_getElem?
 intro q
 rw [List.getElem?_set (i := k * 3 + 2)]
 split
 ·rename_i e
  subst e
  rw [List.getElem?_set, if_neg (by omega), h2, if_pos (by simpa using l0)]
 ·rfl
section
variable {w : World} {rk : Nat → Prop} {B r q : Nat} {tv kv nv : Value} {x : SS} {lk ln : List RPg}
theorem RsAt.inPlace {w1 : World} (h : RsAt w rk B r q tv kv nv x lk ln) (hrk : ∀ k, rk k → k < w.heap.size) (ho : Only (fun b => nv.ownBlock = some b) w w1) (ln' : List RPg) (l' : Pgs)
  (hp : PgsAt w1 B (fun k => (k = r ∨ rk k) ∨ nv.ownBlock = some k) nv ln') (he : ln'.map RPg.p = l') (hr : Rise l') (hw : ∀ p ∈ l', (0 ≤ p.1 ∧ p.1 < 728) ∧ (p.2.1 = 0 ∨ 2 ≤ p.2.1 ∧ p.2.1 < x.size) ∧ p.2.2.length ≤ 116) :
  RsAt w1 rk B r q tv kv nv { x with now := l' } lk ln' := by
 obtain ⟨q1, q2⟩ := h.setNow hrk ho nv ln' l' hp (fun b e => .inl e) he hr hw
 have nr : ¬ nv.ownBlock = some r := fun e => (h.k2 r e).1 rfl
 have hcell : w1.cell? ⟨r, 5, none⟩ = some nv := ho.cell h.c5 nr
 have od : Only (fun _ => False) (w1.setCell ⟨r, 5, none⟩ nv) w1 := ⟨rfl, rfl, rfl, by simp [World.setCell], fun j hj _ => (setCell_self w1 _ _ hcell j).symm⟩
 exact q1.still od
theorem RsAt.layAt (h : RsAt w rk B r q tv kv nv x lk ln) (hrk : ∀ k, rk k → k < w.heap.size) (k a : Nat) (hk : k < x.now.length) (ha : 2 ≤ a ∧ a < x.size) :
  ∃ g c, nv = .slice (some ⟨g, 0, none⟩) x.now.length c ∧ (∃ u, w.cell? ⟨g, k * 3 + 1, none⟩ = some u) ∧ w.frozen? ⟨g, k * 3 + 1, none⟩ = false ∧ g ≠ r ∧ ¬ rk g ∧
    ∃ ln', RsAt (w.setCell ⟨g, k * 3 + 1, none⟩ (.int .i64 (a : Nat))) rk B r q tv kv nv { x with now := x.now.set k ((x.now[k]).1, a, (x.now[k]).2.2) } lk ln' ∧ Only (fun b => b = g) w (w.setCell ⟨g, k * 3 + 1, none⟩ (.int .i64 (a : Nat))) := by
 obtain ⟨an, cn, hnv, hcn⟩ := h.now.form
 have hl := h.nowLen
 have hkl : k < ln.length := by omega
 have hnow := h.now
 rw [hnv] at hnow
 obtain ⟨g, rfl, hcells, hfz⟩ := hnow.get k hkl
 obtain ⟨u, _, hu⟩ := hcells 1 (by omega)
 have hgk := h.k2 g (by rw [hnv]; rfl)
 have e : x.now[k] = (ln[k]).p := by
  have := h.nowE
  simp only [← this, List.getElem_map]
 have oo : Only (fun b => b = g) w (w.setCell ⟨g, k * 3 + 1, none⟩ (.int .i64 (a : Nat))) := (Only.refl (fun b => b = g) w).setCell _ _ (fun _ => rfl)
 have oo2 : Only (fun b => nv.ownBlock = some b) w (w.setCell ⟨g, k * 3 + 1, none⟩ (.int .i64 (a : Nat))) := oo.mono (fun b _ e => by rw [hnv, e]; rfl)
 refine ⟨g, cn, by rw [hnv, hl], ⟨u, hu⟩, hfz 1 (by omega), hgk.1, hgk.2, ln.set k ⟨(ln[k]).i, a, (ln[k]).b, (ln[k]).v⟩, ?_, oo⟩
 refine h.inPlace hrk oo2 _ _ ⟨?_, fun y hy => ?_⟩ ?_ ?_ ?_
 ·have h1 := own_set hnow.own (k * 3 + 1) (by omega) (.int .i64 (a : Nat))
  rw [rpgL_setAt ln k a hkl] at h1
  rw [List.length_set, hnv]
  exact h1
 ·have key : ∀ z : RPg, z ∈ ln → BytesAt (w.setCell ⟨g, k * 3 + 1, none⟩ (.int .i64 (a : Nat))) z.v z.b ∧ ∀ b, z.v.ownBlock = some b → b < (w.setCell ⟨g, k * 3 + 1, none⟩ (.int .i64 (a : Nat))).heap.size ∧ ¬ ((b = r ∨ rk b) ∨ nv.ownBlock = some b) := fun z hz =>
   ⟨(h.now.dat z hz).1.keep oo (fun b e e' => ((h.now.dat z hz).2 b e).2 (.inr (.inl (by rw [hnv, e']; rfl)))), fun b e => ⟨Nat.lt_of_lt_of_le ((h.now.dat z hz).2 b e).1 oo.size, fun e' => ((h.now.dat z hz).2 b e).2 (by
     rcases e' with (e' | e') | e'
     ·exact .inl e'
     ·exact .inr (.inr e')
     ·exact .inr (.inl e'))⟩⟩
  rcases List.mem_or_eq_of_mem_set hy with hy | rfl
  ·exact key y hy
  ·exact key (ln[k]) (List.getElem_mem hkl)
 ·rw [List.map_set, h.nowE, e]
  rfl
 ·refine h.nowR.keys ?_
  rw [List.map_set]
  apply List.ext_getElem?
  intro j
  rw [List.getElem?_set]
  split
  ·rename_i e'
   subst e'
   rw [List.getElem?_map, List.getElem?_eq_getElem hk]
   simp [hk]
  ·rfl
 ·intro p hp
  rcases List.mem_or_eq_of_mem_set hp with hp | rfl
  ·exact h.wf.now p hp
  ·have := h.wf.now _ (List.getElem_mem hk)
   exact ⟨this.1, .inr ha, this.2.2⟩
end
def layTo (l : Pgs) (A : List Nat) (k : Nat) : Pgs := layP (l.take k) A ++ l.drop k
theorem layTo_zero (l : Pgs) (A : List Nat) : layTo l A 0 = l := by simp [layTo, layP, layK]
theorem layTo_all (l : Pgs) (A : List Nat) (k : Nat) (h : l.length ≤ k) : layTo l A k = layP l A := by
 unfold layTo
 rw [List.take_of_length_le h, List.drop_eq_nil_of_le h, List.append_nil]
theorem layTo_length (l : Pgs) (A : List Nat) (k : Nat) : (layTo l A k).length = l.length := by
 unfold layTo
 rw [List.length_append, layP_length]
 simp; omega
theorem layTo_get {l : Pgs} (A : List Nat) {k : Nat} (h : k < l.length) : (layTo l A k)[k]? = some (l[k]) := by
 unfold layTo
 have e : (layP (l.take k) A).length = k := by rw [layP_length]; simp; omega
 rw [List.getElem?_append_right (by omega), e, Nat.sub_self, List.getElem?_drop, Nat.add_zero, List.getElem?_eq_getElem h]
theorem layTo_succ {l : Pgs} (A : List Nat) {k : Nat} (h : k < l.length) : layTo l A (k + 1) = (layTo l A k).set k (if (l[k]).2.1 = 0 then ((l[k]).1, A.getD (freshN (l.take k)).length 0, (l[k]).2.2) else l[k]) := by
 unfold layTo
 have e : (layP (l.take k) A).length = k := by rw [layP_length]; simp; omega
 rw [List.take_succ_eq_append_getElem h, layP_snoc, List.set_append_right _ _ (by omega), e, Nat.sub_self, List.drop_eq_getElem_cons h, List.set_cons_zero, List.append_assoc]
 rfl
theorem layTo_keep {l : Pgs} (A : List Nat) {k : Nat} (h : k < l.length) (h0 : (l[k]).2.1 ≠ 0) : layTo l A (k + 1) = layTo l A k := by
 rw [layTo_succ A h, if_neg h0]
 apply List.ext_getElem?
 intro j
 rw [List.getElem?_set]
 split
 ·rename_i e
  subst e
  rw [layTo_get A h, if_pos (by rw [layTo_length]; exact h)]
 ·rfl
theorem freshN_succ {l : Pgs} {k : Nat} (h : k < l.length) : freshN (l.take (k + 1)) = if (l[k]).2.1 = 0 then freshN (l.take k) ++ [(l[k]).1.toNat] else freshN (l.take k) := by
 rw [List.take_succ_eq_append_getElem h]
 unfold freshN
 rw [List.filter_append, List.map_append]
 by_cases e : (l[k]).2.1 = 0
 ·rw [if_pos e]; simp only [List.filter_cons, e, beq_self_eq_true, if_true, List.filter_nil, List.map_cons, List.map_nil]
 ·have e' : ((l[k]).2.1 == 0) = false := by simpa using e
  rw [if_neg e]; simp only [List.filter_cons, e', Bool.false_eq_true, if_false, List.filter_nil, List.map_nil, List.append_nil]
theorem layP_at {l : Pgs} (hr : Rise l) (A : List Nat) {k : Nat} (h : k < l.length) (h0 : (l[k]).2.1 = 0) : pgAt (layP l A) (l[k]).1 = some (A.getD (freshN (l.take k)).length 0, (l[k]).2.2) := by
 have e1 : layP l A = layTo (layP l A) [] 0 := (layTo_zero _ _).symm
 have hk1 : (layTo l A (k + 1))[k]? = some ((l[k]).1, A.getD (freshN (l.take k)).length 0, (l[k]).2.2) := by
  rw [layTo_succ A h, if_pos h0, List.getElem?_set, if_pos rfl, if_pos (by rw [layTo_length]; exact h)]
 have hpre : ∀ n, k < n → n ≤ l.length → (layTo l A n)[k]? = (layTo l A (k + 1))[k]? := by
  intro n hn
  induction n with
  | zero => omega
  | succ n ih =>
    intro hn2
    by_cases e : n = k
    ·subst e; rfl
    ·rw [layTo_succ A (by omega), List.getElem?_set, if_neg (by omega)]
     exact ih (by omega) (by omega)
 have hall := hpre l.length h (Nat.le_refl _)
 rw [layTo_all l A _ (Nat.le_refl _), hk1] at hall
 have hmem : ((l[k]).1, A.getD (freshN (l.take k)).length 0, (l[k]).2.2) ∈ layP l A := List.mem_of_getElem? hall
 exact (getL_mem (layP_rise hr A) _ _).2 hmem
end Go.Proofs.YtlcglapcmdpkfaaGreat
