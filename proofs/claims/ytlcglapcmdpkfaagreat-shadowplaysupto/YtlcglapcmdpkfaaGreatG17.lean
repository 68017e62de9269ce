import Derived.Test.YtlcglapcmdpkfaaGreatG15
namespace Go.Proofs.YtlcglapcmdpkfaaGreat
open Go.RowKit
set_option linter.unusedSimpArgs false
set_option linter.unusedVariables false
section
variable {w : World} {rk : Nat → Prop} {B r q : Nat} {tv kv nv : Value} {x : SS} {lk ln : List RPg}
theorem RsAt.ofCells {w1 : World} (h : RsAt w rk B r q tv kv nv x lk ln) (ho : Only (fun b => b = r) w w1) (tv' kv' : Value) (x' : SS) (lk' : List RPg) (hc : w1.rangeAt r 0 (rsL q x' tv' kv' nv false)) (ht : w1.there r 0 7)
  (htabs : RowAt w1 tv' x'.tabs.length 1 (fun j => .int .i64 (x'.tabs.getD j 0 : Nat))) (htB : ∀ b, tv'.ownBlock = some b → b < w1.heap.size ∧ ¬ muR rk r nv b) (hkB : ∀ b, kv'.ownBlock = some b → ¬ muR rk r nv b) (hk : PgsAt w1 B (muR rk r nv) kv' lk') (hkE : lk'.map RPg.p = x'.com) (hkR : Rise x'.com) (hnow : x'.now = x.now) (hw : x'.Wf) :
  RsAt w1 rk B r q tv' kv' nv x' lk' ln :=
 { cells := hc, there := ht, rB := h.rB, k1 := h.k1, k2 := h.k2, tabs := htabs, tabsB := htB, keptB := hkB, kept := hk
   now := h.now.frame ho (fun b e e' => (h.k2 b e).1 e') (fun k _ e => .inl e) (fun _ _ e => e)
   comE := hkE, nowE := by rw [hnow]; exact h.nowE, comR := hkR, nowR := by rw [hnow]; exact h.nowR, wf := hw }
theorem RsAt.setTabs (h : RsAt w rk B r q tv kv nv x lk ln) (a : Option Addr) (T : List Nat) (c : Nat) (ht : IntsAt w (.slice a T.length c) T) (hb : ∀ b, (Value.slice a T.length c).ownBlock = some b → b < w.heap.size ∧ ¬ muR rk r nv b) (hw : SS.Wf { x with tabs := T }) :
  RsAt (w.setCell ⟨r, 3, none⟩ (.slice a T.length c)) rk B r q (.slice a T.length c) kv nv { x with tabs := T } lk ln ∧ Only (fun b => b = r) w (w.setCell ⟨r, 3, none⟩ (.slice a T.length c)) := by
 have oo : Only (fun b => b = r) w (w.setCell ⟨r, 3, none⟩ (.slice a T.length c)) := (Only.refl (fun b => b = r) w).setCell _ _ (fun _ => rfl)
 refine ⟨h.ofCells oo _ _ { x with tabs := T } lk ?_ (there_set h.there (h.cells 3 _ rfl) _) (RowAt.keep ht oo (fun b e e' => (hb b e).2 (.inl e'))) (fun b e => ⟨Nat.lt_of_lt_of_le (hb b e).1 oo.size, (hb b e).2⟩) h.keptB
  (h.kept.frame oo (fun b e e' => h.keptB b e (.inl e')) (fun k _ e => .inl e) (fun _ _ e => e)) h.comE h.comR rfl hw, oo⟩
 exact range_set h.cells (j := 3) (by simp [rsL]) _
theorem RsAt.setEpoch (h : RsAt w rk B r q tv kv nv x lk ln) (ep : Nat) (hw : SS.Wf { x with epoch := ep }) :
  RsAt (w.setCell ⟨r, 2, none⟩ (.int .u64 (ep : Nat))) rk B r q tv kv nv { x with epoch := ep } lk ln ∧ Only (fun b => b = r) w (w.setCell ⟨r, 2, none⟩ (.int .u64 (ep : Nat))) := by
 have oo : Only (fun b => b = r) w (w.setCell ⟨r, 2, none⟩ (.int .u64 (ep : Nat))) := (Only.refl (fun b => b = r) w).setCell _ _ (fun _ => rfl)
 refine ⟨h.ofCells oo _ _ { x with epoch := ep } lk ?_ (there_set h.there (h.cells 2 _ rfl) _) (h.tabs.keep oo (fun b e e' => (h.tabsB b e).2 (.inl e'))) (fun b e => ⟨Nat.lt_of_lt_of_le (h.tabsB b e).1 oo.size, (h.tabsB b e).2⟩) h.keptB
  (h.kept.frame oo (fun b e e' => h.keptB b e (.inl e')) (fun k _ e => .inl e) (fun _ _ e => e)) h.comE h.comR rfl hw, oo⟩
 exact range_set h.cells (j := 2) (by simp [rsL]) _
theorem RsAt.setSector (h : RsAt w rk B r q tv kv nv x lk ln) (sc : Nat) (hw : SS.Wf { x with sector := sc }) :
  RsAt (w.setCell ⟨r, 1, none⟩ (.int .i64 ((sc / 4 : Nat) : Int))) rk B r q tv kv nv { x with sector := sc } lk ln ∧ Only (fun b => b = r) w (w.setCell ⟨r, 1, none⟩ (.int .i64 ((sc / 4 : Nat) : Int))) := by
 have oo : Only (fun b => b = r) w (w.setCell ⟨r, 1, none⟩ (.int .i64 ((sc / 4 : Nat) : Int))) := (Only.refl (fun b => b = r) w).setCell _ _ (fun _ => rfl)
 refine ⟨h.ofCells oo _ _ { x with sector := sc } lk ?_ (there_set h.there (h.cells 1 _ rfl) _) (h.tabs.keep oo (fun b e e' => (h.tabsB b e).2 (.inl e'))) (fun b e => ⟨Nat.lt_of_lt_of_le (h.tabsB b e).1 oo.size, (h.tabsB b e).2⟩) h.keptB
  (h.kept.frame oo (fun b e e' => h.keptB b e (.inl e')) (fun k _ e => .inl e) (fun _ _ e => e)) h.comE h.comR rfl hw, oo⟩
 exact range_set h.cells (j := 1) (by simp [rsL]) _
theorem RsAt.setKept (h : RsAt w rk B r q tv kv nv x lk ln) (kv' : Value) (lk' : List RPg) (hk : PgsAt w B (muR rk r nv) kv' lk') (hkB : ∀ b, kv'.ownBlock = some b → ¬ muR rk r nv b) (hkE : lk'.map RPg.p = x.now) (hw : SS.Wf { x with com := x.now }) :
  RsAt (w.setCell ⟨r, 4, none⟩ kv') rk B r q tv kv' nv { x with com := x.now } lk' ln ∧ Only (fun b => b = r) w (w.setCell ⟨r, 4, none⟩ kv') := by
 have oo : Only (fun b => b = r) w (w.setCell ⟨r, 4, none⟩ kv') := (Only.refl (fun b => b = r) w).setCell _ _ (fun _ => rfl)
 refine ⟨h.ofCells oo _ _ { x with com := x.now } lk' ?_ (there_set h.there (h.cells 4 _ rfl) _) (h.tabs.keep oo (fun b e e' => (h.tabsB b e).2 (.inl e'))) (fun b e => ⟨Nat.lt_of_lt_of_le (h.tabsB b e).1 oo.size, (h.tabsB b e).2⟩) hkB
  (hk.frame oo (fun b e e' => hkB b e (.inl e')) (fun k _ e => .inl e) (fun _ _ e => e)) hkE h.nowR rfl hw, oo⟩
 exact range_set h.cells (j := 4) (by simp [rsL]) _
end
section
variable {E : Nat → Prop} {w W : World} {B r q K : Nat} {rv nv : Value} {rs : List RW} {d : DS} {x : SS}
theorem Und.setTabs {W2 : World} (h : Und E w B r q K rv nv rs d x W) (ho : Only (fun _ => False) W W2) (a : Option Addr) (T : List Nat) (c : Nat) (ht : FreshI W2 W.heap.size (.slice a T.length c) T) (hw : SS.Wf { x with tabs := T }) :
  Und E w B r q K rv nv rs d { x with tabs := T } (W2.setCell ⟨r, 3, none⟩ (.slice a T.length c)) := by
 obtain ⟨rv', rs', tv, kv, lk, ln, h1, h2⟩ := h.all
 have h2' := h2.still ho
 obtain ⟨q1, q2⟩ := h2'.setTabs a T c ht.ints (fun b e => ⟨(ht.1.lt b e).2, fun e' => by
  have := (ht.1.lt b e).1
  rcases e' with e' | e' | e'
  ·have := h2.lt; omega
  ·have := (h2.now.lt b e').2; omega
  ·rcases e' with e' | e'
   ·have := (h1.ref.lt b e').2; omega
   ·have := h1.ho.size; omega⟩) hw
 exact ⟨rv', rs', _, kv, lk, ln, (h1.still ho).set q2 (fun b _ e => .inr e) (fun b e e' => h2.k1 (.inl (e' ▸ e))), q1⟩
theorem Und.setEpoch (h : Und E w B r q K rv nv rs d x W) (ep : Nat) (hw : SS.Wf { x with epoch := ep }) :
  Und E w B r q K rv nv rs d { x with epoch := ep } (W.setCell ⟨r, 2, none⟩ (.int .u64 (ep : Nat))) := by
 obtain ⟨rv', rs', tv, kv, lk, ln, h1, h2⟩ := h.all
 obtain ⟨q1, q2⟩ := h2.setEpoch ep hw
 exact ⟨rv', rs', tv, kv, lk, ln, h1.set q2 (fun b _ e => .inr e) (fun b e e' => h2.k1 (.inl (e' ▸ e))), q1⟩
theorem Und.setSector (h : Und E w B r q K rv nv rs d x W) (sc : Nat) (hw : SS.Wf { x with sector := sc }) :
  Und E w B r q K rv nv rs d { x with sector := sc } (W.setCell ⟨r, 1, none⟩ (.int .i64 ((sc / 4 : Nat) : Int))) := by
 obtain ⟨rv', rs', tv, kv, lk, ln, h1, h2⟩ := h.all
 obtain ⟨q1, q2⟩ := h2.setSector sc hw
 exact ⟨rv', rs', tv, kv, lk, ln, h1.set q2 (fun b _ e => .inr e) (fun b e e' => h2.k1 (.inl (e' ▸ e))), q1⟩
theorem Und.copied (h : Und E w B r q K rv nv rs d x W) (hB : B ≤ w.heap.size) (hw : SS.Wf { x with com := x.now }) :
  Calls Tryz.prog 62 #[nv] W fun e W2 => ∃ a c, e = .returned (.slice a x.now.length c) ∧ Hid (Und E w B r q K rv nv rs d { x with com := x.now } (W2.setCell ⟨r, 4, none⟩ (.slice a x.now.length c)) ∧ Only (fun _ => False) W W2) := by
 obtain ⟨rv', rs', tv, kv, lk, ln, h1, h2⟩ := h.all
 have hl := h2.nowLen
 have hws := h1.ho.size
 refine (copied_any nv ln B _ W h2.now (by have := h2.nowS; omega)).mono ?_
 rintro e W2 ⟨a, c, ys, rfl, H⟩
 obtain ⟨q1, q2, q3⟩ := H.out
 rw [hl] at q1 ⊢
 refine ⟨a, c, rfl, ?_, q3⟩
 have h2' := h2.still q3
 have hmu : ∀ b, W.heap.size ≤ b → ¬ muR (refE E w.heap.size q K rv' rs') r nv b := fun b hb e => by
  rcases e with e | e | e
  ·have := h2.lt; omega
  ·have := (h2.now.lt b e).2; omega
  ·rcases e with e | e
   ·have := (h1.ref.lt b e).2; omega
   ·omega
 obtain ⟨p1, p2⟩ := h2'.setKept (.slice a x.now.length c) ys ((q1.less (by omega)).av (fun k hk e => .inl (by
  rcases Nat.lt_or_ge k W.heap.size with e' | e'
  ·exact e'
  ·exact absurd e (hmu k e')))) (fun b e => hmu b (q1.lt b e).1) (by rw [q2, h2.nowE]) hw
 exact ⟨rv', rs', tv, _, ys, ln, (h1.still q3).set p2 (fun b _ e => .inr e) (fun b e e' => h2.k1 (.inl (e' ▸ e))), p1⟩
theorem Und.root (h : Und E w B r q K rv nv rs d x W) :
  Calls Tryz.prog 73 #[.pointer (some ⟨r, 0, none⟩)] W fun e w' => ∃ a c, e = .returned (.slice a 32 c) ∧ Hid (Fresh w' W.heap.size (.slice a 32 c) (rootB x.epoch (x.tabs.getD 0 0) x.tabs.length) ∧ Only (fun _ => False) W w') := by
 obtain ⟨rv', rs', tv, kv, lk, ln, h1, h2⟩ := h.all
 exact rroot2_any r x.epoch tv x.tabs W h2.c2 h2.c3 h2.tabs h2.wf.epoch h2.wf.tabs.1 (fun t ht => by have := (h2.wf.tabs.2 t ht).2; have := h2.wf.size; omega)
end
end Go.Proofs.YtlcglapcmdpkfaaGreat
