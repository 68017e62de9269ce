/- What takeBack leaves of a disk: each sector as it was ahead of the first pending write to it. -/
import Derived.Test.YtpoakkdkibameaaD7
namespace Go.Proofs.Ytpoakkdkibameaa
open Go.RowKit Go.Shelf
set_option linter.unusedSimpArgs false
set_option linter.unusedVariables false
attribute [local go_sem] Oper.semAt_some

/-- Writes taken back, in the order of the list. -/
def undo {n : Nat} (pre : List (At n)) (sec : Nat → Nat → Int) : Nat → Nat → Int := pre.foldl (fun s x => upd s x.1.2.at_ x.1.2.bef) sec
theorem undo_snoc {n : Nat} (pre : List (At n)) (x : At n) (sec : Nat → Nat → Int) : undo (pre ++ [x]) sec = upd (undo pre sec) x.1.2.at_ x.1.2.bef := by simp [undo]

theorem Only.keeps {S B : Nat} {W W' : World} (h : Only (fun i => i = S) W W') (hS : S < B) : KeepsFrom B W W' :=
  ⟨h.size, fun k o hB hk _ => (h.block k (Array.getElem?_eq_some_iff.1 hk).1 (fun e => by omega)).trans hk⟩

theorem DiskAt.storedL {W : World} {B p S : Nat} {pv : Value} {d : DS} (hd : DiskAt W B p S pv d) (k : Nat) (f : Nat → Int) (cs : List Value) (hcs : cs.length = 32) (hf : secL f = cs) (hk : k < d.n) :
    DiskAt (W.drew.setCells S (k * 32) cs) B p S pv { d with sec := upd d.sec k f } := by
  have oS : Only (fun i => i = S) W (W.drew.setCells S (k * 32) cs) := (Only.refl _ W).drew.setCells _ _ _ (fun _ => rfl)
  have hpS := hd.pS
  obtain ⟨c, hc0⟩ := hd.c0
  have hsame := World.rangeAt_setCells_same W.drew S (k * 32) cs (by rw [hcs]; simpa using (hd.secs k hk).2)
  exact { pB := hd.pB, SB := hd.SB, pS := hd.pS
          c0 := ⟨c, oS.cell hc0 hpS⟩
          c1 := oS.cell hd.c1 hpS
          c2 := oS.cell hd.c2 hpS
          f1 := (oS.frozen (World.block_lt_of_cell? W _ hd.c1) hpS).trans hd.f1
          f2 := (oS.frozen (World.block_lt_of_cell? W _ hd.c2) hpS).trans hd.f2
          secs := fun i hi => by
            refine ⟨?_, World.there_setCells (by simpa using (hd.secs i hi).2) _ _ _⟩
            by_cases e : i = k
            · subst e; simp only; rw [show upd d.sec i f i = f from if_pos rfl, hf]; exact hsame
            · simp only [upd, if_neg e]
              exact World.rangeAt_setCells_apart (by simpa using (hd.secs i hi).1) _ _ _ (by rw [secL_length, hcs]; omega)
          own := oS.owns hd.own (fun k hk e => hd.hS (by rw [hk, e]))
          hp := hd.hp, hS := hd.hS, n1 := hd.n1, n2 := hd.n2, at_ := hd.at_, l1 := hd.l1, l2 := hd.l2 }
/-- A disk behind a store of 32 bytes into one of its sectors. -/
theorem DiskAt.stored {W : World} {B p S : Nat} {pv : Value} {d : DS} (hd : DiskAt W B p S pv d) (k : Nat) (f : Nat → Int) (hk : k < d.n) :
    DiskAt (W.drew.setCells S (k * 32) (secL f)) B p S pv { d with sec := upd d.sec k f } := hd.storedL k f _ (secL_length f) rfl hk

/-- The writes of a list taken back, from the last to the first. -/
def undoW (ws : List Wr) (sec : Nat → Nat → Int) : Nat → Nat → Int := ws.reverse.foldl (fun s x => upd s x.at_ x.bef) sec
theorem wrsL_get : ∀ (ws : List Wr) (j : Nat) (h : j < ws.length) (q : Nat), q < 65 → (wrsL ws)[j * 65 + q]? = (ws[j]).cells[q]?
  | x :: r, 0, h, q, hq => by
    simp only [wrsL, List.flatMap_cons, Nat.zero_mul, Nat.zero_add, List.getElem_cons_zero]
    rw [List.getElem?_append_left (by simp [Wr.cells, wrL_length]; exact hq)]
  | x :: r, j + 1, h, q, hq => by
    simp only [wrsL, List.flatMap_cons, List.getElem_cons_succ]
    rw [List.getElem?_append_right (by simp [Wr.cells, wrL_length]; omega)]
    have e : (j + 1) * 65 + q - x.cells.length = j * 65 + q := by simp [Wr.cells, wrL_length]; omega
    rw [e]
    exact wrsL_get r j (by simpa using h) q hq
/-- What the slice of the pending writes is. -/
theorem DiskAt.form {w : World} {B p S : Nat} {pv : Value} {d : DS} (h : DiskAt w B p S pv d) : (pv = .slice none 0 0 ∧ d.pend = []) ∨ ∃ g cap, pv = .slice (some ⟨g, 0, none⟩) d.pend.length cap ∧ pv.ownBlock = some g := by
  rcases h.own.2 with ⟨h1, h2⟩ | ⟨g, cap, cur, h1, _⟩
  · exact .inl ⟨h1, List.eq_nil_of_length_eq_zero h2⟩
  · exact .inr ⟨g, cap, h1, by rw [h1]; rfl⟩
theorem DiskAt.ranges {w : World} {B p S g cap : Nat} {pv : Value} {d : DS} (h : DiskAt w B p S pv d) (hv : pv = .slice (some ⟨g, 0, none⟩) d.pend.length cap) (j : Nat) (hj : j < d.pend.length) : w.rangeAt g (j * 65) (d.pend[j]).cells := fun q v hq => by
  have hq2 : q < 65 := by have := (List.getElem?_eq_some_iff.1 hq).1; simpa [Wr.cells, wrL_length] using this
  have ho := h.own
  rw [hv] at ho
  rw [ho.cellAt (j * 65 + q) (by omega), wrsL_get d.pend j hj q hq2]
  exact hq
end Go.Proofs.Ytpoakkdkibameaa
