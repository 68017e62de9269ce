import Derived.Test.YtlcglapcmdpkfaaGreatD16
namespace Go.Proofs.YtlcglapcmdpkfaaGreat
open Go.RowKit
set_option linter.unusedSimpArgs false
set_option linter.unusedVariables false
def doAll (l : List Wr) (s : Nat → Nat → Int) : Nat → Nat → Int := l.foldl (fun s x => upd s x.at_ x.aft) s
theorem doAll_snoc (l : List Wr) (x : Wr) (s : Nat → Nat → Int) : doAll (l ++ [x]) s = upd (doAll l s) x.at_ x.aft := by simp [doAll]
theorem doAll_append (l l' : List Wr) (s : Nat → Nat → Int) : doAll (l ++ l') s = doAll l' (doAll l s) := by simp [doAll]
theorem doAll_keep : ∀ (l : List Wr) (s : Nat → Nat → Int) (k : Nat), (∀ x ∈ l, x.at_ ≠ k) → doAll l s k = s k
 | [], _, _, _ => rfl
 | x :: r, s, k, h => by
   have e : doAll (x :: r) s = doAll r (upd s x.at_ x.aft) := rfl
   rw [e, doAll_keep r _ k (fun y hy => h y (List.mem_cons_of_mem _ hy))]
   simp [upd, Ne.symm (h x (List.mem_cons_self ..))]
theorem doAll_take (l : List Wr) (s : Nat → Nat → Int) (i : Nat) (h : i < l.length) : doAll (l.take (i + 1)) s = upd (doAll (l.take i) s) (l[i]).at_ (l[i]).aft := by
 have e : l.take (i + 1) = l.take i ++ [l[i]] := by rw [List.take_add_one, List.getElem?_eq_getElem h]; rfl
 rw [e, doAll_snoc]
theorem doAll_last (l : List Wr) (s : Nat → Nat → Int) (i : Nat) (h : i < l.length) (hl : ∀ j (hj : j < l.length), i < j → (l[j]).at_ ≠ (l[i]).at_) : doAll l s (l[i]).at_ = (l[i]).aft := by
 have e : l = l.take (i + 1) ++ l.drop (i + 1) := (List.take_append_drop _ _).symm
 have : doAll l s = doAll (l.drop (i + 1)) (doAll (l.take (i + 1)) s) := by
  conv => lhs; rw [e]
  exact doAll_append _ _ _
 rw [this, doAll_keep _ _ _ (fun x hx => ?_), doAll_take l s i h]
 ·simp [upd]
 ·obtain ⟨j, hj, rfl⟩ := List.getElem_of_mem hx
  simp only [List.length_drop] at hj
  rw [List.getElem_drop]
  exact hl _ (by omega) (by omega)
def Good (d : DS) : Prop := doAll d.pend (undoW d.pend d.sec) = d.sec
theorem Good.nil (n : Nat) (s : Nat → Nat → Int) (l : Int) : Good ⟨n, s, [], l⟩ := rfl
theorem Good.write {d : DS} (h : Good d) (k : Int) (f : Nat → Int) (m : Nat) : Good (d.write k f m).2 := by
 simp only [DS.write]
 split
 ·exact h
 ·split
  ·exact h
  ·split
   ·exact h
   ·show doAll (d.pend ++ [_]) (undoW (d.pend ++ [_]) _) = _
    rw [undoW_write, doAll_snoc]
    simp only
    rw [show doAll d.pend (undoW d.pend d.sec) = d.sec from h]
theorem Good.crash {d : DS} (h : Good d) (ks : List Bool) (torn cut : Int) : Good (d.crash ks torn cut).2 := by
 simp only [DS.crash]
 split
 ·exact h
 ·rfl
end Go.Proofs.YtlcglapcmdpkfaaGreat
