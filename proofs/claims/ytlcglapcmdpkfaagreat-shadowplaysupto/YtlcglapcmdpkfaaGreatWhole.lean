import Derived.Test.YtlcglapcmdpkfaaGreatBase
import Derived.ArgAppend
namespace Go.Proofs.YtlcglapcmdpkfaaGreat
open Go.RowKit
set_option linter.unusedSimpArgs false
set_option linter.unusedVariables false
def Whole (w : World) (v : Value) (n : Nat) (f : Nat → Value) : Prop :=
 ∃ a c, v = .slice a n c ∧ n ≤ c ∧ c ≤ maxLen ∧ (a = none → c = 0) ∧ (0 < c → ∃ g o, a = some ⟨g, o, none⟩ ∧ w.there g o c ∧ ∀ j, j < n → w.cell? ⟨g, o + j, none⟩ = some (f j))
theorem Whole.frame {w w' : World} {v : Value} {n : Nat} {f : Nat → Value} {bs : Nat → Prop} (h : Whole w v n f) (ho : Only bs w w') (hn : ∀ b, v.ownBlock = some b → ¬ bs b) : Whole w' v n f := by
 obtain ⟨a, c, rfl, h1, h2, h3, h4⟩ := h
 refine ⟨a, c, rfl, h1, h2, h3, fun hc => ?_⟩
 obtain ⟨g, o, rfl, ht, hf⟩ := h4 hc
 have hg := hn g rfl
 exact ⟨g, o, rfl, ho.there ht hg, fun j hj => ho.cell (hf j hj) hg⟩
theorem Whole.nil (w : World) (f : Nat → Value) : Whole w (.slice none 0 0) 0 f := ⟨none, 0, rfl, Nat.le_refl _, by unfold maxLen; omega, fun _ => rfl, fun h => by omega⟩
theorem Whole.congr {w : World} {v : Value} {n : Nat} {f f' : Nat → Value} (h : Whole w v n f) (he : ∀ j, j < n → f' j = f j) : Whole w v n f' := by
 obtain ⟨a, c, rfl, h1, h2, h3, h4⟩ := h
 refine ⟨a, c, rfl, h1, h2, h3, fun hc => ?_⟩
 obtain ⟨g, o, rfl, ht, hf⟩ := h4 hc
 exact ⟨g, o, rfl, ht, fun j hj => by rw [he j hj]; exact hf j hj⟩
theorem Whole.len {w : World} {v : Value} {n : Nat} {f : Nat → Value} (h : Whole w v n f) : n ≤ maxLen := by
 obtain ⟨a, c, rfl, h1, h2, _⟩ := h
 omega
theorem Whole.form {w : World} {v : Value} {n : Nat} {f : Nat → Value} (h : Whole w v n f) (hn : 0 < n) : ∃ g o c, v = .slice (some ⟨g, o, none⟩) n c ∧ (∀ j, j < n → w.cell? ⟨g, o + j, none⟩ = some (f j)) ∧ (∀ j, j < n → w.frozen? ⟨g, o + j, none⟩ = false) := by
 obtain ⟨a, c, rfl, h1, h2, h3, h4⟩ := h
 obtain ⟨g, o, rfl, ht, hf⟩ := h4 (by omega)
 exact ⟨g, o, c, rfl, hf, fun j hj => (ht j (by omega)).2⟩
theorem Whole.slice {w : World} {v : Value} {n : Nat} {f : Nat → Value} (h : Whole w v n f) : ∃ a c, v = .slice a n c := by
 obtain ⟨a, c, rfl, _⟩ := h
 exact ⟨a, c, rfl⟩
theorem Whole.setCell {w : World} {n c g o : Nat} {f : Nat → Value} (h : Whole w (.slice (some ⟨g, o, none⟩) n c) n f) (j : Nat) (hj : j < n) (u : Value) : Whole (w.setCell ⟨g, o + j, none⟩ u) (.slice (some ⟨g, o, none⟩) n c) n (fun q => if q = j then u else f q) := by
 obtain ⟨a, c', hv, h1, h2, h3, h4⟩ := h
 simp only [Value.slice.injEq] at hv
 obtain ⟨rfl, _, rfl⟩ := hv
 refine ⟨_, c, rfl, h1, h2, h3, fun hc => ?_⟩
 obtain ⟨g', o', hg, ht, hf⟩ := h4 hc
 simp only [Option.some.injEq, Addr.mk.injEq, and_true] at hg
 obtain ⟨rfl, rfl⟩ := hg
 have hs : w.setCell ⟨g, o + j, none⟩ u = w.setCells g (o + j) [u] := rfl
 refine ⟨g, o, rfl, by rw [hs]; exact World.there_setCells ht _ _ _, fun q hq => ?_⟩
 by_cases e : q = j
 ·subst e
  simp only [if_true]
  rw [hs]
  have := World.cell?_setCells_in g [u] (o + q) w (fun i hi => by simp at hi; subst hi; exact (ht q (by omega)).1) 0 (by simp)
  simpa using this
 ·simp only [if_neg e]
  rw [hs, World.cell?_setCells_out g _ _ _ _ (fun _ _ => by simp; omega)]
  exact hf q hq
def Th (w w' : World) : Prop := ∀ g o c, w.there g o c → w'.there g o c
theorem Th.refl (w : World) : Th w w := fun _ _ _ h => h
theorem Th.trans {a b c : World} (h : Th a b) (h' : Th b c) : Th a c := fun g o n k => h' g o n (h g o n k)
theorem Only.th {w w' : World} (h : Only (fun _ => False) w w') : Th w w' := fun _ _ _ k => h.there k (fun e => e)
theorem Th.setCells (w : World) (g o : Nat) (vs : List Value) : Th w (w.setCells g o vs) := fun _ _ _ k => World.there_setCells k _ _ _
section
variable {P : Program}
end
end Go.Proofs.YtlcglapcmdpkfaaGreat
