/- Slices with all their room, appended to one element at a time; lists that lie apart from each other. -/
import Derived.Test.YtpoakkdkibameaaBase
import Derived.ArgAppend
namespace Go.Proofs.Ytpoakkdkibameaa
open Go.RowKit
set_option linter.unusedSimpArgs false
set_option linter.unusedVariables false

/-- A slice of n elements of one cell each, f 0, f 1, ..; all its room is there. -/
def Whole (w : World) (v : Value) (n : Nat) (f : Nat → Value) : Prop :=
  ∃ a c, v = .slice a n c ∧ n ≤ c ∧ c ≤ maxLen ∧ (a = none → c = 0) ∧ (0 < c → ∃ g o, a = some ⟨g, o, none⟩ ∧ w.there g o c ∧ ∀ j, j < n → w.cell? ⟨g, o + j, none⟩ = some (f j))
theorem Whole.frame {w w' : World} {v : Value} {n : Nat} {f : Nat → Value} {bs : Nat → Prop} (h : Whole w v n f) (ho : Only bs w w') (hn : ∀ b, v.ownBlock = some b → ¬ bs b) : Whole w' v n f := by
  obtain ⟨a, c, rfl, h1, h2, h3, h4⟩ := h
  refine ⟨a, c, rfl, h1, h2, h3, fun hc => ?_⟩
  obtain ⟨g, o, rfl, ht, hf⟩ := h4 hc
  have hg := hn g rfl
  exact ⟨g, o, rfl, ho.there ht hg, fun j hj => ho.cell (hf j hj) hg⟩
theorem Whole.nil (w : World) (f : Nat → Value) : Whole w (.slice none 0 0) 0 f := ⟨none, 0, rfl, Nat.le_refl _, by unfold maxLen; omega, fun _ => rfl, fun h => by omega⟩
theorem Whole.congr {w : World} {v : Value} {n : Nat} {f f' : Nat → Value} (h : Whole w v n f) (he : ∀ j, j < n → f' j = f j) : Whole w v n f' := by
  obtain ⟨a, c, rfl, h1, h2, h3, h4⟩ := h
  refine ⟨a, c, rfl, h1, h2, h3, fun hc => ?_⟩
  obtain ⟨g, o, rfl, ht, hf⟩ := h4 hc
  exact ⟨g, o, rfl, ht, fun j hj => by rw [he j hj]; exact hf j hj⟩
theorem Whole.len {w : World} {v : Value} {n : Nat} {f : Nat → Value} (h : Whole w v n f) : n ≤ maxLen := by
  obtain ⟨a, c, rfl, h1, h2, _⟩ := h
  omega
theorem Whole.form {w : World} {v : Value} {n : Nat} {f : Nat → Value} (h : Whole w v n f) (hn : 0 < n) : ∃ g o c, v = .slice (some ⟨g, o, none⟩) n c ∧ (∀ j, j < n → w.cell? ⟨g, o + j, none⟩ = some (f j)) ∧ (∀ j, j < n → w.frozen? ⟨g, o + j, none⟩ = false) := by
  obtain ⟨a, c, rfl, h1, h2, h3, h4⟩ := h
  obtain ⟨g, o, rfl, ht, hf⟩ := h4 (by omega)
  exact ⟨g, o, c, rfl, hf, fun j hj => (ht j (by omega)).2⟩
theorem Whole.slice {w : World} {v : Value} {n : Nat} {f : Nat → Value} (h : Whole w v n f) : ∃ a c, v = .slice a n c := by
  obtain ⟨a, c, rfl, _⟩ := h
  exact ⟨a, c, rfl⟩
theorem Whole.ofOwn {w : World} {B e n : Nat} {v : Value} {xs : List Value} {f : Nat → Value} (h : w.ownsRow B e 1 v n xs) (hf : ∀ j, j < n → xs[j]? = some (f j)) : Whole w v n f := by
  rcases h.2 with ⟨rfl, rfl⟩ | ⟨g, cap, cur, rfl, hb, hg, h1, h2, h3, h4⟩
  · exact Whole.nil w f
  · refine ⟨_, cap, rfl, h1, h2, fun e => (by cases e), fun hc => ⟨g, 0, rfl, fun j hj => ⟨?_, ?_⟩, fun j hj => ?_⟩⟩
    · rw [Nat.zero_add, cell_of_row _ _ _ _ _ _ hg]
      simp [h3, hj]
    · rw [Nat.zero_add]; exact h.frozenAt j
    · rw [Nat.zero_add, h.cellAt j (by omega)]; exact hf j hj
theorem Whole.setCell {w : World} {n c g o : Nat} {f : Nat → Value} (h : Whole w (.slice (some ⟨g, o, none⟩) n c) n f) (j : Nat) (hj : j < n) (u : Value) : Whole (w.setCell ⟨g, o + j, none⟩ u) (.slice (some ⟨g, o, none⟩) n c) n (fun q => if q = j then u else f q) := by
  obtain ⟨a, c', hv, h1, h2, h3, h4⟩ := h
  simp only [Value.slice.injEq] at hv
  obtain ⟨rfl, _, rfl⟩ := hv
  refine ⟨_, c, rfl, h1, h2, h3, fun hc => ?_⟩
  obtain ⟨g', o', hg, ht, hf⟩ := h4 hc
  simp only [Option.some.injEq, Addr.mk.injEq, and_true] at hg
  obtain ⟨rfl, rfl⟩ := hg
  have hs : w.setCell ⟨g, o + j, none⟩ u = w.setCells g (o + j) [u] := rfl
  refine ⟨g, o, rfl, by rw [hs]; exact World.there_setCells ht _ _ _, fun q hq => ?_⟩
  by_cases e : q = j
  · subst e
    simp only [if_true]
    rw [hs]
    have := World.cell?_setCells_in g [u] (o + q) w (fun i hi => by simp at hi; subst hi; exact (ht q (by omega)).1) 0 (by simp)
    simpa using this
  · simp only [if_neg e]
    rw [hs, World.cell?_setCells_out g _ _ _ _ (fun _ _ => by simp; omega)]
    exact hf q hq

/-- All the room that was there still is. -/
def Th (w w' : World) : Prop := ∀ g o c, w.there g o c → w'.there g o c
theorem Th.refl (w : World) : Th w w := fun _ _ _ h => h
theorem Th.trans {a b c : World} (h : Th a b) (h' : Th b c) : Th a c := fun g o n k => h' g o n (h g o n k)
theorem Only.th {w w' : World} (h : Only (fun _ => False) w w') : Th w w' := fun _ _ _ k => h.there k (fun e => e)
theorem Th.setCells (w : World) (g o : Nat) (vs : List Value) : Th w (w.setCells g o vs) := fun _ _ _ k => World.there_setCells k _ _ _

section
variable {P : Program}
/-- One element more. -/
theorem run_append_whole (w : World) (t ty e : TypeId) (i : TypeInfo) (z : Value) (bytes : Nat) (ht : P.underlying t = some (.slice e)) (hi : P.info? e = some i) (hz : i.zero = some z) (hsize : i.size = 1) (hby : i.bytes = bytes) (hzs : z.cells.size = 1)
    (v : Value) (n : Nat) (f : Nat → Value) (h : Whole w v n f) (ad : Addr) (x : Value) (hx : ∀ j u, [x][j]? = some u → w.cell? (ad.add j) = some u) (h1 : x.oneCell' = true) (hm : n + 1 ≤ maxLen) (hb : (n + 1) * bytes ≤ 140737488355328) :
    ∃ v' w', (Builtin.append_ #[t, t] ty #[v, .slice (some ad) 1 1]).run P w = .ok v' w' ∧ Whole w' v' (n + 1) (fun j => if j = n then x else f j) ∧ w.grownBy w' v.ownBlock ∧ (v'.ownBlock = v.ownBlock ∨ ∀ b, v'.ownBlock = some b → w.heap.size ≤ b ∧ b < w'.heap.size) ∧ Th w w' := by
  obtain ⟨a, c, rfl, h2, h3, h4, h5⟩ := h
  have g1 : ∀ u ∈ [x], u.oneCell' = true := fun u hu => by simp at hu; rw [hu]; exact h1
  have fin : ∀ v' w', (Builtin.append_ #[t, t] ty #[.slice a n c, .slice (some ad) 1 1]).run P w = .ok v' w' → w'.ownsRow w.heap.size e 1 v' (n + 1) ((List.range n).map f ++ [x]) → w.grownBy w' none →
      ∃ v' w', (Builtin.append_ #[t, t] ty #[.slice a n c, .slice (some ad) 1 1]).run P w = .ok v' w' ∧ Whole w' v' (n + 1) (fun j => if j = n then x else f j) ∧ w.grownBy w' (Value.slice a n c).ownBlock ∧ (v'.ownBlock = (Value.slice a n c).ownBlock ∨ ∀ b, v'.ownBlock = some b → w.heap.size ≤ b ∧ b < w'.heap.size) ∧ Th w w' := by
    intro v' w' hr own hg
    refine ⟨v', w', hr, Whole.ofOwn own (fun j hj => ?_), ⟨hg.os, hg.tape, hg.output, hg.size, fun k hk _ => hg.block k hk (by simp)⟩, ?_, ((Only.refl (fun _ => False) w).grown hg (by simp)).th⟩
    · by_cases ej : j = n
      · subst ej; simp
      · have hjn : j < n := by omega
        rw [List.getElem?_append_left (by simpa using hjn)]
        simp [hjn, ej]
    · exact .inr (fun b hb => own.lt b hb)
  by_cases hroom : n + 1 ≤ c
  · obtain ⟨g, o, rfl, hth, hf⟩ := h5 (by omega)
    have hrun := run_append_room_cells (P := P) w t ty e i ht hi g o n c ad 1 1 [x] (by simp [hsize]) hx g1 hroom (fun j hj => by simp at hj; subst hj; rw [hsize]; simpa using (hth n (by omega)).1) (fun j hj => by simp at hj; subst hj; rw [hsize]; simpa using (hth n (by omega)).2)
    rw [hsize, Nat.mul_one] at hrun
    refine ⟨_, _, hrun, ⟨_, c, rfl, hroom, h3, fun e => (by cases e), fun hc => ⟨g, o, rfl, World.there_setCells hth _ _ _, fun j hj => ?_⟩⟩, ?_, .inl rfl, Th.setCells _ _ _ _⟩
    · by_cases ej : j = n
      · subst ej
        simp only [if_true]
        have := World.cell?_setCells_in g [x] (o + j) w (fun i hi => by simp at hi; subst hi; exact (hth j (by omega)).1) 0 (by simp)
        simpa using this
      · simp only [if_neg ej]
        rw [World.cell?_setCells_out g _ _ _ _ (fun _ _ => by simp; omega)]
        exact hf j (by omega)
    · obtain ⟨s1, s2, s3, s4⟩ := setCells_same g [x] (o + n) w
      exact ⟨s1, s2, s3, Nat.le_of_eq s4.symm, fun k hk hne => World.heap_setCells_other w g _ _ hk (fun e => hne (by rw [e]; rfl))⟩
  · obtain rfl : n = c := by omega
    cases a with
    | none =>
      obtain rfl : n = 0 := h4 rfl
      obtain ⟨v', w', hr, r1, r2, _⟩ := run_append_own (P := P) w w.heap.size t ty e i z 1 bytes ht hi hz hsize hby hzs (by omega) (.slice none 0 0) 0 [] (World.ownsRow_nil w _ e 1) ad 1 1 [x] rfl hx g1 hm hb (Nat.le_refl _)
      exact fin v' w' hr r1 r2
    | some b =>
      obtain ⟨v', w', hr, r1, r2⟩ := run_append_arg_grows (P := P) w t ty e i z 1 bytes ht hi hz hsize hby hzs (by omega) b n n ((List.range n).map f) (by simp) (fun j u hu => by
        obtain ⟨hj, hu⟩ := List.getElem?_eq_some_iff.1 hu
        simp at hj hu
        obtain ⟨g, o, hb, hth, hf⟩ := h5 (by omega)
        obtain rfl : b = ⟨g, o, none⟩ := by simpa using hb
        rw [Addr.add_mid, ← hu]; exact hf j hj) ad 1 1 [x] rfl hx (by omega) hm hb
      exact fin v' w' hr r1 r2
end
end Go.Proofs.Ytpoakkdkibameaa
