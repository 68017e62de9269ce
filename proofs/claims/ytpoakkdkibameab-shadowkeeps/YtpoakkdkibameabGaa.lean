/- Which blocks a call may have turned: definitions and small facts, with no program in them. Slices with all their room, appended to one element at a time; lists that lie apart from each other. Lists that lie apart are marked and grown, one after the other: none of them touches another. How bytes lie in memory, those that come in and those that are made; a copy of them. -/
import Derived.WalkKit
import Derived.WalkSpells
import Derived.WalkLawsBesides
import Derived.OneCell
import Derived.Deep.MidRow
import Derived.Deep.AppendLies
import Derived.Deep.Upon
import Derived.Deep.WholeRow
import Derived.ArgAppend
import Derived.Test.YtpoakkdkibameabRows
import Derived.ProofKit
import Derived.SizedLaws
import Derived.Deep.Slices
import Derived.Deep.Grids
namespace Go.Proofs.Ytpoakkdkibameab
open Go.RowKit

/-- Only blocks of bs may have turned; the streams stand; no block has gone. -/
structure Only (bs : Nat → Prop) (w w' : World) : Prop where
  os : w'.os = w.os
  tape : w'.tape = w.tape
  output : w'.output = w.output
  size : w.heap.size ≤ w'.heap.size
  block : ∀ k, k < w.heap.size → ¬ bs k → w'.heap[k]? = w.heap[k]?

theorem Only.refl (bs : Nat → Prop) (w : World) : Only bs w w := ⟨rfl, rfl, rfl, Nat.le_refl _, fun _ _ _ => rfl⟩
theorem Only.mono {bs bs' : Nat → Prop} {w w' : World} (h : Only bs w w') (hb : ∀ k, k < w.heap.size → bs k → bs' k) : Only bs' w w' :=
  ⟨h.os, h.tape, h.output, h.size, fun k hk hn => h.block k hk (fun e => hn (hb k hk e))⟩
theorem Only.trans {bs bs' : Nat → Prop} {a b c : World} (h : Only bs a b) (k : Only bs' b c) (hb : ∀ i, i < a.heap.size → bs' i → bs i) : Only bs a c :=
  ⟨k.os.trans h.os, k.tape.trans h.tape, k.output.trans h.output, Nat.le_trans h.size k.size,
    fun i hi hn => (k.block i (Nat.lt_of_lt_of_le hi h.size) (fun e => hn (hb i hi e))).trans (h.block i hi hn)⟩
theorem Only.drew {bs : Nat → Prop} {a w : World} (h : Only bs a w) : Only bs a w.drew := ⟨h.os, h.tape, h.output, h.size, h.block⟩
theorem Only.alloc {bs : Nat → Prop} {a w : World} (h : Only bs a w) (o : Obj) : Only bs a (w.alloc o) :=
  ⟨h.os, h.tape, h.output, by have := h.size; simp; omega, fun k hk hn => (Below.heap_alloc _ _ _ (Nat.lt_of_lt_of_le hk h.size)).trans (h.block k hk hn)⟩
theorem Only.setCell {bs : Nat → Prop} {a w : World} (h : Only bs a w) (p : Addr) (u : Value) (hp : p.block < a.heap.size → bs p.block) : Only bs a (w.setCell p u) :=
  ⟨h.os, h.tape, h.output, by have := h.size; simpa [World.setCell] using this, fun k hk hn => (Below.heap_setCell w p u k (fun e => hn (by rw [e]; exact hp (by rw [← e]; exact hk)))).trans (h.block k hk hn)⟩
theorem setCells_same (b : Nat) : ∀ (vs : List Value) (o : Nat) (w : World), (w.setCells b o vs).os = w.os ∧ (w.setCells b o vs).tape = w.tape ∧ (w.setCells b o vs).output = w.output ∧ (w.setCells b o vs).heap.size = w.heap.size
  | [], _, _ => ⟨rfl, rfl, rfl, rfl⟩
  | v :: r, o, w => by
    obtain ⟨h1, h2, h3, h4⟩ := setCells_same b r (o + 1) (w.setCell ⟨b, o, none⟩ v)
    exact ⟨h1, h2, h3, h4.trans (by simp [World.setCell])⟩
theorem Only.setCells {bs : Nat → Prop} {a w : World} (h : Only bs a w) (b o : Nat) (vs : List Value) (hp : b < a.heap.size → bs b) : Only bs a (w.setCells b o vs) := by
  obtain ⟨h1, h2, h3, h4⟩ := setCells_same b vs o w
  exact ⟨h1.trans h.os, h2.trans h.tape, h3.trans h.output, h4 ▸ h.size, fun k hk hn =>
    (World.heap_setCells_other w b o vs (Nat.lt_of_lt_of_le hk h.size) (fun e => hn (e ▸ hp (e ▸ hk)))).trans (h.block k hk hn)⟩
theorem Only.grown {bs : Nat → Prop} {a w w' : World} {row : Option Nat} (h : Only bs a w) (hg : w.grownBy w' row) (hr : ∀ k, row = some k → k < a.heap.size → bs k) : Only bs a w' :=
  ⟨hg.os.trans h.os, hg.tape.trans h.tape, hg.output.trans h.output, Nat.le_trans h.size hg.size,
    fun k hk hn => (hg.block k (Nat.lt_of_lt_of_le hk h.size) (fun e => hn (hr k e.symm hk))).trans (h.block k hk hn)⟩
theorem Only.below {bs : Nat → Prop} {w w' : World} {B : Nat} (h : Only bs w w') (hb : ∀ k, bs k → B ≤ k) (hB : B ≤ w.heap.size) : Below B w w' :=
  ⟨h.os, h.tape, h.output, h.size, fun k hk => h.block k (by omega) (fun e => by have := hb k e; omega)⟩
theorem Only.cell {bs : Nat → Prop} {w w' : World} (h : Only bs w w') {a : Addr} {v : Value} (hc : w.cell? a = some v) (hn : ¬ bs a.block) : w'.cell? a = some v :=
  (World.cell?_of_block (w := w) (h.block a.block (World.block_lt_of_cell? w a hc) hn)).trans hc
theorem Only.frozen {bs : Nat → Prop} {w w' : World} (h : Only bs w w') {a : Addr} (hl : a.block < w.heap.size) (hn : ¬ bs a.block) : w'.frozen? a = w.frozen? a :=
  World.frozen?_of_block (w := w) (h.block a.block hl hn)
theorem Only.range {bs : Nat → Prop} {w w' : World} (h : Only bs w w') {b o : Nat} {cs : List Value} (hc : w.rangeAt b o cs) (hn : ¬ bs b) : w'.rangeAt b o cs :=
  fun j v hv => h.cell (a := ⟨b, o + j, none⟩) (hc j v hv) hn
theorem Only.there {bs : Nat → Prop} {w w' : World} (h : Only bs w w') {b o n : Nat} (hc : w.there b o n) (hn : ¬ bs b) : w'.there b o n := fun j hj => by
  obtain ⟨h1, h2⟩ := hc j hj
  obtain ⟨u, hu⟩ := Option.isSome_iff_exists.1 h1
  exact ⟨by rw [h.cell hu hn]; rfl, by rw [h.frozen (World.block_lt_of_cell? w _ hu) hn]; exact h2⟩
theorem Only.owns {bs : Nat → Prop} {w w' : World} (h : Only bs w w') {B e size n : Nat} {v : Value} {xs : List Value} (ho : w.ownsRow B e size v n xs) (hn : ∀ k, v.ownBlock = some k → ¬ bs k) : w'.ownsRow B e size v n xs := by
  refine ⟨ho.1, ?_⟩
  rcases ho.2 with hz | ⟨g, cap, cur, hv, hb, hg, rest⟩
  · exact .inl hz
  · refine .inr ⟨g, cap, cur, hv, hb, ?_, rest⟩
    have hl : g < w.heap.size := by
      rcases Nat.lt_or_ge g w.heap.size with hlt | hge
      · exact hlt
      · simp [Array.getElem?_eq_none hge] at hg
    rw [h.block g hl (hn g (by rw [hv]; rfl))]; exact hg


theorem ownsRow_slice {w : World} {B e size n : Nat} {v : Value} {xs : List Value} (h : w.ownsRow B e size v n xs) : ∃ a c, v = .slice a n c := by
  rcases h.2 with ⟨h1, h2⟩ | ⟨g, cap, cur, h1, _⟩
  · exact ⟨none, 0, by rw [h1, h2]⟩
  · exact ⟨_, _, h1⟩
end Go.Proofs.Ytpoakkdkibameab
namespace Go.Proofs.Ytpoakkdkibameab
open Go.RowKit
set_option linter.unusedSimpArgs false
set_option linter.unusedVariables false

/-- A slice of n elements of one cell each, f 0, f 1, ..; all its room is there. -/
def Whole (w : World) (v : Value) (n : Nat) (f : Nat → Value) : Prop :=
  ∃ a c, v = .slice a n c ∧ n ≤ c ∧ c ≤ maxLen ∧ (a = none → c = 0) ∧ (0 < c → ∃ g o, a = some ⟨g, o, none⟩ ∧ w.there g o c ∧ ∀ j, j < n → w.cell? ⟨g, o + j, none⟩ = some (f j))
theorem Whole.frame {w w' : World} {v : Value} {n : Nat} {f : Nat → Value} {bs : Nat → Prop} (h : Whole w v n f) (ho : Only bs w w') (hn : ∀ b, v.ownBlock = some b → ¬ bs b) : Whole w' v n f := by
  obtain ⟨a, c, rfl, h1, h2, h3, h4⟩ := h
  refine ⟨a, c, rfl, h1, h2, h3, fun hc => ?_⟩
  obtain ⟨g, o, rfl, ht, hf⟩ := h4 hc
  have hg := hn g rfl
  exact ⟨g, o, rfl, ho.there ht hg, fun j hj => ho.cell (hf j hj) hg⟩
theorem Whole.nil (w : World) (f : Nat → Value) : Whole w (.slice none 0 0) 0 f := ⟨none, 0, rfl, Nat.le_refl _, by unfold maxLen; omega, fun _ => rfl, fun h => by omega⟩
theorem Whole.congr {w : World} {v : Value} {n : Nat} {f f' : Nat → Value} (h : Whole w v n f) (he : ∀ j, j < n → f' j = f j) : Whole w v n f' := by
  obtain ⟨a, c, rfl, h1, h2, h3, h4⟩ := h
  refine ⟨a, c, rfl, h1, h2, h3, fun hc => ?_⟩
  obtain ⟨g, o, rfl, ht, hf⟩ := h4 hc
  exact ⟨g, o, rfl, ht, fun j hj => by rw [he j hj]; exact hf j hj⟩
theorem Whole.len {w : World} {v : Value} {n : Nat} {f : Nat → Value} (h : Whole w v n f) : n ≤ maxLen := by
  obtain ⟨a, c, rfl, h1, h2, _⟩ := h
  omega
theorem Whole.form {w : World} {v : Value} {n : Nat} {f : Nat → Value} (h : Whole w v n f) (hn : 0 < n) : ∃ g o c, v = .slice (some ⟨g, o, none⟩) n c ∧ (∀ j, j < n → w.cell? ⟨g, o + j, none⟩ = some (f j)) ∧ (∀ j, j < n → w.frozen? ⟨g, o + j, none⟩ = false) := by
  obtain ⟨a, c, rfl, h1, h2, h3, h4⟩ := h
  obtain ⟨g, o, rfl, ht, hf⟩ := h4 (by omega)
  exact ⟨g, o, c, rfl, hf, fun j hj => (ht j (by omega)).2⟩
theorem Whole.slice {w : World} {v : Value} {n : Nat} {f : Nat → Value} (h : Whole w v n f) : ∃ a c, v = .slice a n c := by
  obtain ⟨a, c, rfl, _⟩ := h
  exact ⟨a, c, rfl⟩
theorem Whole.ofOwn {w : World} {B e n : Nat} {v : Value} {xs : List Value} {f : Nat → Value} (h : w.ownsRow B e 1 v n xs) (hf : ∀ j, j < n → xs[j]? = some (f j)) : Whole w v n f := by
  rcases h.2 with ⟨rfl, rfl⟩ | ⟨g, cap, cur, rfl, hb, hg, h1, h2, h3, h4⟩
  · exact Whole.nil w f
  · refine ⟨_, cap, rfl, h1, h2, fun e => (by cases e), fun hc => ⟨g, 0, rfl, fun j hj => ⟨?_, ?_⟩, fun j hj => ?_⟩⟩
    · rw [Nat.zero_add, cell_of_row _ _ _ _ _ _ hg]
      simp [h3, hj]
    · rw [Nat.zero_add]; exact h.frozenAt j
    · rw [Nat.zero_add, h.cellAt j (by omega)]; exact hf j hj
theorem Whole.setCell {w : World} {n c g o : Nat} {f : Nat → Value} (h : Whole w (.slice (some ⟨g, o, none⟩) n c) n f) (j : Nat) (hj : j < n) (u : Value) : Whole (w.setCell ⟨g, o + j, none⟩ u) (.slice (some ⟨g, o, none⟩) n c) n (fun q => if q = j then u else f q) := by
  obtain ⟨a, c', hv, h1, h2, h3, h4⟩ := h
  simp only [Value.slice.injEq] at hv
  obtain ⟨rfl, _, rfl⟩ := hv
  refine ⟨_, c, rfl, h1, h2, h3, fun hc => ?_⟩
  obtain ⟨g', o', hg, ht, hf⟩ := h4 hc
  simp only [Option.some.injEq, Addr.mk.injEq, and_true] at hg
  obtain ⟨rfl, rfl⟩ := hg
  have hs : w.setCell ⟨g, o + j, none⟩ u = w.setCells g (o + j) [u] := rfl
  refine ⟨g, o, rfl, by rw [hs]; exact World.there_setCells ht _ _ _, fun q hq => ?_⟩
  by_cases e : q = j
  · subst e
    simp only [if_true]
    rw [hs]
    have := World.cell?_setCells_in g [u] (o + q) w (fun i hi => by simp at hi; subst hi; exact (ht q (by omega)).1) 0 (by simp)
    simpa using this
  · simp only [if_neg e]
    rw [hs, World.cell?_setCells_out g _ _ _ _ (fun _ _ => by simp; omega)]
    exact hf q hq

/-- All the room that was there still is. -/
def Th (w w' : World) : Prop := ∀ g o c, w.there g o c → w'.there g o c
theorem Th.refl (w : World) : Th w w := fun _ _ _ h => h
theorem Th.trans {a b c : World} (h : Th a b) (h' : Th b c) : Th a c := fun g o n k => h' g o n (h g o n k)
theorem Only.th {w w' : World} (h : Only (fun _ => False) w w') : Th w w' := fun _ _ _ k => h.there k (fun e => e)
theorem Th.setCells (w : World) (g o : Nat) (vs : List Value) : Th w (w.setCells g o vs) := fun _ _ _ k => World.there_setCells k _ _ _

section
variable {P : Program}
/-- One element more. -/
theorem run_append_whole (w : World) (t ty e : TypeId) (i : TypeInfo) (z : Value) (bytes : Nat) (ht : P.underlying t = some (.slice e)) (hi : P.info? e = some i) (hz : i.zero = some z) (hsize : i.size = 1) (hby : i.bytes = bytes) (hzs : z.cells.size = 1)
    (v : Value) (n : Nat) (f : Nat → Value) (h : Whole w v n f) (ad : Addr) (x : Value) (hx : ∀ j u, [x][j]? = some u → w.cell? (ad.add j) = some u) (h1 : x.oneCell' = true) (hm : n + 1 ≤ maxLen) (hb : (n + 1) * bytes ≤ 140737488355328) :
    ∃ v' w', (Builtin.append_ #[t, t] ty #[v, .slice (some ad) 1 1]).run P w = .ok v' w' ∧ Whole w' v' (n + 1) (fun j => if j = n then x else f j) ∧ w.grownBy w' v.ownBlock ∧ (v'.ownBlock = v.ownBlock ∨ ∀ b, v'.ownBlock = some b → w.heap.size ≤ b ∧ b < w'.heap.size) ∧ Th w w' := by
  obtain ⟨a, c, rfl, h2, h3, h4, h5⟩ := h
  have g1 : ∀ u ∈ [x], u.oneCell' = true := fun u hu => by simp at hu; rw [hu]; exact h1
  have fin : ∀ v' w', (Builtin.append_ #[t, t] ty #[.slice a n c, .slice (some ad) 1 1]).run P w = .ok v' w' → w'.ownsRow w.heap.size e 1 v' (n + 1) ((List.range n).map f ++ [x]) → w.grownBy w' none →
      ∃ v' w', (Builtin.append_ #[t, t] ty #[.slice a n c, .slice (some ad) 1 1]).run P w = .ok v' w' ∧ Whole w' v' (n + 1) (fun j => if j = n then x else f j) ∧ w.grownBy w' (Value.slice a n c).ownBlock ∧ (v'.ownBlock = (Value.slice a n c).ownBlock ∨ ∀ b, v'.ownBlock = some b → w.heap.size ≤ b ∧ b < w'.heap.size) ∧ Th w w' := by
    intro v' w' hr own hg
    refine ⟨v', w', hr, Whole.ofOwn own (fun j hj => ?_), ⟨hg.os, hg.tape, hg.output, hg.size, fun k hk _ => hg.block k hk (by simp)⟩, ?_, ((Only.refl (fun _ => False) w).grown hg (by simp)).th⟩
    · by_cases ej : j = n
      · subst ej; simp
      · have hjn : j < n := by omega
        rw [List.getElem?_append_left (by simpa using hjn)]
        simp [hjn, ej]
    · exact .inr (fun b hb => own.lt b hb)
  by_cases hroom : n + 1 ≤ c
  · obtain ⟨g, o, rfl, hth, hf⟩ := h5 (by omega)
    have hrun := run_append_room_cells (P := P) w t ty e i ht hi g o n c ad 1 1 [x] (by simp [hsize]) hx g1 hroom (fun j hj => by simp at hj; subst hj; rw [hsize]; simpa using (hth n (by omega)).1) (fun j hj => by simp at hj; subst hj; rw [hsize]; simpa using (hth n (by omega)).2)
    rw [hsize, Nat.mul_one] at hrun
    refine ⟨_, _, hrun, ⟨_, c, rfl, hroom, h3, fun e => (by cases e), fun hc => ⟨g, o, rfl, World.there_setCells hth _ _ _, fun j hj => ?_⟩⟩, ?_, .inl rfl, Th.setCells _ _ _ _⟩
    · by_cases ej : j = n
      · subst ej
        simp only [if_true]
        have := World.cell?_setCells_in g [x] (o + j) w (fun i hi => by simp at hi; subst hi; exact (hth j (by omega)).1) 0 (by simp)
        simpa using this
      · simp only [if_neg ej]
        rw [World.cell?_setCells_out g _ _ _ _ (fun _ _ => by simp; omega)]
        exact hf j (by omega)
    · obtain ⟨s1, s2, s3, s4⟩ := setCells_same g [x] (o + n) w
      exact ⟨s1, s2, s3, Nat.le_of_eq s4.symm, fun k hk hne => World.heap_setCells_other w g _ _ hk (fun e => hne (by rw [e]; rfl))⟩
  · obtain rfl : n = c := by omega
    cases a with
    | none =>
      obtain rfl : n = 0 := h4 rfl
      obtain ⟨v', w', hr, r1, r2, _⟩ := run_append_own (P := P) w w.heap.size t ty e i z 1 bytes ht hi hz hsize hby hzs (by omega) (.slice none 0 0) 0 [] (World.ownsRow_nil w _ e 1) ad 1 1 [x] rfl hx g1 hm hb (Nat.le_refl _)
      exact fin v' w' hr r1 r2
    | some b =>
      obtain ⟨v', w', hr, r1, r2⟩ := run_append_arg_grows (P := P) w t ty e i z 1 bytes ht hi hz hsize hby hzs (by omega) b n n ((List.range n).map f) (by simp) (fun j u hu => by
        obtain ⟨hj, hu⟩ := List.getElem?_eq_some_iff.1 hu
        simp at hj hu
        obtain ⟨g, o, hb, hth, hf⟩ := h5 (by omega)
        obtain rfl : b = ⟨g, o, none⟩ := by simpa using hb
        rw [Addr.add_mid, ← hu]; exact hf j hj) ad 1 1 [x] rfl hx (by omega) hm hb
      exact fin v' w' hr r1 r2
end
end Go.Proofs.Ytpoakkdkibameab
namespace Go.Proofs.Ytpoakkdkibameab
open Go.RowKit
set_option linter.unusedSimpArgs false
set_option linter.unusedVariables false

/-- A slice of n elements, all whose room is there. -/
def Room (w : World) (v : Value) (n : Nat) : Prop :=
  ∃ a c, v = .slice a n c ∧ n ≤ c ∧ c ≤ maxLen ∧ (a = none → c = 0) ∧ (0 < c → ∃ g o, a = some ⟨g, o, none⟩ ∧ w.there g o c)
theorem Whole.room {w : World} {v : Value} {n : Nat} {f : Nat → Value} (h : Whole w v n f) : Room w v n := by
  obtain ⟨a, c, rfl, h1, h2, h3, h4⟩ := h
  exact ⟨a, c, rfl, h1, h2, h3, fun hc => by obtain ⟨g, o, rfl, ht, _⟩ := h4 hc; exact ⟨g, o, rfl, ht⟩⟩
theorem Room.th {w w' : World} {v : Value} {n : Nat} (h : Room w v n) (t : Th w w') : Room w' v n := by
  obtain ⟨a, c, rfl, h1, h2, h3, h4⟩ := h
  exact ⟨a, c, rfl, h1, h2, h3, fun hc => by obtain ⟨g, o, rfl, ht⟩ := h4 hc; exact ⟨g, o, rfl, t _ _ _ ht⟩⟩
theorem Room.form {w : World} {v : Value} {n : Nat} (h : Room w v n) : ∃ a c, v = .slice a n c := by
  obtain ⟨a, c, rfl, _⟩ := h
  exact ⟨a, c, rfl⟩
theorem Room.at_ {w : World} {v : Value} {n : Nat} (h : Room w v n) (hn : 0 < n) : ∃ g o c, v = .slice (some ⟨g, o, none⟩) n c ∧ w.there g o n := by
  obtain ⟨a, c, rfl, h1, h2, h3, h4⟩ := h
  obtain ⟨g, o, rfl, ht⟩ := h4 (by omega)
  exact ⟨g, o, c, rfl, fun j hj => ht j (by omega)⟩
/-- The first m elements of v are x. -/
def Marked (w : World) (v : Value) (n m : Nat) (x : Value) : Prop := Room w v n ∧ ∀ g o c, v = .slice (some ⟨g, o, none⟩) n c → ∀ j, j < m → w.cell? ⟨g, o + j, none⟩ = some x
theorem Marked.zero {w : World} {v : Value} {n : Nat} {x : Value} (h : Room w v n) : Marked w v n 0 x := ⟨h, fun _ _ _ _ j hj => absurd hj (Nat.not_lt_zero _)⟩
theorem Marked.whole {w : World} {v : Value} {n : Nat} {x : Value} (h : Marked w v n n x) : Whole w v n (fun _ => x) := by
  obtain ⟨⟨a, c, rfl, h1, h2, h3, h4⟩, hm⟩ := h
  exact ⟨a, c, rfl, h1, h2, h3, fun hc => by obtain ⟨g, o, rfl, ht⟩ := h4 hc; exact ⟨g, o, rfl, ht, fun j hj => hm g o c rfl j hj⟩⟩
theorem Marked.more {w : World} {n m g o c : Nat} {x : Value} (h : Marked w (.slice (some ⟨g, o, none⟩) n c) n m x) (hm : m < n) : Marked (w.setCell ⟨g, o + m, none⟩ x) (.slice (some ⟨g, o, none⟩) n c) n (m + 1) x := by
  have hs : w.setCell ⟨g, o + m, none⟩ x = w.setCells g (o + m) [x] := rfl
  refine ⟨h.1.th (by rw [hs]; exact Th.setCells _ _ _ _), fun g' o' c' hv j hj => ?_⟩
  simp only [Value.slice.injEq, Option.some.injEq, Addr.mk.injEq, and_true, true_and] at hv
  obtain ⟨⟨rfl, rfl⟩, rfl⟩ := hv
  obtain ⟨g', o', c', hv, ht⟩ := h.1.at_ (by omega)
  simp only [Value.slice.injEq, Option.some.injEq, Addr.mk.injEq, and_true, true_and] at hv
  obtain ⟨⟨rfl, rfl⟩, rfl⟩ := hv
  rw [hs]
  by_cases e : j = m
  · subst e
    have := World.cell?_setCells_in g [x] (o + j) w (fun i hi => by simp at hi; subst hi; exact (ht j (by omega)).1) 0 (by simp)
    simpa using this
  · rw [World.cell?_setCells_out g _ _ _ _ (fun _ _ => by simp; omega)]
    exact h.2 g o c rfl j (by omega)

/-- k lists, each with room of its own. -/
structure Lists (w : World) (k : Nat) (xs : Nat → Value) (ns : Nat → Nat) : Prop where
  room : ∀ i, i < k → Room w (xs i) (ns i)
  lt : ∀ i b, i < k → (xs i).ownBlock = some b → b < w.heap.size
  sep : ∀ i j b, i < k → j < k → (xs i).ownBlock = some b → (xs j).ownBlock = some b → i = j
  max : ∀ i, i < k → ns i ≤ 140737488351232
def lsB (k : Nat) (xs : Nat → Value) : Nat → Prop := fun b => ∃ i, i < k ∧ (xs i).ownBlock = some b
theorem Lists.next {w w' : World} {k : Nat} {xs : Nat → Value} {ns : Nat → Nat} (h : Lists w k xs ns) (t : Th w w') (hs : w.heap.size ≤ w'.heap.size) : Lists w' k xs ns :=
  ⟨fun i hi => (h.room i hi).th t, fun i b hi e => by have := h.lt i b hi e; omega, h.sep, h.max⟩

/-- The first i lists are grown; the grown ones lie behind gv. -/
structure Gr (w1 w : World) (k : Nat) (xs : Nat → Value) (ns : Nat → Nat) (M : Nat → Value) (gv : Value) (G : Nat → Value) (i : Nat) : Prop where
  only : Only (lsB k xs) w1 w
  th : Th w1 w
  row : Whole w gv i G
  rnew : ∀ b, gv.ownBlock = some b → w1.heap.size ≤ b ∧ b < w.heap.size
  at_ : ∀ q, q < i → Whole w (G q) (ns q + 9) (fun _ => M q)
  blk : ∀ q b, q < i → (G q).ownBlock = some b → ((xs q).ownBlock = some b ∨ w1.heap.size ≤ b) ∧ b < w.heap.size ∧ gv.ownBlock ≠ some b
theorem Gr.start (w1 : World) (k : Nat) (xs : Nat → Value) (ns : Nat → Nat) (M : Nat → Value) (G : Nat → Value) : Gr w1 w1 k xs ns M (.slice none 0 0) G 0 :=
  ⟨Only.refl _ _, Th.refl _, Whole.nil _ _, fun b e => (by cases e), fun q hq => absurd hq (Nat.not_lt_zero _), fun q b hq => absurd hq (Nat.not_lt_zero _)⟩
theorem Gr.step {w1 w w' : World} {k : Nat} {xs : Nat → Value} {ns : Nat → Nat} {M : Nat → Value} {gv : Value} {G : Nat → Value} {i : Nat} {t : Nat → Prop} (h : Gr w1 w k xs ns M gv G i) (ho : Only t w w') (ht : Th w w') (h1 : ∀ b, t b → b < w1.heap.size → lsB k xs b) (h2 : ∀ b, t b → gv.ownBlock ≠ some b) (h3 : ∀ q b, q < i → t b → (G q).ownBlock ≠ some b) : Gr w1 w' k xs ns M gv G i :=
  ⟨h.only.trans ho (fun b hb e => h1 b e hb), h.th.trans ht, h.row.frame ho (fun b e hb => h2 b hb e), fun b e => by have := h.rnew b e; have := ho.size; omega,
    fun q hq => (h.at_ q hq).frame ho (fun b e hb => h3 q b hq hb e), fun q b hq e => by obtain ⟨a1, a2, a3⟩ := h.blk q b hq e; exact ⟨a1, by have := ho.size; omega, a3⟩⟩
/-- The list xs i is being marked. -/
structure Gm (w1 w : World) (k : Nat) (xs : Nat → Value) (ns : Nat → Nat) (M : Nat → Value) (gv : Value) (G : Nat → Value) (i m : Nat) : Prop where
  gr : Gr w1 w k xs ns M gv G i
  md : Marked w (xs i) (ns i) m (M i)
theorem Gr.other {w1 w : World} {k : Nat} {xs : Nat → Value} {ns : Nat → Nat} {M : Nat → Value} {gv : Value} {G : Nat → Value} {i : Nat} (L : Lists w1 k xs ns) (h : Gr w1 w k xs ns M gv G i) (hi : i < k) (b : Nat) (hb : (xs i).ownBlock = some b) : lsB k xs b ∧ gv.ownBlock ≠ some b ∧ ∀ q, q < i → (G q).ownBlock ≠ some b := by
  have hl := L.lt i b hi hb
  refine ⟨⟨i, hi, hb⟩, fun e => by have := h.rnew b e; omega, fun q hq e => ?_⟩
  rcases (h.blk q b hq e).1 with e | e
  · have := L.sep q i b (by omega) hi e hb; omega
  · omega
theorem Gm.start {w1 w : World} {k : Nat} {xs : Nat → Value} {ns : Nat → Nat} {M : Nat → Value} {gv : Value} {G : Nat → Value} {i : Nat} (L : Lists w1 k xs ns) (h : Gr w1 w k xs ns M gv G i) (hi : i < k) : Gm w1 w k xs ns M gv G i 0 :=
  ⟨h, Marked.zero ((L.room i hi).th h.th)⟩
theorem Gm.more {w1 w : World} {k : Nat} {xs : Nat → Value} {ns : Nat → Nat} {M : Nat → Value} {gv : Value} {G : Nat → Value} {i m g o c : Nat} (L : Lists w1 k xs ns) (h : Gm w1 w k xs ns M gv G i m) (hi : i < k) (hm : m < ns i) (hx : xs i = .slice (some ⟨g, o, none⟩) (ns i) c) : Gm w1 (w.setCell ⟨g, o + m, none⟩ (M i)) k xs ns M gv G i (m + 1) := by
  have hb : (xs i).ownBlock = some g := by rw [hx]; rfl
  obtain ⟨o1, o2, o3⟩ := h.gr.other L hi g hb
  refine ⟨h.gr.step (t := fun b => b = g) ((Only.refl _ w).setCell _ _ (fun _ => rfl)) (Th.setCells w g (o + m) [M i]) ?_ ?_ ?_, ?_⟩
  · rintro b rfl _; exact o1
  · rintro b rfl; exact o2
  · rintro q b hq rfl; exact o3 q hq
  · have := h.md
    rw [hx] at this ⊢
    exact this.more hm
/-- The list xs i is being grown; g is what it has grown to. -/
structure Gw (w1 w : World) (k : Nat) (xs : Nat → Value) (ns : Nat → Nat) (M : Nat → Value) (gv : Value) (G : Nat → Value) (i : Nat) (g : Value) (m : Nat) : Prop where
  gr : Gr w1 w k xs ns M gv G i
  row : Whole w g (ns i + m) (fun _ => M i)
  free : ∀ b, g.ownBlock = some b → ((xs i).ownBlock = some b ∨ w1.heap.size ≤ b) ∧ b < w.heap.size ∧ gv.ownBlock ≠ some b ∧ ∀ q, q < i → (G q).ownBlock ≠ some b
theorem Gw.start {w1 w : World} {k : Nat} {xs : Nat → Value} {ns : Nat → Nat} {M : Nat → Value} {gv : Value} {G : Nat → Value} {i : Nat} (L : Lists w1 k xs ns) (h : Gm w1 w k xs ns M gv G i (ns i)) (hi : i < k) : Gw w1 w k xs ns M gv G i (xs i) 0 :=
  ⟨h.gr, h.md.whole, fun b hb => ⟨.inl hb, by have := L.lt i b hi hb; have := h.gr.only.size; omega, (h.gr.other L hi b hb).2⟩⟩
theorem Gw.more {w1 w w' : World} {k : Nat} {xs : Nat → Value} {ns : Nat → Nat} {M : Nat → Value} {gv : Value} {G : Nat → Value} {i : Nat} {g v' : Value} {m : Nat} (o : Obj) (h : Gw w1 w k xs ns M gv G i g m) (hi : i < k)
    (hv : Whole w' v' (ns i + m + 1) (fun j => if j = ns i + m then M i else M i)) (hg : (w.alloc o).grownBy w' g.ownBlock) (hb : v'.ownBlock = g.ownBlock ∨ ∀ b, v'.ownBlock = some b → (w.alloc o).heap.size ≤ b ∧ b < w'.heap.size) (ht : Th (w.alloc o) w') :
    Gw w1 w' k xs ns M gv G i v' (m + 1) := by
  have oA : Only (fun b => g.ownBlock = some b) w (w.alloc o) := (Only.refl _ w).alloc o
  have o1 : Only (fun b => g.ownBlock = some b) w w' := oA.grown hg (fun b hb _ => hb)
  have t1 : Th w w' := (Only.th ((Only.refl _ w).alloc o)).trans ht
  have hs : w.heap.size ≤ (w.alloc o).heap.size := by simp
  have gr' : Gr w1 w' k xs ns M gv G i := h.gr.step o1 t1 (fun b e hl => ?_) (fun b e => (h.free b e).2.2.1) (fun q b hq e => (h.free b e).2.2.2 q hq)
  · refine ⟨gr', ?_, fun b e => ?_⟩
    · have := hv.congr (f' := fun _ => M i) (fun j _ => by simp)
      exact this
    · rcases hb with hb | hb
      · obtain ⟨a1, a2, a3⟩ := h.free b (hb ▸ e)
        exact ⟨a1, by have := o1.size; omega, a3⟩
      · obtain ⟨b1, b2⟩ := hb b e
        have := h.gr.only.size
        refine ⟨.inr (by omega), b2, fun e => by have := h.gr.rnew b e; omega, fun q hq e => by have := (h.gr.blk q b hq e).2.1; omega⟩
  · rcases (h.free b e).1 with e | e
    · exact ⟨i, hi, e⟩
    · omega
/-- The grown list is put to the others. -/
theorem Gr.more {w1 w w' : World} {k : Nat} {xs : Nat → Value} {ns : Nat → Nat} {M : Nat → Value} {gv : Value} {G : Nat → Value} {i : Nat} {g v' : Value} (o : Obj) (h : Gw w1 w k xs ns M gv G i g 9)
    (hv : Whole w' v' (i + 1) (fun j => if j = i then g else G j)) (hg : (w.alloc o).grownBy w' gv.ownBlock) (hb : v'.ownBlock = gv.ownBlock ∨ ∀ b, v'.ownBlock = some b → (w.alloc o).heap.size ≤ b ∧ b < w'.heap.size) (ht : Th (w.alloc o) w') :
    Gr w1 w' k xs ns M v' (fun j => if j = i then g else G j) (i + 1) := by
  have oA : Only (fun b => gv.ownBlock = some b) w (w.alloc o) := (Only.refl _ w).alloc o
  have o1 : Only (fun b => gv.ownBlock = some b) w w' := oA.grown hg (fun b hb _ => hb)
  have t1 : Th w w' := (Only.th ((Only.refl _ w).alloc o)).trans ht
  have hs : w.heap.size ≤ (w.alloc o).heap.size := by simp
  have s1 := o1.size
  have s2 := h.gr.only.size
  have hnew : ∀ b, v'.ownBlock = some b → gv.ownBlock = some b ∨ w.heap.size ≤ b ∧ b < w'.heap.size := fun b e => by
    rcases hb with hb | hb
    · exact .inl (hb ▸ e)
    · have := hb b e; exact .inr ⟨by omega, by omega⟩
  refine ⟨h.gr.only.trans o1 (fun b hl e => by have := h.gr.rnew b e; omega), h.gr.th.trans t1, hv, fun b e => ?_, fun q hq => ?_, fun q b hq e => ?_⟩
  · rcases hnew b e with e | e
    · have := h.gr.rnew b e; omega
    · omega
  · by_cases eq : q = i
    · subst eq
      simp only [if_true]
      exact h.row.frame o1 (fun b e e' => (h.free b e).2.2.1 e')
    · simp only [if_neg eq]
      exact (h.gr.at_ q (by omega)).frame o1 (fun b e e' => (h.gr.blk q b (by omega) e).2.2 e')
  · by_cases eq : q = i
    · subst eq
      simp only [if_true] at e
      obtain ⟨a1, a2, a3, _⟩ := h.free b e
      exact ⟨a1, by omega, fun e' => by rcases hnew b e' with e | e; exact a3 e; omega⟩
    · simp only [if_neg eq] at e
      obtain ⟨a1, a2, a3⟩ := h.gr.blk q b (by omega) e
      exact ⟨a1, by omega, fun e' => by rcases hnew b e' with e | e; exact a3 e; omega⟩
/-- All are grown: each shows its own mark. -/
theorem Gr.done {w1 w : World} {k : Nat} {xs : Nat → Value} {ns : Nat → Nat} {M : Nat → Value} {gv : Value} {G : Nat → Value} (h : Gr w1 w k xs ns M gv G k) (q : Nat) (hq : q < k) :
    ∃ b o c, gv = .slice (some ⟨b, o, none⟩) k c ∧ ∃ g o' c', w.cell? ⟨b, o + q, none⟩ = some (.slice (some ⟨g, o', none⟩) (ns q + 9) c') ∧ ∀ j, j < ns q + 9 → w.cell? ⟨g, o' + j, none⟩ = some (M q) := by
  obtain ⟨b, o, c, hv, hc, _⟩ := h.row.form (by omega)
  obtain ⟨g, o', c', hv', hc', _⟩ := (h.at_ q hq).form (by omega)
  exact ⟨b, o, c, hv, g, o', c', by rw [hc q hq, hv'], hc'⟩

section
variable {P : Program}
theorem wpList_append_whole {ops : Array Oper} {rest : List Oper} {op : Oper} {a : Act} {Q : Exit → Act → World → Prop} (w : World) (hgd : op.guard = none) (s x : Operand) (t : TypeId)
    (ho : op.op = .call { callee := .builtin .append, args := #[s, x], argTypes := #[t, t] }) (e : TypeId) (i : TypeInfo) (z : Value) (bytes : Nat) (ht : P.underlying t = some (.slice e)) (hi : P.info? e = some i) (hz : i.zero = some z) (hsize : i.size = 1) (hby : i.bytes = bytes) (hzs : z.cells.size = 1)
    (v : Value) (n : Nat) (f : Nat → Value) (hs : a.eval s = v) (hw : Whole w v n f) (ad : Addr) (u : Value) (hx : a.eval x = .slice (some ad) 1 1) (hu : w.cell? ad = some u) (h1 : u.oneCell' = true) (hm : n + 1 ≤ maxLen) (hb : (n + 1) * bytes ≤ 140737488355328)
    (h : ∀ v' w', Whole w' v' (n + 1) (fun j => if j = n then u else f j) → w.grownBy w' v.ownBlock → (v'.ownBlock = v.ownBlock ∨ ∀ b, v'.ownBlock = some b → w.heap.size ≤ b ∧ b < w'.heap.size) → Th w w' → wpList P ops Q rest (a.put op.dst v') w') :
    wpList P ops Q (op :: rest) a w := by
  refine wpList_plain hgd fun K hK => ?_
  obtain ⟨v', w', hr, h2, h3, h4, h5⟩ := run_append_whole (P := P) w t op.type e i z bytes ht hi hz hsize hby hzs v n f hw ad u (fun j u' hu' => by
    cases j with
    | zero => simp at hu'; subst hu'; simpa [Addr.add] using hu
    | succ j => simp at hu') h1 hm hb
  unfold Oper.wp execOp
  simp only [ho, resolve, invoke, builtin, Sem.run_bind, Sem.run_pure, Result.andThen_ok, List.map_toArray, List.map_cons, List.map_nil, hs, hx, hr]
  exact hK _ _ (h v' w' h2 h3 h4 h5)
end
end Go.Proofs.Ytpoakkdkibameab
namespace Go.Proofs.Ytpoakkdkibameab
open Go.RowKit Go.ChangeShapes Go.WideShapes
set_option linter.unusedVariables false

/-- A slice of k elements of size cells each, whose cells are f's. -/
def RowAt (W : World) (v : Value) (k size : Nat) (f : Nat → Value) : Prop :=
  (v = .slice none 0 0 ∧ k = 0) ∨ ∃ ad c, v = .slice (some ad) k c ∧ k ≤ c ∧ ∀ j, j < k * size → W.cell? (ad.add j) = some (f j)
theorem RowAt.frame {W W' : World} {v : Value} {k size : Nat} {f : Nat → Value} {bs : Nat → Prop} (h : RowAt W v k size f) (ho : Only bs W W') (hn : ∀ b, bs b → W.heap.size ≤ b) : RowAt W' v k size f := by
  rcases h with h | ⟨ad, c, hv, hkc, hc⟩
  · exact .inl h
  · exact .inr ⟨ad, c, hv, hkc, fun j hj => ho.cell (hc j hj) (fun e => by have := hn _ e; have := World.block_lt_of_cell? W _ (hc j hj); omega)⟩
theorem RowAt.at {W : World} {v : Value} {k size : Nat} {f : Nat → Value} (h : RowAt W v k size f) (hk : 0 < k * size) : ∃ g o c, v = .slice (some ⟨g, o, none⟩) k c ∧ (∀ j, j < k * size → W.cell? ⟨g, o + j, none⟩ = some (f j)) ∧ g < W.heap.size := by
  rcases h with ⟨_, h0⟩ | ⟨ad, c, hv, hkc, hc⟩
  · subst h0; simp at hk
  · have h0 := hc 0 hk
    have e0 : ad.add 0 = ad := by simp [Addr.add]
    rw [e0] at h0
    obtain ⟨g, o, spot⟩ := ad
    have hs : spot = none := World.cell?_spot h0
    subst hs
    exact ⟨g, o, c, hv, fun j hj => by rw [← Addr.add_mid]; exact hc j hj, World.block_lt_of_cell? W _ h0⟩


/-- Bytes as cells. -/
def BL (zs : List Nat) : List Value := zs.map fun z => .int .u8 (z : Nat)
theorem BL_length (zs : List Nat) : (BL zs).length = zs.length := by simp [BL]
theorem BL_get (zs : List Nat) (j : Nat) (h : j < zs.length) : (BL zs)[j]? = some (.int .u8 (zs[j] : Nat)) := by simp [BL, h]
theorem BL_getD (zs : List Nat) : BL zs = (List.range zs.length).map fun j => .int .u8 (zs.getD j 0 : Nat) := by
  apply List.ext_getElem
  · simp [BL]
  · intro i h1 h2
    simp [BL] at h1
    simp [BL, List.getD, h1]
theorem BL_append (a b : List Nat) : BL (a ++ b) = BL a ++ BL b := by simp [BL]
theorem BL_one (zs : List Nat) : ∀ v ∈ BL zs, v.oneCell' = true := by
  intro v hv
  simp only [BL, List.mem_map] at hv
  obtain ⟨j, _, rfl⟩ := hv
  rfl
/-- The slice v holds the bytes zs. -/
def BytesAt (W : World) (v : Value) (zs : List Nat) : Prop := RowAt W v zs.length 1 (fun j => .int .u8 (zs.getD j 0 : Nat)) ∧ zs.length ≤ 140737488355328 ∧ ∀ z ∈ zs, z < 256
theorem BytesAt.frame {W W' : World} {v : Value} {zs : List Nat} (h : BytesAt W v zs) (ho : Only (fun _ => False) W W') : BytesAt W' v zs := ⟨h.1.frame ho (fun _ e => e.elim), h.2⟩
theorem BytesAt.form {W : World} {v : Value} {zs : List Nat} (h : BytesAt W v zs) : ∃ a c, v = .slice a zs.length c ∧ zs.length ≤ c ∧ ∀ j, j < zs.length → ∃ g o, a = some ⟨g, o, none⟩ ∧ W.cell? ⟨g, o + j, none⟩ = some (.int .u8 (zs.getD j 0 : Nat)) := by
  rcases h.1 with ⟨rfl, h0⟩ | ⟨ad, c, rfl, hkc, hc⟩
  · exact ⟨none, 0, by rw [h0], by omega, fun j hj => by omega⟩
  · refine ⟨some ad, c, rfl, hkc, fun j hj => ?_⟩
    obtain ⟨g, o, c', hv, hc', _⟩ := h.1.at (by omega)
    simp only [Value.slice.injEq, Option.some.injEq] at hv
    obtain ⟨rfl, _, rfl⟩ := hv
    exact ⟨g, o, rfl, hc' j (by omega)⟩

section
variable {H : Type} {enc : TypeId × Value → H} {w : World} {base fuel : Nat} {held : Bool}
theorem cells5 : Try.prog.cellsOf 5 = 1 := by kernel_rfl
theorem bytes5 : Try.prog.bytesOf 5 = 1 := by kernel_rfl
theorem u8_bounds {z : Int} (h : (Lit.int .u8 z).wf = true) : 0 ≤ z ∧ z ≤ 255 := by
  have h' : IntKind.u8.min ≤ z ∧ z ≤ IntKind.u8.max := by simpa [Lit.wf] using h
  exact h'
/-- Bytes that come in: not as many as 2^47. -/
def InAt (W : World) (v : Value) (zs : List Nat) : Prop := BytesAt W v zs ∧ zs.length ≤ 140737488351232
theorem read_bytes {v : Value} {x : DataW H × List MemPlace} (h : DataW.trod enc Try.prog w base (fun _ => true) held fuel 23 [v] = some x) (hw : ∀ n ∈ x.1.weights Try.prog 23, n ≤ reachBytes) : ∃ zs, InAt w v zs := by
  rcases open_ints Try.underlying23 Try.underlying5 cells5 h with ⟨hcs, _⟩ | ⟨a, len, cap, zs, hcs, _, hl, hm, hz, hx, hcell, hwz⟩
  · simp at hcs
    exact ⟨[], ⟨.inl ⟨hcs, rfl⟩, Nat.zero_le _, fun _ h => by cases h⟩, Nat.zero_le _⟩
  · simp at hcs
    rw [if_pos rfl] at hz
    have hb := hw _ (by rw [hx]; simp only [DataW.weights, Try.underlying23]; exact List.mem_cons_self ..)
    rw [bytes5] at hb
    simp only [lits, List.length_map, List.length_take, List.length_drop, reachBytes] at hb
    have hlen : ((zs.take len).map Int.toNat).length = len := by rw [List.length_map, List.length_take]; omega
    refine ⟨(zs.take len).map Int.toNat, ⟨.inr ⟨a, cap, by rw [hlen]; exact hcs, by rw [hlen]; exact hl, fun j hj => ?_⟩, by rw [hlen]; omega, fun z hz' => ?_⟩, by rw [hlen]; omega⟩
    · rw [hlen] at hj
      rw [hcell j (by omega)]
      have hj2 : j < zs.length := by omega
      have : ((zs.take len).map Int.toNat).getD j 0 = (zs.getD j 0).toNat := by
        simp only [List.getD]
        rw [List.getElem?_map, List.getElem?_take_of_lt (by omega), List.getElem?_eq_getElem hj2]
        rfl
      have hz0 := u8_bounds (hwz (zs[j]) (List.getElem_mem hj2))
      show some (Value.int IntKind.u8 (zs.getD j 0)) = some (Value.int IntKind.u8 ((((zs.take len).map Int.toNat).getD j 0 : Nat) : Int))
      rw [this]
      simp only [List.getD, List.getElem?_eq_getElem hj2, Option.getD_some]
      rw [Int.toNat_of_nonneg hz0.1]
    · obtain ⟨y, hy, rfl⟩ := List.mem_map.1 hz'
      have := u8_bounds (hwz y (List.mem_of_mem_take hy))
      omega
end

theorem info_parts {t : TypeId} {z : Value} {s b : Nat} (h : (Try.prog.info? t).map (fun i => (i.zero, i.size, i.bytes)) = some (some z, s, b)) : ∃ i, Try.prog.info? t = some i ∧ i.zero = some z ∧ i.size = s ∧ i.bytes = b := by
  cases hi : Try.prog.info? t with
  | none => rw [hi] at h; simp at h
  | some i => rw [hi] at h; simp at h; exact ⟨i, rfl, h.1, h.2.1, h.2.2⟩
theorem info5 : (Try.prog.info? 5).map (fun i => (i.zero, i.size, i.bytes)) = some (some (.int .u8 0), 1, 1) := by kernel_rfl
theorem info23 : (Try.prog.info? 23).map (fun i => (i.zero, i.size, i.bytes)) = some (some (.slice none 0 0), 1, 24) := by kernel_rfl
theorem empty23 (w : World) : (Instr.buildSlice 23 0 #[]).run Try.prog w = .ok (.slice (some ⟨w.heap.size, 0, none⟩) 0 0) (w.alloc (.cells #[] 5)) := by kernel_rfl
section
variable {P : Program} {op : Oper} {a : Act} {w w' : World} {K : Act → World → Prop} {Q : Exit → Act → World → Prop}
theorem wp_append_run (s x : Operand) (t : TypeId) (ho : op.op = .call { callee := .builtin .append, args := #[s, x], argTypes := #[t, t] }) (v1 v2 v' : Value) (hs : a.eval s = v1) (hx : a.eval x = v2)
    (hr : (Builtin.append_ #[t, t] op.type #[v1, v2]).run P w = .ok v' w') (h : K (a.put op.dst v') w') : op.wp P a w K Q := by
  unfold Oper.wp
  simp [execOp, ho, resolve, invoke, builtin, hs, hx, hr, Result.andThen]
  exact h
theorem step_append_run {ops : Array Oper} {E : Prop} (hgd : op.guard = none) (s x : Operand) (t : TypeId) (ho : op.op = .call { callee := .builtin .append, args := #[s, x], argTypes := #[t, t] }) (v1 v2 v' : Value) (hs : a.eval s = v1) (hx : a.eval x = v2)
    (hr : ∀ ty, (Builtin.append_ #[t, t] ty #[v1, v2]).run P w = .ok v' w') (h : K (a.put op.dst v') w') : if Region.wanted op (yielded ops a.tmps) = true then Oper.wp P op a w K Q else E := by
  have hw : Region.wanted op (yielded ops a.tmps) = true := by simp [Region.wanted, hgd]
  rw [if_pos hw]
  exact wp_append_run s x t ho v1 v2 v' hs hx (hr _) h
theorem wpList_append_run {ops : Array Oper} {rest : List Oper} (hgd : op.guard = none) (s x : Operand) (t : TypeId) (ho : op.op = .call { callee := .builtin .append, args := #[s, x], argTypes := #[t, t] }) (v1 v2 v' : Value) (hs : a.eval s = v1) (hx : a.eval x = v2)
    (hr : ∀ ty, (Builtin.append_ #[t, t] ty #[v1, v2]).run P w = .ok v' w') (h : wpList P ops Q rest (a.put op.dst v') w') : wpList P ops Q (op :: rest) a w :=
  wpList_plain hgd fun _ hK => wp_append_run s x t ho v1 v2 v' hs hx (hr _) (hK _ _ h)
end

/-- append(T{}, v...): a copy in new memory, of one-cell elements. -/
theorem app_copy (t e : TypeId) (i : TypeInfo) (z : Value) (bytes : Nat) (ht : Try.prog.underlying t = some (.slice e)) (hi : Try.prog.info? e = some i) (hz : i.zero = some z) (hsize : i.size = 1) (hby : i.bytes = bytes) (hzs : z.cells.size = 1) (hb1 : bytes = 1)
    (w : World) (v : Value) (m : Nat) (f : Nat → Value) (hv : RowAt w v m 1 f) (ho : ∀ j, (f j).oneCell' = true) (hm : m ≤ 140737488355328) :
    ∃ a cap w', (∀ ty, (Builtin.append_ #[t, t] ty #[.slice (some ⟨w.heap.size, 0, none⟩) 0 0, v]).run Try.prog (w.alloc (.cells #[] e)) = .ok (.slice a m cap) w') ∧ w'.ownsRow w.heap.size e 1 (.slice a m cap) m ((List.range m).map f) ∧ Only (fun _ => False) w w' := by
  have hown : (w.alloc (.cells #[] e)).ownsRow w.heap.size e 1 (.slice (some ⟨w.heap.size, 0, none⟩) 0 0) 0 [] := World.ownsRow_made w #[] 0 (Nat.le_refl _) (Nat.zero_le _) rfl
  have oA : Only (fun _ => False) w (w.alloc (.cells #[] e)) := (Only.refl _ w).alloc _
  rcases hv with ⟨rfl, rfl⟩ | ⟨ad, c, rfl, hkc, hc⟩
  · exact ⟨some ⟨w.heap.size, 0, none⟩, 0, _, fun ty => run_append_owned_none _ w.heap.size t ty e i 1 ht hi _ 0 [] hown, by simpa using hown, oA⟩
  · have hnews : ∀ j u, ((List.range m).map f)[j]? = some u → (w.alloc (.cells #[] e)).cell? (ad.add j) = some u := fun j u hu => by
      have hj : j < m := by have := (List.getElem?_eq_some_iff.1 hu).1; simpa using this
      simp [hj] at hu
      rw [← hu]
      exact oA.cell (hc j (by omega)) (fun e => e)
    have h1 : ∀ u ∈ (List.range m).map f, u.oneCell' = true := fun u hu => by obtain ⟨j, _, rfl⟩ := List.mem_map.1 hu; exact ho j
    have key := fun ty => run_append_own_at (P := Try.prog) (w.alloc (.cells #[] e)) w.heap.size t ty e i z 1 bytes ht hi hz hsize hby hzs (by omega) _ 0 [] hown ad m c ((List.range m).map f) (by simp) hnews h1 (by unfold maxLen; omega) (by subst hb1; omega) (by simp)
    obtain ⟨v', w', hr, own', hg, _, _⟩ := key 0
    obtain ⟨a, cap, rfl⟩ := ownsRow_slice own'
    rw [Nat.zero_add] at own' hr
    refine ⟨a, cap, w', fun ty => ?_, by simpa using own', oA.grown hg (fun k e hk => by simp [Value.ownBlock] at e; omega)⟩
    rw [← hr]
    rfl
theorem rowAt_own {w : World} {B e m cap : Nat} {a : Option Addr} {f : Nat → Value} (h : w.ownsRow B e 1 (.slice a m cap) m ((List.range m).map f)) : RowAt w (.slice a m cap) m 1 f := by
  rcases h.2 with ⟨h1, h2⟩ | ⟨g, c2, cur, hv, _, _, hmc, _⟩
  · exact .inl ⟨h1, h2⟩
  · simp only [Value.slice.injEq] at hv
    obtain ⟨rfl, _, rfl⟩ := hv
    refine .inr ⟨⟨g, 0, none⟩, cap, rfl, hmc, fun j hj => ?_⟩
    rw [Addr.add_mid, Nat.zero_add, h.cellAt j (by omega)]
    have hj' : j < m := by omega
    simp [hj']


/-- Bytes that were made since B. -/
def Fresh (w : World) (B : Nat) (v : Value) (zs : List Nat) : Prop := w.ownsRow B 5 1 v zs.length (BL zs) ∧ zs.length ≤ 140737488355328 ∧ ∀ z ∈ zs, z < 256
theorem Fresh.bytes {w : World} {B : Nat} {v : Value} {zs : List Nat} (h : Fresh w B v zs) : BytesAt w v zs := by
  obtain ⟨a, c, rfl⟩ := ownsRow_slice h.1
  exact ⟨rowAt_own (by rw [← BL_getD]; exact h.1), h.2⟩
theorem Fresh.frame {w w' : World} {B : Nat} {v : Value} {zs : List Nat} (h : Fresh w B v zs) (ho : Only (fun _ => False) w w') : Fresh w' B v zs := ⟨ho.owns h.1 (fun _ _ e => e), h.2⟩
theorem Fresh.more {w : World} {B : Nat} {v : Value} {zs l : List Nat} (h : w.ownsRow B 5 1 v (zs.length + l.length) (BL zs ++ BL l)) (hm : zs.length + l.length ≤ 140737488355328) (hz : ∀ z ∈ zs, z < 256) (hl : ∀ z ∈ l, z < 256) : Fresh w B v (zs ++ l) :=
  ⟨by rw [BL_append, List.length_append]; exact h, by rw [List.length_append]; exact hm, fun z h => (List.mem_append.1 h).elim (hz z) (hl z)⟩
theorem Fresh.form {w : World} {B : Nat} {v : Value} {zs : List Nat} (h : Fresh w B v zs) : ∃ a c, v = .slice a zs.length c := ownsRow_slice h.1
end Go.Proofs.Ytpoakkdkibameab
