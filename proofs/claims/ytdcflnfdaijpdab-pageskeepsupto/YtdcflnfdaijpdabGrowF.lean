/- Lists that lie apart are marked, each element by itself, and grown, one after the other. -/
import Derived.Test.YtdcflnfdaijpdabGrow
namespace Go.Proofs.Ytdcflnfdaijpdab
open Go.RowKit
set_option linter.unusedSimpArgs false
set_option linter.unusedVariables false

/-- The first m elements of v are x. -/
def MarkedF (w : World) (v : Value) (n m : Nat) (x : Nat → Value) : Prop := Room w v n ∧ ∀ g o c, v = .slice (some ⟨g, o, none⟩) n c → ∀ j, j < m → w.cell? ⟨g, o + j, none⟩ = some (x j)
theorem MarkedF.zero {w : World} {v : Value} {n : Nat} {x : Nat → Value} (h : Room w v n) : MarkedF w v n 0 x := ⟨h, fun _ _ _ _ j hj => absurd hj (Nat.not_lt_zero _)⟩
theorem MarkedF.whole {w : World} {v : Value} {n : Nat} {x : Nat → Value} (h : MarkedF w v n n x) : Whole w v n x := by
  obtain ⟨⟨a, c, rfl, h1, h2, h3, h4⟩, hm⟩ := h
  exact ⟨a, c, rfl, h1, h2, h3, fun hc => by obtain ⟨g, o, rfl, ht⟩ := h4 hc; exact ⟨g, o, rfl, ht, fun j hj => hm g o c rfl j hj⟩⟩
theorem MarkedF.more {w : World} {n m g o c : Nat} {x : Nat → Value} (h : MarkedF w (.slice (some ⟨g, o, none⟩) n c) n m x) (hm : m < n) : MarkedF (w.setCell ⟨g, o + m, none⟩ (x m)) (.slice (some ⟨g, o, none⟩) n c) n (m + 1) x := by
  have hs : w.setCell ⟨g, o + m, none⟩ (x m) = w.setCells g (o + m) [x m] := rfl
  refine ⟨h.1.th (by rw [hs]; exact Th.setCells _ _ _ _), fun g' o' c' hv j hj => ?_⟩
  simp only [Value.slice.injEq, Option.some.injEq, Addr.mk.injEq, and_true, true_and] at hv
  obtain ⟨⟨rfl, rfl⟩, rfl⟩ := hv
  obtain ⟨g', o', c', hv, ht⟩ := h.1.at_ (by omega)
  simp only [Value.slice.injEq, Option.some.injEq, Addr.mk.injEq, and_true, true_and] at hv
  obtain ⟨⟨rfl, rfl⟩, rfl⟩ := hv
  rw [hs]
  by_cases e : j = m
  · subst e
    have := World.cell?_setCells_in g [x j] (o + j) w (fun i hi => by simp at hi; subst hi; exact (ht j (by omega)).1) 0 (by simp)
    simpa using this
  · rw [World.cell?_setCells_out g _ _ _ _ (fun _ _ => by simp; omega)]
    exact h.2 g o c rfl j (by omega)

theorem MarkedF.frame {w w' : World} {v : Value} {n m : Nat} {x : Nat → Value} {bs : Nat → Prop} (h : MarkedF w v n m x) (ho : Only bs w w') (ht : Th w w') (hn : ∀ b, v.ownBlock = some b → ¬ bs b) : MarkedF w' v n m x :=
  ⟨h.1.th ht, fun g o c hv j hj => ho.cell (h.2 g o c hv j hj) (hn g (by rw [hv]; rfl))⟩

/-- The first i lists are grown; the grown ones lie behind gv. -/
structure GrF (w1 w : World) (k : Nat) (xs : Nat → Value) (ns : Nat → Nat) (M : Nat → Nat → Value) (gv : Value) (G : Nat → Value) (i : Nat) : Prop where
  only : Only (lsB k xs) w1 w
  th : Th w1 w
  row : Whole w gv i G
  rnew : ∀ b, gv.ownBlock = some b → w1.heap.size ≤ b ∧ b < w.heap.size
  at_ : ∀ q, q < i → Whole w (G q) (ns q + 9) (M q)
  old : ∀ q, q < i → MarkedF w (xs q) (ns q) (ns q) (M q)
  blk : ∀ q b, q < i → (G q).ownBlock = some b → ((xs q).ownBlock = some b ∨ w1.heap.size ≤ b) ∧ b < w.heap.size ∧ gv.ownBlock ≠ some b
theorem GrF.start (w1 : World) (k : Nat) (xs : Nat → Value) (ns : Nat → Nat) (M : Nat → Nat → Value) (G : Nat → Value) : GrF w1 w1 k xs ns M (.slice none 0 0) G 0 :=
  ⟨Only.refl _ _, Th.refl _, Whole.nil _ _, fun b e => (by cases e), fun q hq => absurd hq (Nat.not_lt_zero _), fun q hq => absurd hq (Nat.not_lt_zero _), fun q b hq => absurd hq (Nat.not_lt_zero _)⟩
theorem GrF.step {w1 w w' : World} {k : Nat} {xs : Nat → Value} {ns : Nat → Nat} {M : Nat → Nat → Value} {gv : Value} {G : Nat → Value} {i : Nat} {t : Nat → Prop} (h : GrF w1 w k xs ns M gv G i) (ho : Only t w w') (ht : Th w w') (h1 : ∀ b, t b → b < w1.heap.size → lsB k xs b) (h2 : ∀ b, t b → gv.ownBlock ≠ some b) (h3 : ∀ q b, q < i → t b → (G q).ownBlock ≠ some b) (h4 : ∀ q b, q < i → t b → (xs q).ownBlock ≠ some b) : GrF w1 w' k xs ns M gv G i :=
  ⟨h.only.trans ho (fun b hb e => h1 b e hb), h.th.trans ht, h.row.frame ho (fun b e hb => h2 b hb e), fun b e => by have := h.rnew b e; have := ho.size; omega,
    fun q hq => (h.at_ q hq).frame ho (fun b e hb => h3 q b hq hb e), fun q hq => (h.old q hq).frame ho ht (fun b e hb => h4 q b hq hb e), fun q b hq e => by obtain ⟨a1, a2, a3⟩ := h.blk q b hq e; exact ⟨a1, by have := ho.size; omega, a3⟩⟩
/-- The list xs i is being marked. -/
structure GmF (w1 w : World) (k : Nat) (xs : Nat → Value) (ns : Nat → Nat) (M : Nat → Nat → Value) (gv : Value) (G : Nat → Value) (i m : Nat) : Prop where
  gr : GrF w1 w k xs ns M gv G i
  md : MarkedF w (xs i) (ns i) m (M i)
theorem GrF.other {w1 w : World} {k : Nat} {xs : Nat → Value} {ns : Nat → Nat} {M : Nat → Nat → Value} {gv : Value} {G : Nat → Value} {i : Nat} (L : Lists w1 k xs ns) (h : GrF w1 w k xs ns M gv G i) (hi : i < k) (b : Nat) (hb : (xs i).ownBlock = some b) : lsB k xs b ∧ gv.ownBlock ≠ some b ∧ (∀ q, q < i → (G q).ownBlock ≠ some b) ∧ ∀ q, q < i → (xs q).ownBlock ≠ some b := by
  have hl := L.lt i b hi hb
  refine ⟨⟨i, hi, hb⟩, fun e => by have := h.rnew b e; omega, fun q hq e => ?_, fun q hq e => by have := L.sep q i b (by omega) hi e hb; omega⟩
  rcases (h.blk q b hq e).1 with e | e
  · have := L.sep q i b (by omega) hi e hb; omega
  · omega
theorem GmF.start {w1 w : World} {k : Nat} {xs : Nat → Value} {ns : Nat → Nat} {M : Nat → Nat → Value} {gv : Value} {G : Nat → Value} {i : Nat} (L : Lists w1 k xs ns) (h : GrF w1 w k xs ns M gv G i) (hi : i < k) : GmF w1 w k xs ns M gv G i 0 :=
  ⟨h, MarkedF.zero ((L.room i hi).th h.th)⟩
theorem GmF.more {w1 w : World} {k : Nat} {xs : Nat → Value} {ns : Nat → Nat} {M : Nat → Nat → Value} {gv : Value} {G : Nat → Value} {i m g o c : Nat} (L : Lists w1 k xs ns) (h : GmF w1 w k xs ns M gv G i m) (hi : i < k) (hm : m < ns i) (hx : xs i = .slice (some ⟨g, o, none⟩) (ns i) c) : GmF w1 (w.setCell ⟨g, o + m, none⟩ (M i m)) k xs ns M gv G i (m + 1) := by
  have hb : (xs i).ownBlock = some g := by rw [hx]; rfl
  obtain ⟨o1, o2, o3, o4⟩ := h.gr.other L hi g hb
  refine ⟨h.gr.step (t := fun b => b = g) ((Only.refl _ w).setCell _ _ (fun _ => rfl)) (Th.setCells w g (o + m) [M i m]) ?_ ?_ ?_ ?_, ?_⟩
  · rintro b rfl _; exact o1
  · rintro b rfl; exact o2
  · rintro q b hq rfl; exact o3 q hq
  · rintro q b hq rfl; exact o4 q hq
  · have := h.md
    rw [hx] at this ⊢
    exact this.more hm
/-- The list xs i is being grown; g is what it has grown to. -/
structure GwF (w1 w : World) (k : Nat) (xs : Nat → Value) (ns : Nat → Nat) (M : Nat → Nat → Value) (gv : Value) (G : Nat → Value) (i : Nat) (g : Value) (m : Nat) : Prop where
  gr : GrF w1 w k xs ns M gv G i
  row : Whole w g (ns i + m) (M i)
  oldi : MarkedF w (xs i) (ns i) (ns i) (M i)
  free : ∀ b, g.ownBlock = some b → ((xs i).ownBlock = some b ∨ w1.heap.size ≤ b) ∧ b < w.heap.size ∧ gv.ownBlock ≠ some b ∧ (∀ q, q < i → (G q).ownBlock ≠ some b) ∧ ∀ q, q < i → (xs q).ownBlock ≠ some b
theorem GwF.start {w1 w : World} {k : Nat} {xs : Nat → Value} {ns : Nat → Nat} {M : Nat → Nat → Value} {gv : Value} {G : Nat → Value} {i : Nat} (L : Lists w1 k xs ns) (h : GmF w1 w k xs ns M gv G i (ns i)) (hi : i < k) : GwF w1 w k xs ns M gv G i (xs i) 0 :=
  ⟨h.gr, h.md.whole, h.md, fun b hb => ⟨.inl hb, by have := L.lt i b hi hb; have := h.gr.only.size; omega, (h.gr.other L hi b hb).2⟩⟩
theorem GwF.more {w1 w w' : World} {k : Nat} {xs : Nat → Value} {ns : Nat → Nat} {M : Nat → Nat → Value} {gv : Value} {G : Nat → Value} {i : Nat} {g v' : Value} {m : Nat} (o : Obj) (L : Lists w1 k xs ns) (h : GwF w1 w k xs ns M gv G i g m) (hi : i < k)
    (hv : Whole w' v' (ns i + m + 1) (fun j => if j = ns i + m then M i (ns i + m) else M i j)) (hold : MarkedF w' (xs i) (ns i) (ns i) (M i)) (hg : (w.alloc o).grownBy w' g.ownBlock) (hb : v'.ownBlock = g.ownBlock ∨ ∀ b, v'.ownBlock = some b → (w.alloc o).heap.size ≤ b ∧ b < w'.heap.size) (ht : Th (w.alloc o) w') :
    GwF w1 w' k xs ns M gv G i v' (m + 1) := by
  have oA : Only (fun b => g.ownBlock = some b) w (w.alloc o) := (Only.refl _ w).alloc o
  have o1 : Only (fun b => g.ownBlock = some b) w w' := oA.grown hg (fun b hb _ => hb)
  have t1 : Th w w' := (Only.th ((Only.refl _ w).alloc o)).trans ht
  have hs : w.heap.size ≤ (w.alloc o).heap.size := by simp
  have gr' : GrF w1 w' k xs ns M gv G i := h.gr.step o1 t1 (fun b e hl => ?_) (fun b e => (h.free b e).2.2.1) (fun q b hq e => (h.free b e).2.2.2.1 q hq) (fun q b hq e => (h.free b e).2.2.2.2 q hq)
  · refine ⟨gr', ?_, hold, fun b e => ?_⟩
    · refine hv.congr (fun j _ => ?_)
      by_cases e : j = ns i + m
      · simp [e]
      · simp [e]
    · rcases hb with hb | hb
      · obtain ⟨a1, a2, a3⟩ := h.free b (hb ▸ e)
        exact ⟨a1, by have := o1.size; omega, a3⟩
      · obtain ⟨b1, b2⟩ := hb b e
        have := h.gr.only.size
        refine ⟨.inr (by omega), b2, fun e => by have := h.gr.rnew b e; omega, fun q hq e => by have := (h.gr.blk q b hq e).2.1; omega, fun q hq e => by have := L.lt q b (by omega) e; omega⟩
  · rcases (h.free b e).1 with e | e
    · exact ⟨i, hi, e⟩
    · omega
/-- The grown list is put to the others. -/
theorem GrF.more {w1 w w' : World} {k : Nat} {xs : Nat → Value} {ns : Nat → Nat} {M : Nat → Nat → Value} {gv : Value} {G : Nat → Value} {i : Nat} {g v' : Value} (o : Obj) (L : Lists w1 k xs ns) (hi : i < k) (h : GwF w1 w k xs ns M gv G i g 9)
    (hv : Whole w' v' (i + 1) (fun j => if j = i then g else G j)) (hg : (w.alloc o).grownBy w' gv.ownBlock) (hb : v'.ownBlock = gv.ownBlock ∨ ∀ b, v'.ownBlock = some b → (w.alloc o).heap.size ≤ b ∧ b < w'.heap.size) (ht : Th (w.alloc o) w') :
    GrF w1 w' k xs ns M v' (fun j => if j = i then g else G j) (i + 1) := by
  have oA : Only (fun b => gv.ownBlock = some b) w (w.alloc o) := (Only.refl _ w).alloc o
  have o1 : Only (fun b => gv.ownBlock = some b) w w' := oA.grown hg (fun b hb _ => hb)
  have t1 : Th w w' := (Only.th ((Only.refl _ w).alloc o)).trans ht
  have hs : w.heap.size ≤ (w.alloc o).heap.size := by simp
  have s1 := o1.size
  have s2 := h.gr.only.size
  have hnew : ∀ b, v'.ownBlock = some b → gv.ownBlock = some b ∨ w.heap.size ≤ b ∧ b < w'.heap.size := fun b e => by
    rcases hb with hb | hb
    · exact .inl (hb ▸ e)
    · have := hb b e; exact .inr ⟨by omega, by omega⟩
  refine ⟨h.gr.only.trans o1 (fun b hl e => by have := h.gr.rnew b e; omega), h.gr.th.trans t1, hv, fun b e => ?_, fun q hq => ?_, fun q hq => ?_, fun q b hq e => ?_⟩
  · rcases hnew b e with e | e
    · have := h.gr.rnew b e; omega
    · omega
  · by_cases eq : q = i
    · subst eq
      simp only [if_true]
      exact h.row.frame o1 (fun b e e' => (h.free b e).2.2.1 e')
    · simp only [if_neg eq]
      exact (h.gr.at_ q (by omega)).frame o1 (fun b e e' => (h.gr.blk q b (by omega) e).2.2 e')
  · by_cases eq : q = i
    · subst eq
      exact h.oldi.frame o1 t1 (fun b e e' => by have := L.lt q b (by omega) e; have := h.gr.rnew b e'; omega)
    · exact (h.gr.old q (by omega)).frame o1 t1 (fun b e e' => by have := L.lt q b (by omega) e; have := h.gr.rnew b e'; omega)
  · by_cases eq : q = i
    · subst eq
      simp only [if_true] at e
      obtain ⟨a1, a2, a3, _⟩ := h.free b e
      exact ⟨a1, by omega, fun e' => by rcases hnew b e' with e | e; exact a3 e; omega⟩
    · simp only [if_neg eq] at e
      obtain ⟨a1, a2, a3⟩ := h.gr.blk q b (by omega) e
      exact ⟨a1, by omega, fun e' => by rcases hnew b e' with e | e; exact a3 e; omega⟩
/-- All are grown: each shows its own mark. -/
theorem GrF.done {w1 w : World} {k : Nat} {xs : Nat → Value} {ns : Nat → Nat} {M : Nat → Nat → Value} {gv : Value} {G : Nat → Value} (h : GrF w1 w k xs ns M gv G k) (q : Nat) (hq : q < k) :
    ∃ b o c, gv = .slice (some ⟨b, o, none⟩) k c ∧ ∃ g o' c', w.cell? ⟨b, o + q, none⟩ = some (.slice (some ⟨g, o', none⟩) (ns q + 9) c') ∧ ∀ j, j < ns q + 9 → w.cell? ⟨g, o' + j, none⟩ = some (M q j) := by
  obtain ⟨b, o, c, hv, hc, _⟩ := h.row.form (by omega)
  obtain ⟨g, o', c', hv', hc', _⟩ := (h.at_ q hq).form (by omega)
  exact ⟨b, o, c, hv, g, o', c', by rw [hc q hq, hv'], hc'⟩

end Go.Proofs.Ytdcflnfdaijpdab
