/- Lists that lie apart are marked and grown, one after the other: none of them touches another. -/
import Derived.Test.YtdcflnfdaijpdabWhole
namespace Go.Proofs.Ytdcflnfdaijpdab
open Go.RowKit
set_option linter.unusedSimpArgs false
set_option linter.unusedVariables false

/-- A slice of n elements, all whose room is there. -/
def Room (w : World) (v : Value) (n : Nat) : Prop :=
  ∃ a c, v = .slice a n c ∧ n ≤ c ∧ c ≤ maxLen ∧ (a = none → c = 0) ∧ (0 < c → ∃ g o, a = some ⟨g, o, none⟩ ∧ w.there g o c)
theorem Whole.room {w : World} {v : Value} {n : Nat} {f : Nat → Value} (h : Whole w v n f) : Room w v n := by
  obtain ⟨a, c, rfl, h1, h2, h3, h4⟩ := h
  exact ⟨a, c, rfl, h1, h2, h3, fun hc => by obtain ⟨g, o, rfl, ht, _⟩ := h4 hc; exact ⟨g, o, rfl, ht⟩⟩
theorem Room.th {w w' : World} {v : Value} {n : Nat} (h : Room w v n) (t : Th w w') : Room w' v n := by
  obtain ⟨a, c, rfl, h1, h2, h3, h4⟩ := h
  exact ⟨a, c, rfl, h1, h2, h3, fun hc => by obtain ⟨g, o, rfl, ht⟩ := h4 hc; exact ⟨g, o, rfl, t _ _ _ ht⟩⟩
theorem Room.form {w : World} {v : Value} {n : Nat} (h : Room w v n) : ∃ a c, v = .slice a n c := by
  obtain ⟨a, c, rfl, _⟩ := h
  exact ⟨a, c, rfl⟩
theorem Room.at_ {w : World} {v : Value} {n : Nat} (h : Room w v n) (hn : 0 < n) : ∃ g o c, v = .slice (some ⟨g, o, none⟩) n c ∧ w.there g o n := by
  obtain ⟨a, c, rfl, h1, h2, h3, h4⟩ := h
  obtain ⟨g, o, rfl, ht⟩ := h4 (by omega)
  exact ⟨g, o, c, rfl, fun j hj => ht j (by omega)⟩
/-- The first m elements of v are x. -/
def Marked (w : World) (v : Value) (n m : Nat) (x : Value) : Prop := Room w v n ∧ ∀ g o c, v = .slice (some ⟨g, o, none⟩) n c → ∀ j, j < m → w.cell? ⟨g, o + j, none⟩ = some x
theorem Marked.zero {w : World} {v : Value} {n : Nat} {x : Value} (h : Room w v n) : Marked w v n 0 x := ⟨h, fun _ _ _ _ j hj => absurd hj (Nat.not_lt_zero _)⟩
theorem Marked.whole {w : World} {v : Value} {n : Nat} {x : Value} (h : Marked w v n n x) : Whole w v n (fun _ => x) := by
  obtain ⟨⟨a, c, rfl, h1, h2, h3, h4⟩, hm⟩ := h
  exact ⟨a, c, rfl, h1, h2, h3, fun hc => by obtain ⟨g, o, rfl, ht⟩ := h4 hc; exact ⟨g, o, rfl, ht, fun j hj => hm g o c rfl j hj⟩⟩
theorem Marked.more {w : World} {n m g o c : Nat} {x : Value} (h : Marked w (.slice (some ⟨g, o, none⟩) n c) n m x) (hm : m < n) : Marked (w.setCell ⟨g, o + m, none⟩ x) (.slice (some ⟨g, o, none⟩) n c) n (m + 1) x := by
  have hs : w.setCell ⟨g, o + m, none⟩ x = w.setCells g (o + m) [x] := rfl
  refine ⟨h.1.th (by rw [hs]; exact Th.setCells _ _ _ _), fun g' o' c' hv j hj => ?_⟩
  simp only [Value.slice.injEq, Option.some.injEq, Addr.mk.injEq, and_true, true_and] at hv
  obtain ⟨⟨rfl, rfl⟩, rfl⟩ := hv
  obtain ⟨g', o', c', hv, ht⟩ := h.1.at_ (by omega)
  simp only [Value.slice.injEq, Option.some.injEq, Addr.mk.injEq, and_true, true_and] at hv
  obtain ⟨⟨rfl, rfl⟩, rfl⟩ := hv
  rw [hs]
  by_cases e : j = m
  · subst e
    have := World.cell?_setCells_in g [x] (o + j) w (fun i hi => by simp at hi; subst hi; exact (ht j (by omega)).1) 0 (by simp)
    simpa using this
  · rw [World.cell?_setCells_out g _ _ _ _ (fun _ _ => by simp; omega)]
    exact h.2 g o c rfl j (by omega)

/-- k lists, each with room of its own. -/
structure Lists (w : World) (k : Nat) (xs : Nat → Value) (ns : Nat → Nat) : Prop where
  room : ∀ i, i < k → Room w (xs i) (ns i)
  lt : ∀ i b, i < k → (xs i).ownBlock = some b → b < w.heap.size
  sep : ∀ i j b, i < k → j < k → (xs i).ownBlock = some b → (xs j).ownBlock = some b → i = j
  max : ∀ i, i < k → ns i ≤ 140737488351232
def lsB (k : Nat) (xs : Nat → Value) : Nat → Prop := fun b => ∃ i, i < k ∧ (xs i).ownBlock = some b
theorem Lists.next {w w' : World} {k : Nat} {xs : Nat → Value} {ns : Nat → Nat} (h : Lists w k xs ns) (t : Th w w') (hs : w.heap.size ≤ w'.heap.size) : Lists w' k xs ns :=
  ⟨fun i hi => (h.room i hi).th t, fun i b hi e => by have := h.lt i b hi e; omega, h.sep, h.max⟩

/-- The first i lists are grown; the grown ones lie behind gv. -/
structure Gr (w1 w : World) (k : Nat) (xs : Nat → Value) (ns : Nat → Nat) (M : Nat → Value) (gv : Value) (G : Nat → Value) (i : Nat) : Prop where
  only : Only (lsB k xs) w1 w
  th : Th w1 w
  row : Whole w gv i G
  rnew : ∀ b, gv.ownBlock = some b → w1.heap.size ≤ b ∧ b < w.heap.size
  at_ : ∀ q, q < i → Whole w (G q) (ns q + 9) (fun _ => M q)
  blk : ∀ q b, q < i → (G q).ownBlock = some b → ((xs q).ownBlock = some b ∨ w1.heap.size ≤ b) ∧ b < w.heap.size ∧ gv.ownBlock ≠ some b
theorem Gr.start (w1 : World) (k : Nat) (xs : Nat → Value) (ns : Nat → Nat) (M : Nat → Value) (G : Nat → Value) : Gr w1 w1 k xs ns M (.slice none 0 0) G 0 :=
  ⟨Only.refl _ _, Th.refl _, Whole.nil _ _, fun b e => (by cases e), fun q hq => absurd hq (Nat.not_lt_zero _), fun q b hq => absurd hq (Nat.not_lt_zero _)⟩
theorem Gr.step {w1 w w' : World} {k : Nat} {xs : Nat → Value} {ns : Nat → Nat} {M : Nat → Value} {gv : Value} {G : Nat → Value} {i : Nat} {t : Nat → Prop} (h : Gr w1 w k xs ns M gv G i) (ho : Only t w w') (ht : Th w w') (h1 : ∀ b, t b → b < w1.heap.size → lsB k xs b) (h2 : ∀ b, t b → gv.ownBlock ≠ some b) (h3 : ∀ q b, q < i → t b → (G q).ownBlock ≠ some b) : Gr w1 w' k xs ns M gv G i :=
  ⟨h.only.trans ho (fun b hb e => h1 b e hb), h.th.trans ht, h.row.frame ho (fun b e hb => h2 b hb e), fun b e => by have := h.rnew b e; have := ho.size; omega,
    fun q hq => (h.at_ q hq).frame ho (fun b e hb => h3 q b hq hb e), fun q b hq e => by obtain ⟨a1, a2, a3⟩ := h.blk q b hq e; exact ⟨a1, by have := ho.size; omega, a3⟩⟩
/-- The list xs i is being marked. -/
structure Gm (w1 w : World) (k : Nat) (xs : Nat → Value) (ns : Nat → Nat) (M : Nat → Value) (gv : Value) (G : Nat → Value) (i m : Nat) : Prop where
  gr : Gr w1 w k xs ns M gv G i
  md : Marked w (xs i) (ns i) m (M i)
theorem Gr.other {w1 w : World} {k : Nat} {xs : Nat → Value} {ns : Nat → Nat} {M : Nat → Value} {gv : Value} {G : Nat → Value} {i : Nat} (L : Lists w1 k xs ns) (h : Gr w1 w k xs ns M gv G i) (hi : i < k) (b : Nat) (hb : (xs i).ownBlock = some b) : lsB k xs b ∧ gv.ownBlock ≠ some b ∧ ∀ q, q < i → (G q).ownBlock ≠ some b := by
  have hl := L.lt i b hi hb
  refine ⟨⟨i, hi, hb⟩, fun e => by have := h.rnew b e; omega, fun q hq e => ?_⟩
  rcases (h.blk q b hq e).1 with e | e
  · have := L.sep q i b (by omega) hi e hb; omega
  · omega
theorem Gm.start {w1 w : World} {k : Nat} {xs : Nat → Value} {ns : Nat → Nat} {M : Nat → Value} {gv : Value} {G : Nat → Value} {i : Nat} (L : Lists w1 k xs ns) (h : Gr w1 w k xs ns M gv G i) (hi : i < k) : Gm w1 w k xs ns M gv G i 0 :=
  ⟨h, Marked.zero ((L.room i hi).th h.th)⟩
theorem Gm.more {w1 w : World} {k : Nat} {xs : Nat → Value} {ns : Nat → Nat} {M : Nat → Value} {gv : Value} {G : Nat → Value} {i m g o c : Nat} (L : Lists w1 k xs ns) (h : Gm w1 w k xs ns M gv G i m) (hi : i < k) (hm : m < ns i) (hx : xs i = .slice (some ⟨g, o, none⟩) (ns i) c) : Gm w1 (w.setCell ⟨g, o + m, none⟩ (M i)) k xs ns M gv G i (m + 1) := by
  have hb : (xs i).ownBlock = some g := by rw [hx]; rfl
  obtain ⟨o1, o2, o3⟩ := h.gr.other L hi g hb
  refine ⟨h.gr.step (t := fun b => b = g) ((Only.refl _ w).setCell _ _ (fun _ => rfl)) (Th.setCells w g (o + m) [M i]) ?_ ?_ ?_, ?_⟩
  · rintro b rfl _; exact o1
  · rintro b rfl; exact o2
  · rintro q b hq rfl; exact o3 q hq
  · have := h.md
    rw [hx] at this ⊢
    exact this.more hm
/-- The list xs i is being grown; g is what it has grown to. -/
structure Gw (w1 w : World) (k : Nat) (xs : Nat → Value) (ns : Nat → Nat) (M : Nat → Value) (gv : Value) (G : Nat → Value) (i : Nat) (g : Value) (m : Nat) : Prop where
  gr : Gr w1 w k xs ns M gv G i
  row : Whole w g (ns i + m) (fun _ => M i)
  free : ∀ b, g.ownBlock = some b → ((xs i).ownBlock = some b ∨ w1.heap.size ≤ b) ∧ b < w.heap.size ∧ gv.ownBlock ≠ some b ∧ ∀ q, q < i → (G q).ownBlock ≠ some b
theorem Gw.start {w1 w : World} {k : Nat} {xs : Nat → Value} {ns : Nat → Nat} {M : Nat → Value} {gv : Value} {G : Nat → Value} {i : Nat} (L : Lists w1 k xs ns) (h : Gm w1 w k xs ns M gv G i (ns i)) (hi : i < k) : Gw w1 w k xs ns M gv G i (xs i) 0 :=
  ⟨h.gr, h.md.whole, fun b hb => ⟨.inl hb, by have := L.lt i b hi hb; have := h.gr.only.size; omega, (h.gr.other L hi b hb).2⟩⟩
theorem Gw.more {w1 w w' : World} {k : Nat} {xs : Nat → Value} {ns : Nat → Nat} {M : Nat → Value} {gv : Value} {G : Nat → Value} {i : Nat} {g v' : Value} {m : Nat} (o : Obj) (h : Gw w1 w k xs ns M gv G i g m) (hi : i < k)
    (hv : Whole w' v' (ns i + m + 1) (fun j => if j = ns i + m then M i else M i)) (hg : (w.alloc o).grownBy w' g.ownBlock) (hb : v'.ownBlock = g.ownBlock ∨ ∀ b, v'.ownBlock = some b → (w.alloc o).heap.size ≤ b ∧ b < w'.heap.size) (ht : Th (w.alloc o) w') :
    Gw w1 w' k xs ns M gv G i v' (m + 1) := by
  have oA : Only (fun b => g.ownBlock = some b) w (w.alloc o) := (Only.refl _ w).alloc o
  have o1 : Only (fun b => g.ownBlock = some b) w w' := oA.grown hg (fun b hb _ => hb)
  have t1 : Th w w' := (Only.th ((Only.refl _ w).alloc o)).trans ht
  have hs : w.heap.size ≤ (w.alloc o).heap.size := by simp
  have gr' : Gr w1 w' k xs ns M gv G i := h.gr.step o1 t1 (fun b e hl => ?_) (fun b e => (h.free b e).2.2.1) (fun q b hq e => (h.free b e).2.2.2 q hq)
  · refine ⟨gr', ?_, fun b e => ?_⟩
    · have := hv.congr (f' := fun _ => M i) (fun j _ => by simp)
      exact this
    · rcases hb with hb | hb
      · obtain ⟨a1, a2, a3⟩ := h.free b (hb ▸ e)
        exact ⟨a1, by have := o1.size; omega, a3⟩
      · obtain ⟨b1, b2⟩ := hb b e
        have := h.gr.only.size
        refine ⟨.inr (by omega), b2, fun e => by have := h.gr.rnew b e; omega, fun q hq e => by have := (h.gr.blk q b hq e).2.1; omega⟩
  · rcases (h.free b e).1 with e | e
    · exact ⟨i, hi, e⟩
    · omega
/-- The grown list is put to the others. -/
theorem Gr.more {w1 w w' : World} {k : Nat} {xs : Nat → Value} {ns : Nat → Nat} {M : Nat → Value} {gv : Value} {G : Nat → Value} {i : Nat} {g v' : Value} (o : Obj) (h : Gw w1 w k xs ns M gv G i g 9)
    (hv : Whole w' v' (i + 1) (fun j => if j = i then g else G j)) (hg : (w.alloc o).grownBy w' gv.ownBlock) (hb : v'.ownBlock = gv.ownBlock ∨ ∀ b, v'.ownBlock = some b → (w.alloc o).heap.size ≤ b ∧ b < w'.heap.size) (ht : Th (w.alloc o) w') :
    Gr w1 w' k xs ns M v' (fun j => if j = i then g else G j) (i + 1) := by
  have oA : Only (fun b => gv.ownBlock = some b) w (w.alloc o) := (Only.refl _ w).alloc o
  have o1 : Only (fun b => gv.ownBlock = some b) w w' := oA.grown hg (fun b hb _ => hb)
  have t1 : Th w w' := (Only.th ((Only.refl _ w).alloc o)).trans ht
  have hs : w.heap.size ≤ (w.alloc o).heap.size := by simp
  have s1 := o1.size
  have s2 := h.gr.only.size
  have hnew : ∀ b, v'.ownBlock = some b → gv.ownBlock = some b ∨ w.heap.size ≤ b ∧ b < w'.heap.size := fun b e => by
    rcases hb with hb | hb
    · exact .inl (hb ▸ e)
    · have := hb b e; exact .inr ⟨by omega, by omega⟩
  refine ⟨h.gr.only.trans o1 (fun b hl e => by have := h.gr.rnew b e; omega), h.gr.th.trans t1, hv, fun b e => ?_, fun q hq => ?_, fun q b hq e => ?_⟩
  · rcases hnew b e with e | e
    · have := h.gr.rnew b e; omega
    · omega
  · by_cases eq : q = i
    · subst eq
      simp only [if_true]
      exact h.row.frame o1 (fun b e e' => (h.free b e).2.2.1 e')
    · simp only [if_neg eq]
      exact (h.gr.at_ q (by omega)).frame o1 (fun b e e' => (h.gr.blk q b (by omega) e).2.2 e')
  · by_cases eq : q = i
    · subst eq
      simp only [if_true] at e
      obtain ⟨a1, a2, a3, _⟩ := h.free b e
      exact ⟨a1, by omega, fun e' => by rcases hnew b e' with e | e; exact a3 e; omega⟩
    · simp only [if_neg eq] at e
      obtain ⟨a1, a2, a3⟩ := h.gr.blk q b (by omega) e
      exact ⟨a1, by omega, fun e' => by rcases hnew b e' with e | e; exact a3 e; omega⟩
/-- All are grown: each shows its own mark. -/
theorem Gr.done {w1 w : World} {k : Nat} {xs : Nat → Value} {ns : Nat → Nat} {M : Nat → Value} {gv : Value} {G : Nat → Value} (h : Gr w1 w k xs ns M gv G k) (q : Nat) (hq : q < k) :
    ∃ b o c, gv = .slice (some ⟨b, o, none⟩) k c ∧ ∃ g o' c', w.cell? ⟨b, o + q, none⟩ = some (.slice (some ⟨g, o', none⟩) (ns q + 9) c') ∧ ∀ j, j < ns q + 9 → w.cell? ⟨g, o' + j, none⟩ = some (M q) := by
  obtain ⟨b, o, c, hv, hc, _⟩ := h.row.form (by omega)
  obtain ⟨g, o', c', hv', hc', _⟩ := (h.at_ q hq).form (by omega)
  exact ⟨b, o, c, hv, g, o', c', by rw [hc q hq, hv'], hc'⟩

section
variable {P : Program}
theorem wpList_append_whole {ops : Array Oper} {rest : List Oper} {op : Oper} {a : Act} {Q : Exit → Act → World → Prop} (w : World) (hgd : op.guard = none) (s x : Operand) (t : TypeId)
    (ho : op.op = .call { callee := .builtin .append, args := #[s, x], argTypes := #[t, t] }) (e : TypeId) (i : TypeInfo) (z : Value) (bytes : Nat) (ht : P.underlying t = some (.slice e)) (hi : P.info? e = some i) (hz : i.zero = some z) (hsize : i.size = 1) (hby : i.bytes = bytes) (hzs : z.cells.size = 1)
    (v : Value) (n : Nat) (f : Nat → Value) (hs : a.eval s = v) (hw : Whole w v n f) (ad : Addr) (u : Value) (hx : a.eval x = .slice (some ad) 1 1) (hu : w.cell? ad = some u) (h1 : u.oneCell' = true) (hm : n + 1 ≤ maxLen) (hb : (n + 1) * bytes ≤ 140737488355328)
    (h : ∀ v' w', Whole w' v' (n + 1) (fun j => if j = n then u else f j) → w.grownBy w' v.ownBlock → (v'.ownBlock = v.ownBlock ∨ ∀ b, v'.ownBlock = some b → w.heap.size ≤ b ∧ b < w'.heap.size) → Th w w' → wpList P ops Q rest (a.put op.dst v') w') :
    wpList P ops Q (op :: rest) a w := by
  refine wpList_plain hgd fun K hK => ?_
  obtain ⟨v', w', hr, h2, h3, h4, h5⟩ := run_append_whole (P := P) w t op.type e i z bytes ht hi hz hsize hby hzs v n f hw ad u (fun j u' hu' => by
    cases j with
    | zero => simp at hu'; subst hu'; simpa [Addr.add] using hu
    | succ j => simp at hu') h1 hm hb
  unfold Oper.wp execOp
  simp only [ho, resolve, invoke, builtin, Sem.run_bind, Sem.run_pure, Result.andThen_ok, List.map_toArray, List.map_cons, List.map_nil, hs, hx, hr]
  exact hK _ _ (h v' w' h2 h3 h4 h5)
end
end Go.Proofs.Ytdcflnfdaijpdab
