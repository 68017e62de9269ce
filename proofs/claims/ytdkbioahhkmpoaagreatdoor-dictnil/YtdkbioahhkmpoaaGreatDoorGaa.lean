/- Which blocks a call may have turned: definitions and small facts, with no program in them. Trees of values and items, whatever they hold, and how they lie in memory. Trees as values: Value, Values, ItemOf, ItemsOf. Trees as values, many of them: Values, ItemsOf; all of them, whatever their depth. The digits of a script: inScript, script. The digits of a text: natural. A sign cut off; the number of a word. -/
import Derived.WalkKit
import Derived.WalkSpells
import Derived.WalkLawsBesides
import Derived.OneCell
import Derived.Deep.MidRow
import Derived.Deep.AppendLies
import Derived.Deep.Upon
import Derived.Deep.WholeRow
import Derived.Test.YtdkbioahhkmpoaaGreatDoorRows
import Derived.Maps.AppendAt
import Derived.OpenShut
import Derived.Laws.RangeAny
import Derived.LoopTactic
namespace Go.Proofs.YtdkbioahhkmpoaaGreatDoor
open Go.RowKit

/-- Only blocks of bs may have turned; the streams stand; no block has gone. -/
structure Only (bs : Nat → Prop) (w w' : World) : Prop where
  os : w'.os = w.os
  tape : w'.tape = w.tape
  output : w'.output = w.output
  size : w.heap.size ≤ w'.heap.size
  block : ∀ k, k < w.heap.size → ¬ bs k → w'.heap[k]? = w.heap[k]?

theorem Only.refl (bs : Nat → Prop) (w : World) : Only bs w w := ⟨rfl, rfl, rfl, Nat.le_refl _, fun _ _ _ => rfl⟩
theorem Only.mono {bs bs' : Nat → Prop} {w w' : World} (h : Only bs w w') (hb : ∀ k, k < w.heap.size → bs k → bs' k) : Only bs' w w' :=
  ⟨h.os, h.tape, h.output, h.size, fun k hk hn => h.block k hk (fun e => hn (hb k hk e))⟩
theorem Only.trans {bs bs' : Nat → Prop} {a b c : World} (h : Only bs a b) (k : Only bs' b c) (hb : ∀ i, i < a.heap.size → bs' i → bs i) : Only bs a c :=
  ⟨k.os.trans h.os, k.tape.trans h.tape, k.output.trans h.output, Nat.le_trans h.size k.size,
    fun i hi hn => (k.block i (Nat.lt_of_lt_of_le hi h.size) (fun e => hn (hb i hi e))).trans (h.block i hi hn)⟩
theorem Only.drew {bs : Nat → Prop} {a w : World} (h : Only bs a w) : Only bs a w.drew := ⟨h.os, h.tape, h.output, h.size, h.block⟩
theorem Only.alloc {bs : Nat → Prop} {a w : World} (h : Only bs a w) (o : Obj) : Only bs a (w.alloc o) :=
  ⟨h.os, h.tape, h.output, by have := h.size; simp; omega, fun k hk hn => (Below.heap_alloc _ _ _ (Nat.lt_of_lt_of_le hk h.size)).trans (h.block k hk hn)⟩
theorem Only.setCell {bs : Nat → Prop} {a w : World} (h : Only bs a w) (p : Addr) (u : Value) (hp : p.block < a.heap.size → bs p.block) : Only bs a (w.setCell p u) :=
  ⟨h.os, h.tape, h.output, by have := h.size; simpa [World.setCell] using this, fun k hk hn => (Below.heap_setCell w p u k (fun e => hn (by rw [e]; exact hp (by rw [← e]; exact hk)))).trans (h.block k hk hn)⟩
theorem setCells_same (b : Nat) : ∀ (vs : List Value) (o : Nat) (w : World), (w.setCells b o vs).os = w.os ∧ (w.setCells b o vs).tape = w.tape ∧ (w.setCells b o vs).output = w.output ∧ (w.setCells b o vs).heap.size = w.heap.size
  | [], _, _ => ⟨rfl, rfl, rfl, rfl⟩
  | v :: r, o, w => by
    obtain ⟨h1, h2, h3, h4⟩ := setCells_same b r (o + 1) (w.setCell ⟨b, o, none⟩ v)
    exact ⟨h1, h2, h3, h4.trans (by simp [World.setCell])⟩
theorem Only.setCells {bs : Nat → Prop} {a w : World} (h : Only bs a w) (b o : Nat) (vs : List Value) (hp : b < a.heap.size → bs b) : Only bs a (w.setCells b o vs) := by
  obtain ⟨h1, h2, h3, h4⟩ := setCells_same b vs o w
  exact ⟨h1.trans h.os, h2.trans h.tape, h3.trans h.output, h4 ▸ h.size, fun k hk hn =>
    (World.heap_setCells_other w b o vs (Nat.lt_of_lt_of_le hk h.size) (fun e => hn (e ▸ hp (e ▸ hk)))).trans (h.block k hk hn)⟩
theorem Only.grown {bs : Nat → Prop} {a w w' : World} {row : Option Nat} (h : Only bs a w) (hg : w.grownBy w' row) (hr : ∀ k, row = some k → k < a.heap.size → bs k) : Only bs a w' :=
  ⟨hg.os.trans h.os, hg.tape.trans h.tape, hg.output.trans h.output, Nat.le_trans h.size hg.size,
    fun k hk hn => (hg.block k (Nat.lt_of_lt_of_le hk h.size) (fun e => hn (hr k e.symm hk))).trans (h.block k hk hn)⟩
theorem Only.below {bs : Nat → Prop} {w w' : World} {B : Nat} (h : Only bs w w') (hb : ∀ k, bs k → B ≤ k) (hB : B ≤ w.heap.size) : Below B w w' :=
  ⟨h.os, h.tape, h.output, h.size, fun k hk => h.block k (by omega) (fun e => by have := hb k e; omega)⟩
theorem Only.cell {bs : Nat → Prop} {w w' : World} (h : Only bs w w') {a : Addr} {v : Value} (hc : w.cell? a = some v) (hn : ¬ bs a.block) : w'.cell? a = some v :=
  (World.cell?_of_block (w := w) (h.block a.block (World.block_lt_of_cell? w a hc) hn)).trans hc
theorem Only.frozen {bs : Nat → Prop} {w w' : World} (h : Only bs w w') {a : Addr} (hl : a.block < w.heap.size) (hn : ¬ bs a.block) : w'.frozen? a = w.frozen? a :=
  World.frozen?_of_block (w := w) (h.block a.block hl hn)
theorem Only.range {bs : Nat → Prop} {w w' : World} (h : Only bs w w') {b o : Nat} {cs : List Value} (hc : w.rangeAt b o cs) (hn : ¬ bs b) : w'.rangeAt b o cs :=
  fun j v hv => h.cell (a := ⟨b, o + j, none⟩) (hc j v hv) hn
theorem Only.there {bs : Nat → Prop} {w w' : World} (h : Only bs w w') {b o n : Nat} (hc : w.there b o n) (hn : ¬ bs b) : w'.there b o n := fun j hj => by
  obtain ⟨h1, h2⟩ := hc j hj
  obtain ⟨u, hu⟩ := Option.isSome_iff_exists.1 h1
  exact ⟨by rw [h.cell hu hn]; rfl, by rw [h.frozen (World.block_lt_of_cell? w _ hu) hn]; exact h2⟩
theorem Only.owns {bs : Nat → Prop} {w w' : World} (h : Only bs w w') {B e size n : Nat} {v : Value} {xs : List Value} (ho : w.ownsRow B e size v n xs) (hn : ∀ k, v.ownBlock = some k → ¬ bs k) : w'.ownsRow B e size v n xs := by
  refine ⟨ho.1, ?_⟩
  rcases ho.2 with hz | ⟨g, cap, cur, hv, hb, hg, rest⟩
  · exact .inl hz
  · refine .inr ⟨g, cap, cur, hv, hb, ?_, rest⟩
    have hl : g < w.heap.size := by
      rcases Nat.lt_or_ge g w.heap.size with hlt | hge
      · exact hlt
      · simp [Array.getElem?_eq_none hge] at hg
    rw [h.block g hl (hn g (by rw [hv]; rfl))]; exact hg


theorem ownsRow_slice {w : World} {B e size n : Nat} {v : Value} {xs : List Value} (h : w.ownsRow B e size v n xs) : ∃ a c, v = .slice a n c := by
  rcases h.2 with ⟨h1, h2⟩ | ⟨g, cap, cur, h1, _⟩
  · exact ⟨none, 0, by rw [h1, h2]⟩
  · exact ⟨_, _, h1⟩
end Go.Proofs.YtdkbioahhkmpoaaGreatDoor
namespace Go.Proofs.YtdkbioahhkmpoaaGreatDoor
open Go.RowKit
set_option linter.unusedSimpArgs false
set_option linter.unusedVariables false
/-- a value or an item as a tree: its kind, its number, its text, its parts -/
structure Vt where
  k : Int
  n : Int
  s : ByteArray
  l : List Vt
/-- the value v is the tree t (i: as an item), within the blocks S; d: how deep it is at most -/
def TiAt (w : World) (S : Nat → Prop) : Nat → Bool → Vt → Value → Prop
  | 0, _, _, _ => False
  | d + 1, true, t, v => (t.k = 7 ∧ t.l = [] ∧ v = .iface 111 (.agg #[.string t.s])) ∨ (t.k = 8 ∧ t.l = [] ∧ v = .nilIface) ∨ (t.k ≠ 7 ∧ t.k ≠ 8 ∧ ∃ u, v = .iface 170 (.agg #[u]) ∧ TiAt w S d false t u)
  | d + 1, false, t, v => (t.k = 1 ∧ t.l = [] ∧ v = .iface 216 (.agg #[.int .i64 t.n])) ∨ (t.k = 2 ∧ t.l = [] ∧ v = .iface 219 (.agg #[.string t.s])) ∨ (t.k = 3 ∧ t.l = [] ∧ v = .iface 222 (.agg #[.bool (t.n != 0)])) ∨ (t.k = 6 ∧ t.l = [] ∧ v = .iface 141 (.agg #[.int .i64 t.n])) ∨ (t.k = 8 ∧ t.l = [] ∧ v = .nilIface) ∨
    ((t.k = 4 ∨ t.k = 5) ∧ ∃ ao cap, v = .iface (if t.k = 4 then 132 else 80) (.agg #[.slice ao t.l.length cap]) ∧ t.l.length ≤ cap ∧ ∀ i x, t.l[i]? = some x → ∃ g k u, ao = some ⟨g, k, none⟩ ∧ S g ∧ w.cell? ⟨g, k + i, none⟩ = some u ∧ TiAt w S d (decide (t.k = 5)) x u)
theorem TiAt.step {w w' : World} {S S' : Nat → Prop} (hS : ∀ b, S b → S' b) (hk : ∀ (a : Addr) u, S a.block → w.cell? a = some u → w'.cell? a = some u) : ∀ {d d' : Nat} {i : Bool} {t : Vt} {v : Value}, d ≤ d' → TiAt w S d i t v → TiAt w' S' d' i t v := by
  intro d
  induction d with
  | zero => intro d' i t v _ h; exact h.elim
  | succ d ih =>
    intro d' i t v hd h
    obtain ⟨e, rfl⟩ : ∃ e, d' = e + 1 := ⟨d' - 1, by omega⟩
    cases i with
    | true =>
      rcases h with h | h | ⟨h, h', u, hv, hu⟩
      · exact .inl h
      · exact .inr (.inl h)
      · exact .inr (.inr ⟨h, h', u, hv, ih (by omega) hu⟩)
    | false =>
      rcases h with h | h | h | h | h | ⟨h, ao, cap, hv, hc, hl⟩
      · exact .inl h
      · exact .inr (.inl h)
      · exact .inr (.inr (.inl h))
      · exact .inr (.inr (.inr (.inl h)))
      · exact .inr (.inr (.inr (.inr (.inl h))))
      · refine .inr (.inr (.inr (.inr (.inr ⟨h, ao, cap, hv, hc, fun i x hx => ?_⟩))))
        obtain ⟨g, k, u, ha, hg, hu, ht⟩ := hl i x hx
        exact ⟨g, k, u, ha, hS g hg, hk _ _ hg hu, ih (by omega) ht⟩
theorem TiAt.only {w w' : World} {S bs : Nat → Prop} {d : Nat} {i : Bool} {t : Vt} {v : Value} (h : TiAt w S d i t v) (o : Only bs w w') (hb : ∀ b, S b → ¬ bs b) : TiAt w' S d i t v :=
  TiAt.step (fun _ g => g) (fun a u hs hc => o.cell hc (hb _ hs)) (Nat.le_refl _) h
/-- a block whose cells may be written -/
def Liv (w : World) (b : Nat) : Prop := b < w.heap.size ∧ ∃ c t, w.heap[b]? = some (.cells c t)
theorem Liv.only {w w' : World} {bs : Nat → Prop} {b : Nat} (h : Liv w b) (o : Only bs w w') (hb : ¬ bs b) : Liv w' b := by
  obtain ⟨h1, c, t, hc⟩ := h
  exact ⟨Nat.lt_of_lt_of_le h1 o.size, c, t, (o.block b h1 hb).trans hc⟩
theorem Liv.of {w : World} {b : Nat} {c : Array Value} {t : TypeId} (h : w.heap[b]? = some (.cells c t)) : Liv w b :=
  ⟨(Array.getElem?_eq_some_iff.1 h).1, c, t, h⟩
theorem Liv.froz {w : World} {b : Nat} (h : Liv w b) (j : Nat) : w.frozen? ⟨b, j, none⟩ = false := by
  obtain ⟨_, c, t, hc⟩ := h
  simp [World.frozen?, hc]
/-- a row of trees that was made since block B, in a block of its own beside those of its trees -/
def RiAt (w : World) (B : Nat) (T : TypeId) (d : Nat) (i : Bool) (v : Value) (l : List Vt) : Prop :=
  ∃ us S, w.ownsRow B T 1 v l.length us ∧ (∀ (j : Nat) (x : Vt), l[j]? = some x → ∃ u, us[j]? = some u ∧ TiAt w S d i x u) ∧ ∀ b, S b → B ≤ b ∧ Liv w b ∧ v.ownBlock ≠ some b
theorem ri_nil (w : World) (B : Nat) (T : TypeId) (d : Nat) (i : Bool) : RiAt w B T d i (.slice none 0 0) [] :=
  ⟨[], fun _ => False, ⟨rfl, .inl ⟨rfl, rfl⟩⟩, fun j x h => by simp at h, fun b h => h.elim⟩
theorem RiAt.form {w : World} {B : Nat} {T : TypeId} {d : Nat} {i : Bool} {v : Value} {l : List Vt} (h : RiAt w B T d i v l) : ∃ ao cap, v = .slice ao l.length cap := by
  obtain ⟨us, S, ho, _⟩ := h
  rcases ho.2 with ⟨h1, h2⟩ | ⟨g, cap, cur, h1, _⟩
  · exact ⟨_, _, by rw [h1, h2]⟩
  · exact ⟨_, _, h1⟩
theorem RiAt.only {w w' : World} {B : Nat} {T : TypeId} {d : Nat} {i : Bool} {v : Value} {l : List Vt} {bs : Nat → Prop} (h : RiAt w B T d i v l) (o : Only bs w w') (hb : ∀ b, B ≤ b → ¬ bs b) : RiAt w' B T d i v l := by
  obtain ⟨us, S, ho, ht, hS⟩ := h
  refine ⟨us, S, o.owns ho (fun k hk => hb k (ho.lt k hk).1), fun j x hx => ?_, fun b hbS => ?_⟩
  · obtain ⟨u, hu, h2⟩ := ht j x hx
    exact ⟨u, hu, h2.only o (fun b hbS => hb b (hS b hbS).1)⟩
  · obtain ⟨h1, h2, h3⟩ := hS b hbS
    exact ⟨h1, h2.only o (hb b h1), h3⟩
theorem RiAt.deep {w : World} {B : Nat} {T : TypeId} {d d' : Nat} {i : Bool} {v : Value} {l : List Vt} (h : RiAt w B T d i v l) (hd : d ≤ d') : RiAt w B T d' i v l := by
  obtain ⟨us, S, ho, ht, hS⟩ := h
  refine ⟨us, S, ho, fun j x hx => ?_, hS⟩
  obtain ⟨u, hu, h2⟩ := ht j x hx
  exact ⟨u, hu, h2.step (fun _ g => g) (fun _ _ _ g => g) hd⟩
/-- what a value is that was made since block B -/
def NiAt (w : World) (B : Nat) (d : Nat) (i : Bool) (t : Vt) (v : Value) : Prop := ∃ S, TiAt w S d i t v ∧ ∀ b, S b → B ≤ b ∧ Liv w b
theorem NiAt.only {w w' : World} {B : Nat} {d : Nat} {i : Bool} {v : Value} {t : Vt} {bs : Nat → Prop} (h : NiAt w B d i t v) (o : Only bs w w') (hb : ∀ b, B ≤ b → ¬ bs b) : NiAt w' B d i t v := by
  obtain ⟨S, ht, hS⟩ := h
  exact ⟨S, ht.only o (fun b hbS => hb b (hS b hbS).1), fun b hbS => ⟨(hS b hbS).1, (hS b hbS).2.only o (hb b (hS b hbS).1)⟩⟩
theorem NiAt.lower {w : World} {B C : Nat} {d : Nat} {i : Bool} {v : Value} {t : Vt} (h : NiAt w B d i t v) (hC : C ≤ B) : NiAt w C d i t v := by
  obtain ⟨S, ht, hS⟩ := h
  exact ⟨S, ht, fun b hbS => ⟨Nat.le_trans hC (hS b hbS).1, (hS b hbS).2⟩⟩
theorem NiAt.deep {w : World} {B : Nat} {d d' : Nat} {i : Bool} {v : Value} {t : Vt} (h : NiAt w B d i t v) (hd : d ≤ d') : NiAt w B d' i t v := by
  obtain ⟨S, ht, hS⟩ := h
  exact ⟨S, ht.step (fun _ g => g) (fun _ _ _ g => g) hd, hS⟩
/-- a tree is put behind a row: what the append leaves -/
theorem RiAt.snoc {w w' : World} {B C : Nat} {T : TypeId} {d : Nat} {i : Bool} {v v' : Value} {l : List Vt} {t : Vt} {u : Value} {us : List Value} {S : Nat → Prop} (hg : w.grownBy w' v.ownBlock) (ho : w.ownsRow B T 1 v l.length us) (ht : ∀ (j : Nat) (x : Vt), l[j]? = some x → ∃ u, us[j]? = some u ∧ TiAt w S d i x u) (hS : ∀ b, S b → B ≤ b ∧ Liv w b ∧ v.ownBlock ≠ some b)
    (hn : NiAt w C d i t u) (hC : B ≤ C) (hv : ∀ k, v.ownBlock = some k → k < C) (ho' : w'.ownsRow B T 1 v' (l.length + 1) (us ++ [u])) (hat : v'.ownBlock = v.ownBlock ∨ v'.ownBlock = some w.heap.size) : RiAt w' B T d i v' (l ++ [t]) := by
  obtain ⟨S1, t1, s1⟩ := hn
  have oo : Only (fun k => v.ownBlock = some k) w w' := (Only.refl _ w).grown hg (fun k e _ => e)
  have a1 : ∀ b, S b → ¬ v.ownBlock = some b := fun b h => (hS b h).2.2
  have a2 : ∀ b, S1 b → ¬ v.ownBlock = some b := fun b h e => by have := hv b e; have := (s1 b h).1; omega
  have hl : us.length = l.length := by have := ho.1; omega
  refine ⟨us ++ [u], fun b => S b ∨ S1 b, by simpa using ho', fun j x hx => ?_, fun b hb => ?_⟩
  · by_cases hj : j < l.length
    · rw [List.getElem?_append_left hj] at hx
      obtain ⟨u', h1, h2⟩ := ht j x hx
      refine ⟨u', by rw [List.getElem?_append_left (by omega)]; exact h1, h2.step (fun _ g => .inl g) (fun a y hs hc => oo.cell hc (a1 _ hs)) (Nat.le_refl _)⟩
    · have hj2 : j < (l ++ [t]).length := (List.getElem?_eq_some_iff.1 hx).1
      have hj3 : j = l.length := by simp at hj2; omega
      subst hj3
      simp at hx
      subst hx
      exact ⟨u, by rw [← hl]; simp, t1.step (fun _ g => .inr g) (fun a y hs hc => oo.cell hc (a2 _ hs)) (Nat.le_refl _)⟩
  · have h1 : B ≤ b ∧ Liv w b ∧ v.ownBlock ≠ some b := by
      rcases hb with h | h
      · exact hS b h
      · exact ⟨Nat.le_trans hC (s1 b h).1, (s1 b h).2, a2 b h⟩
    refine ⟨h1.1, h1.2.1.only oo h1.2.2, ?_⟩
    rcases hat with e | e <;> rw [e]
    · exact h1.2.2
    · intro e2
      injection e2 with e2
      have := h1.2.1.1
      omega
theorem addr_ad (g k : Nat) : (⟨g, 0, none⟩ : Addr).add k = ⟨g, k, none⟩ := by
  show (if k = 0 then _ else _) = _
  split
  · rename_i h; rw [h]
  · simp
/-- a row as a list or a quotation -/
theorem RiAt.tree {w : World} {B : Nat} {T : TypeId} {d : Nat} {v : Value} {l : List Vt} {t : Vt} (hk : t.k = 4 ∨ t.k = 5) (hl0 : t.l = l) (h : RiAt w B T d (decide (t.k = 5)) v l) : NiAt w B (d + 1) false t (.iface (if t.k = 4 then 132 else 80) (.agg #[v])) := by
  obtain ⟨us, S, ho, ht, hS⟩ := h
  subst hl0
  refine ⟨fun b => S b ∨ v.ownBlock = some b, .inr (.inr (.inr (.inr (.inr ⟨hk, ?_⟩)))), fun b hb => ?_⟩
  · rcases ho.2 with ⟨rfl, h2⟩ | ⟨g, cap, cur, hv, hB, hg, hn, hcm, hcs, htk⟩
    · exact ⟨none, 0, by rw [h2], by omega, fun i x hx => by have := (List.getElem?_eq_some_iff.1 hx).1; omega⟩
    · refine ⟨some ⟨g, 0, none⟩, cap, by rw [hv], hn, fun i x hx => ?_⟩
      obtain ⟨u, h1, h2⟩ := ht i x hx
      have hc := ho.cells (g := g) (by rw [hv]; rfl) i u h1
      rw [addr_ad] at hc
      exact ⟨g, 0, u, rfl, .inr (by rw [hv]; rfl), by simpa using hc, h2.step (fun _ g => .inl g) (fun _ _ _ g => g) (Nat.le_refl _)⟩
  · rcases hb with h | h
    · exact ⟨(hS b h).1, (hS b h).2.1⟩
    · refine ⟨(ho.lt b h).1, ?_⟩
      rcases ho.2 with ⟨rfl, h2⟩ | ⟨g, cap, cur, hv, hB, hg, hn, hcm, hcs, htk⟩
      · cases h
      · rw [hv] at h
        injection h with h
        rw [← h]
        exact Liv.of hg
/-- the slice lv holds the trees l as the document has them -/
def VsAt (w : World) (S : Nat → Prop) : Nat → List Vt → Value → Prop
  | 0, _, _ => False
  | d + 1, l, lv => ∃ ao cap, lv = .slice ao l.length cap ∧ l.length ≤ cap ∧ ∀ (i : Nat) (x : Vt), l[i]? = some x → ∃ g k lx, ao = some ⟨g, k, none⟩ ∧ S g ∧ (w.cell? ⟨g, k + i * 4, none⟩ = some (.int .i64 x.k) ∧ w.cell? ⟨g, k + i * 4 + 1, none⟩ = some (.int .i64 x.n) ∧ w.cell? ⟨g, k + i * 4 + 2, none⟩ = some (.string x.s) ∧ w.cell? ⟨g, k + i * 4 + 3, none⟩ = some lx) ∧ VsAt w S d x.l lx
theorem VsAt.step {w w' : World} {S S' : Nat → Prop} (hS : ∀ b, S b → S' b) (hk : ∀ (a : Addr) u, S a.block → w.cell? a = some u → w'.cell? a = some u) : ∀ {d d' : Nat} {l : List Vt} {v : Value}, d ≤ d' → VsAt w S d l v → VsAt w' S' d' l v := by
  intro d
  induction d with
  | zero => intro d' t v _ h; exact h.elim
  | succ d ih =>
    intro d' t v hd h
    obtain ⟨e, rfl⟩ : ∃ e, d' = e + 1 := ⟨d' - 1, by omega⟩
    obtain ⟨ao, cap, hv, hc, hl⟩ := h
    refine ⟨ao, cap, hv, hc, fun i x hx => ?_⟩
    obtain ⟨g, k, lx, ha, hg, ⟨c0, c1, c2, c3⟩, ht⟩ := hl i x hx
    exact ⟨g, k, lx, ha, hS g hg, ⟨hk _ _ hg c0, hk _ _ hg c1, hk _ _ hg c2, hk _ _ hg c3⟩, ih (by omega) ht⟩
theorem VsAt.only {w w' : World} {S : Nat → Prop} {d : Nat} {l : List Vt} {v : Value} (h : VsAt w S d l v) (o : Only (fun _ => False) w w') : VsAt w' S d l v :=
  h.step (fun _ g => g) (fun a u _ hc => o.cell hc (fun g => g)) (Nat.le_refl _)
theorem VsAt.form {w : World} {S : Nat → Prop} {d : Nat} {l : List Vt} {lv : Value} (h : VsAt w S d l lv) : ∃ ao cap, lv = .slice ao l.length cap := by
  cases d with
  | zero => exact h.elim
  | succ d => obtain ⟨ao, cap, hv, _⟩ := h; exact ⟨ao, cap, hv⟩
/-- what a tree holds is within the bounds of the second form: texts and lists of at most 2^20 -/
def SmT : Nat → Vt → Prop
  | 0, _ => False
  | d + 1, t => t.s.size ≤ 140737488355328 ∧ t.l.length ≤ 2513169434900 ∧ (-9223372036854775808 ≤ t.k ∧ t.k ≤ 9223372036854775807) ∧ (-9223372036854775808 ≤ t.n ∧ t.n ≤ 9223372036854775807) ∧ ∀ x ∈ t.l, SmT d x
theorem SmT.mono : ∀ {d d' : Nat} {t : Vt}, d ≤ d' → SmT d t → SmT d' t
  | 0, _, _, _, h => h.elim
  | d + 1, 0, t, hd, h => by omega
  | d + 1, e + 1, t, hd, h => ⟨h.1, h.2.1, h.2.2.1, h.2.2.2.1, fun x hx => (h.2.2.2.2 x hx).mono (by omega)⟩
end Go.Proofs.YtdkbioahhkmpoaaGreatDoor
namespace Go.Proofs.YtdkbioahhkmpoaaGreatDoor
open Go.RowKit
set_option linter.unusedSimpArgs false
set_option linter.unusedVariables false
/-- what a tree is as a value (i: as an item) -/
def nm : Nat → Bool → Vt → Vt
  | 0, _, _ => ⟨8, 0, ⟨#[]⟩, []⟩
  | d + 1, i, t =>
    if t.k = 1 then ⟨1, t.n, ⟨#[]⟩, []⟩ else if t.k = 2 then ⟨2, 0, t.s, []⟩ else if t.k = 3 then ⟨3, if t.n != 0 then 1 else 0, ⟨#[]⟩, []⟩
    else if t.k = 4 then ⟨4, 0, ⟨#[]⟩, t.l.map (nm d false)⟩ else if t.k = 5 then ⟨5, 0, ⟨#[]⟩, t.l.map (nm d true)⟩
    else if t.k = 6 then ⟨6, t.n, ⟨#[]⟩, []⟩ else if i = true ∧ t.k = 7 then ⟨7, 0, t.s, []⟩ else ⟨8, 0, ⟨#[]⟩, []⟩
theorem vblk_cells {w : World} {B : Nat} {c : Array Value} {t : TypeId} (h : w.heap[B]? = some (.cells c t)) (j : Nat) : w.cell? ⟨B, j, none⟩ = c[j]? := by
  simp [World.cell?, h]
theorem valloc_at (W : World) (o : Obj) (n : Nat) (h : n = W.heap.size) : (W.alloc o).heap[n]? = some o := by
  subst h
  exact Array.getElem?_push_size ..
theorem TiAt.form {w : World} {S : Nat → Prop} {d : Nat} {i : Bool} {t : Vt} {v : Value} (h : TiAt w S d i t v) : v.oneCell' = true := by
  cases d with
  | zero => exact h.elim
  | succ d =>
    cases i with
    | true => rcases h with ⟨_, _, rfl⟩ | ⟨_, _, rfl⟩ | ⟨_, _, u, rfl, _⟩ <;> rfl
    | false => rcases h with ⟨_, _, rfl⟩ | ⟨_, _, rfl⟩ | ⟨_, _, rfl⟩ | ⟨_, _, rfl⟩ | ⟨_, _, rfl⟩ | ⟨_, ao, cap, rfl, _⟩ <;> rfl
theorem TiAt.iface {w : World} {S : Nat → Prop} {d : Nat} {t : Vt} {v : Value} (h : TiAt w S d false t v) (h8 : t.k ≠ 8) : ∃ T y, v = .iface T y := by
  cases d with
  | zero => exact h.elim
  | succ d =>
    rcases h with ⟨_, _, rfl⟩ | ⟨_, _, rfl⟩ | ⟨_, _, rfl⟩ | ⟨_, _, rfl⟩ | ⟨h, _, rfl⟩ | ⟨_, ao, cap, rfl, _⟩
    · exact ⟨_, _, rfl⟩
    · exact ⟨_, _, rfl⟩
    · exact ⟨_, _, rfl⟩
    · exact ⟨_, _, rfl⟩
    · exact absurd h h8
    · exact ⟨_, _, rfl⟩
theorem vinfo_parts {t : TypeId} {z : Value} {s b : Nat} (h : (Tryz.prog.info? t).map (fun i => (i.zero, i.size, i.bytes)) = some (some z, s, b)) : ∃ i, Tryz.prog.info? t = some i ∧ i.zero = some z ∧ i.size = s ∧ i.bytes = b := by
  cases hi : Tryz.prog.info? t with
  | none => rw [hi] at h; simp at h
  | some i => rw [hi] at h; simp at h; exact ⟨i, rfl, h.1, h.2.1, h.2.2⟩
theorem vinfoV : (Tryz.prog.info? 76).map (fun i => (i.zero, i.size, i.bytes)) = some (some .nilIface, 1, 16) := by kernel_rfl
theorem vinfoI : (Tryz.prog.info? 137).map (fun i => (i.zero, i.size, i.bytes)) = some (some .nilIface, 1, 16) := by kernel_rfl
/-- a value or an item is put behind a row -/
theorem app_v {sT eT : TypeId} (hT : Tryz.prog.underlying sT = some (.slice eT)) (hI : (Tryz.prog.info? eT).map (fun i => (i.zero, i.size, i.bytes)) = some (some .nilIface, 1, 16)) {w : World} {B C d : Nat} {i : Bool} {v : Value} {acc : List Vt} {t : Vt} {iv : Value} (hf : RiAt w B eT d i v acc) (hn : NiAt w C d i t iv) (hC : B ≤ C) (hv : ∀ k, v.ownBlock = some k → k < C) (hB : B ≤ w.heap.size) (hl : acc.length ≤ 2513169434900) :
    ∃ v' w', (∀ ty, (Builtin.append_ #[sT, sT] ty #[v, .slice (some ⟨w.heap.size, 0, none⟩) 1 1]).run Tryz.prog (w.alloc (.cells #[iv] eT)) = .ok v' w') ∧ RiAt w' B eT d i v' (acc ++ [t]) ∧ Only (fun k => v.ownBlock = some k) w w' := by
  obtain ⟨i0, hi, hz0, hz1, hz2⟩ := vinfo_parts hI
  obtain ⟨W, hW⟩ : ∃ W, W = w.alloc (.cells #[iv] eT) := ⟨_, rfl⟩
  have oo : Only (fun _ => False) w W := by rw [hW]; exact (Only.refl _ w).alloc _
  have hf2 := hf.only oo (fun _ _ h => h)
  have hn2 := hn.only oo (fun _ _ h => h)
  have hblk : W.heap[w.heap.size]? = some (.cells #[iv] eT) := by rw [hW]; exact valloc_at _ _ _ rfl
  obtain ⟨us, S, ho, ht, hS⟩ := hf2
  have h1 : iv.oneCell' = true := by obtain ⟨S2, h2, _⟩ := hn2; exact h2.form
  have key := fun ty => run_append_own_at (P := Tryz.prog) W B sT ty eT i0 .nilIface 1 16 hT hi hz0 hz1 hz2 rfl (by omega) v acc.length us ho ⟨w.heap.size, 0, none⟩ 1 1 [iv] rfl (by
      intro j u hj
      rw [addr_ad, vblk_cells hblk]
      simpa using hj) (by
      intro u hu
      simp only [List.mem_cons, List.not_mem_nil, or_false] at hu
      subst hu
      exact h1) (by unfold maxLen; omega) (by omega) (by have := oo.size; omega)
  obtain ⟨v', w', hr, own', hg, _, hat⟩ := key 0
  refine ⟨v', w', fun ty => ?_, RiAt.snoc hg ho ht hS hn2 hC hv own' hat, (oo.mono (bs' := fun k => v.ownBlock = some k) (fun _ _ h => h.elim)).trans ((Only.refl (fun k => v.ownBlock = some k) W).grown hg (fun k e _ => e)) (fun k hk e => e)⟩
  rw [← hW, ← hr]
  rfl
theorem RiAt.lower {w : World} {B C : Nat} {T : TypeId} {d : Nat} {i : Bool} {v : Value} {l : List Vt} (h : RiAt w B T d i v l) (hC : C ≤ B) : RiAt w C T d i v l := by
  obtain ⟨us, S, ho, ht, hS⟩ := h
  exact ⟨us, S, ⟨ho.1, ho.2.imp id (fun ⟨g, cp, cu, q1, q2, q3⟩ => ⟨g, cp, cu, q1, by omega, q3⟩)⟩, ht, fun b hb => ⟨by have := (hS b hb).1; omega, (hS b hb).2⟩⟩
def vV (k n : Int) (s : ByteArray) (lv : Value) : Value := .agg #[.int .i64 k, .int .i64 n, .string s, lv]
/-- what Value, ItemOf answer -/
def VaC (d F : Nat) (D : Nat) (i : Bool) : Prop := ∀ (t : Vt) (lv : Value) (w : World) (S : Nat → Prop), VsAt w S d t.l lv → SmT d t → Calls Tryz.prog F #[vV t.k t.n t.s lv] w fun e w' => ∃ v, e = .returned v ∧ Hid (NiAt w' w.heap.size D i (nm d i t) v ∧ Only (fun _ => False) w w')
/-- what Values, ItemsOf answer -/
def VlC (d F : Nat) (D : Nat) (eT : TypeId) (i : Bool) : Prop := ∀ (l : List Vt) (lv : Value) (w : World) (S : Nat → Prop), VsAt w S (d + 1) l lv → l.length ≤ 2513169434900 → (∀ x ∈ l, SmT d x) → Calls Tryz.prog F #[lv] w fun e w' => ∃ ao cap, e = .returned (.slice ao l.length cap) ∧ Hid (RiAt w' w.heap.size eT D i (.slice ao l.length cap) (l.map (nm d i)) ∧ Only (fun _ => False) w w')
theorem ni_leaf {w : World} {B d : Nat} {i : Bool} {t : Vt} {v : Value} (h : ∀ S, TiAt w S d i t v) : NiAt w B d i t v := ⟨fun _ => False, h _, fun b h => h.elim⟩
end Go.Proofs.YtdkbioahhkmpoaaGreatDoor
namespace Go.Proofs.YtdkbioahhkmpoaaGreatDoor
open Go.RowKit
set_option linter.unusedSimpArgs false
set_option linter.unusedVariables false
def vuOf : Value → Nat
  | .int _ m => m.toNat
  | _ => 0
theorem TiAt.shape {w : World} {S : Nat → Prop} {d : Nat} {i : Bool} {t : Vt} {v : Value} (h : TiAt w S d i t v) : v = .nilIface ∨ ∃ T y, v = .iface T y := by
  cases d with
  | zero => exact h.elim
  | succ d =>
    cases i with
    | true => rcases h with ⟨_, _, rfl⟩ | ⟨_, _, rfl⟩ | ⟨_, _, u, rfl, _⟩ <;> first | exact .inl rfl | exact .inr ⟨_, _, rfl⟩
    | false => rcases h with ⟨_, _, rfl⟩ | ⟨_, _, rfl⟩ | ⟨_, _, rfl⟩ | ⟨_, _, rfl⟩ | ⟨_, _, rfl⟩ | ⟨_, ao, cap, rfl, _⟩ <;> first | exact .inl rfl | exact .inr ⟨_, _, rfl⟩
section
variable {P : Program} {op : Oper} {a : Act} {w w' : World} {K : Act → World → Prop} {Q : Exit → Act → World → Prop}
theorem vwp_append_run (s x : Operand) (t : TypeId) (ho : op.op = .call { callee := .builtin .append, args := #[s, x], argTypes := #[t, t] }) (v1 v2 v' : Value) (hs : a.eval s = v1) (hx : a.eval x = v2)
    (hr : (Builtin.append_ #[t, t] op.type #[v1, v2]).run P w = .ok v' w') (h : K (a.put op.dst v') w') : op.wp P a w K Q := by
  unfold Oper.wp
  simp [execOp, ho, resolve, invoke, builtin, hs, hx, hr, Result.andThen]
  exact h
theorem vstep_append_run {ops : Array Oper} {E : Prop} (hgd : op.guard = none) (s x : Operand) (t : TypeId) (ho : op.op = .call { callee := .builtin .append, args := #[s, x], argTypes := #[t, t] }) (v1 v2 v' : Value) (hs : a.eval s = v1) (hx : a.eval x = v2)
    (hr : ∀ ty, (Builtin.append_ #[t, t] ty #[v1, v2]).run P w = .ok v' w') (h : K (a.put op.dst v') w') : if Region.wanted op (yielded ops a.tmps) = true then Oper.wp P op a w K Q else E := by
  have hw : Region.wanted op (yielded ops a.tmps) = true := by simp [Region.wanted, hgd]
  rw [if_pos hw]
  exact vwp_append_run s x t ho v1 v2 v' hs hx (hr _) h
theorem vwpList_append_run {ops : Array Oper} {rest : List Oper} (hgd : op.guard = none) (s x : Operand) (t : TypeId) (ho : op.op = .call { callee := .builtin .append, args := #[s, x], argTypes := #[t, t] }) (v1 v2 v' : Value) (hs : a.eval s = v1) (hx : a.eval x = v2)
    (hr : ∀ ty, (Builtin.append_ #[t, t] ty #[v1, v2]).run P w = .ok v' w') (h : wpList P ops Q rest (a.put op.dst v') w') : wpList P ops Q (op :: rest) a w :=
  wpList_plain hgd fun _ hK => vwp_append_run s x t ho v1 v2 v' hs hx (hr _) (hK _ _ h)
end
end Go.Proofs.YtdkbioahhkmpoaaGreatDoor
namespace Go.Proofs.YtdkbioahhkmpoaaGreatDoor
open Go.RowKit
set_option linter.unusedSimpArgs false
set_option linter.unusedVariables false

def inS (c nt : Int) : Bool := decide (nt ≤ c ∧ c ≤ nt + 9)
set_option maxRecDepth 100000 in
theorem inscript_any (c nt : Int) (w : World) (h1 : -2147483648 ≤ nt) (h2 : nt ≤ 2147483638) :
    Calls Tryz.prog 85 #[.int .i32 c, .int .i32 nt] w fun e w' => e = .returned (.bool (inS c nt)) ∧ w' = w := by
  have e : IntKind.i32.wrap (nt + 9) = nt + 9 := by rw [IntKind.wrap_i32]; omega
  by_cases a : nt ≤ c
  · by_cases b : c ≤ nt + 9
    · have hv : inS c nt = true := by simp [inS, a, b]
      rw [hv]
      go_enter Tryz.func85, Tryz.ntmps85
      go_wp2
      go_ret
      exact ⟨rfl, rfl⟩
    · have hv : inS c nt = false := by simp [inS, b]
      rw [hv]
      go_enter Tryz.func85, Tryz.ntmps85
      go_wp2
      go_ret
      exact ⟨rfl, rfl⟩
  · have hv : inS c nt = false := by simp [inS, a]
    rw [hv]
    go_enter Tryz.func85, Tryz.ntmps85
    go_wp2
    go_ret
    exact ⟨rfl, rfl⟩
/-- The nought of the script of a digit. -/
def scr (c : Int) : Option Int := if inS c 48 then some 48 else if inS c 1632 then some 1632 else if inS c 65296 then some 65296 else none
theorem ix0 (w : World) : (Instr.index 183 (.agg #[.int .i32 48, .int .i32 1632, .int .i32 65296]) (.int .i64 0)).run Tryz.prog w = .ok (.int .i32 48) w := by kernel_rfl
theorem ix1 (w : World) : (Instr.index 183 (.agg #[.int .i32 48, .int .i32 1632, .int .i32 65296]) (.int .i64 1)).run Tryz.prog w = .ok (.int .i32 1632) w := by kernel_rfl
theorem ix2 (w : World) : (Instr.index 183 (.agg #[.int .i32 48, .int .i32 1632, .int .i32 65296]) (.int .i64 2)).run Tryz.prog w = .ok (.int .i32 65296) w := by kernel_rfl
/-- What the package's digits hold. -/
def Nog (w : World) : Prop := w.cell? ⟨1, 0, none⟩ = some (.int .i32 48) ∧ w.cell? ⟨1, 1, none⟩ = some (.int .i32 1632) ∧ w.cell? ⟨1, 2, none⟩ = some (.int .i32 65296)
theorem Nog.frame {w w' : World} (h : Nog w) (ho : Only (fun _ => False) w w') : Nog w' := ⟨ho.cell h.1 (fun g => g), ho.cell h.2.1 (fun g => g), ho.cell h.2.2 (fun g => g)⟩
def scrV (o : Option Int) : Value := match o with
  | some nt => .tuple #[.int .i32 nt, .bool true]
  | none => .tuple #[.int .i32 0, .bool false]
set_option maxRecDepth 100000 in
set_option maxHeartbeats 1000000 in
theorem script_any (c : Int) (w : World) (h : Nog w) :
    Calls Tryz.prog 84 #[.int .i32 c] w fun e w' => e = .returned (scrV (scr c)) ∧ w' = w := by
  obtain ⟨g0, g1, g2⟩ := h
  have H48 : Hid (Calls Tryz.prog 85 #[.int .i32 c, .int .i32 48] w fun e w' => e = .returned (.bool (inS c 48)) ∧ w' = w) := inscript_any c 48 w (by omega) (by omega)
  have H16 : Hid (Calls Tryz.prog 85 #[.int .i32 c, .int .i32 1632] w fun e w' => e = .returned (.bool (inS c 1632)) ∧ w' = w) := inscript_any c 1632 w (by omega) (by omega)
  have H65 : Hid (Calls Tryz.prog 85 #[.int .i32 c, .int .i32 65296] w fun e w' => e = .returned (.bool (inS c 65296)) ∧ w' = w) := inscript_any c 65296 w (by omega) (by omega)
  have HS : Hid (scr c = if inS c 48 then some 48 else if inS c 1632 then some 1632 else if inS c 65296 then some 65296 else none) := rfl
  obtain ⟨Y, hY⟩ : ∃ Y, Y = scr c := ⟨_, rfl⟩
  rw [← hY] at HS ⊢
  obtain ⟨b1, hb1⟩ : ∃ b, b = inS c 48 := ⟨_, rfl⟩
  obtain ⟨b2, hb2⟩ : ∃ b, b = inS c 1632 := ⟨_, rfl⟩
  obtain ⟨b3, hb3⟩ : ∃ b, b = inS c 65296 := ⟨_, rfl⟩
  rw [← hb1] at H48 HS
  rw [← hb2] at H16 HS
  rw [← hb3] at H65 HS
  clear hY hb1 hb2 hb3
  have i0 := ix0 w
  have i1 := ix1 w
  have i2 := ix2 w
  go_enter Tryz.func84, Tryz.ntmps84
  go_wp2
  go_loopw [7] (fun t wr => ∃ r : Int, t = .int .i64 r ∧ (r = 0 ∨ (r = 1 ∧ b1 = false) ∨ (r = 2 ∧ b1 = false ∧ b2 = false) ∨ (r = 3 ∧ b1 = false ∧ b2 = false ∧ b3 = false)) ∧ w = wr) (fun t _ => 3 - (intOf t).toNat)
  case atStart => exact ⟨0, rfl, .inl rfl, rfl⟩
  case round =>
    obtain ⟨r, rfl, hr, rfl⟩ := hrel
    rcases hr with rfl | ⟨rfl, rfl⟩ | ⟨rfl, rfl, rfl⟩ | ⟨rfl, rfl, rfl, rfl⟩
    · cases b1 with
      | true =>
        go_wp2_with (go_at_call 85; refine (show Calls Tryz.prog 85 _ _ _ from H48.out).mono ?_; rintro e wz ⟨rfl, rfl⟩)
        go_ret2
        exact ⟨by rw [HS.out]; rfl, rfl⟩
      | false =>
        go_wp2_with (go_at_call 85; refine (show Calls Tryz.prog 85 _ _ _ from H48.out).mono ?_; rintro e wz ⟨rfl, rfl⟩)
        go_roundw
        case rel => exact ⟨1, rfl, by simp, by first | trivial | rfl⟩
        case measure => simp [intOf]
    · cases b2 with
      | true =>
        go_wp2_with (go_at_call 85; refine (show Calls Tryz.prog 85 _ _ _ from H16.out).mono ?_; rintro e wz ⟨rfl, rfl⟩)
        go_ret2
        exact ⟨by rw [HS.out]; rfl, rfl⟩
      | false =>
        go_wp2_with (go_at_call 85; refine (show Calls Tryz.prog 85 _ _ _ from H16.out).mono ?_; rintro e wz ⟨rfl, rfl⟩)
        go_roundw
        case rel => exact ⟨2, rfl, by simp, by first | trivial | rfl⟩
        case measure => simp [intOf]
    · cases b3 with
      | true =>
        go_wp2_with (go_at_call 85; refine (show Calls Tryz.prog 85 _ _ _ from H65.out).mono ?_; rintro e wz ⟨rfl, rfl⟩)
        go_ret2
        exact ⟨by rw [HS.out]; rfl, rfl⟩
      | false =>
        go_wp2_with (go_at_call 85; refine (show Calls Tryz.prog 85 _ _ _ from H65.out).mono ?_; rintro e wz ⟨rfl, rfl⟩)
        go_roundw
        case rel => exact ⟨3, rfl, by simp, by first | trivial | rfl⟩
        case measure => simp [intOf]
    · go_wp2
      go_ret2
      exact ⟨by rw [HS.out]; rfl, rfl⟩
end Go.Proofs.YtdkbioahhkmpoaaGreatDoor
namespace Go.Proofs.YtdkbioahhkmpoaaGreatDoor
open Go.RowKit
set_option linter.unusedSimpArgs false
set_option linter.unusedVariables false

/-- The characters of a text from a place on: places and runes. -/
def crs (s : ByteArray) : Nat → Nat → List (Nat × Nat)
  | 0, _ => []
  | b + 1, pos => if pos < s.size then (pos, (Utf8.decode s pos).1) :: crs s b (pos + (Utf8.decode s pos).2) else []
def chs (s : ByteArray) : List (Nat × Nat) := crs s s.size 0
def rns (s : ByteArray) : List Nat := (chs s).map (·.2)
theorem wid_pos (s : ByteArray) (pos : Nat) (h : pos < s.size) : 1 ≤ (Utf8.decode s pos).2 := by
  by_cases ha : (s[pos]'h).toNat < 128
  · rw [decode_ascii s pos h ha]
    exact Nat.le_refl _
  · exact (decode_high s pos h (by omega)).2
theorem crs_end {s : ByteArray} {b pos : Nat} (h : ¬ pos < s.size) : crs s b pos = [] := by
  cases b with
  | zero => rfl
  | succ b => simp [crs, h]
theorem crs_go {s : ByteArray} {b pos : Nat} (h : pos < s.size) (hb : s.size ≤ pos + b) : ∃ b', b = b' + 1 ∧ crs s b pos = (pos, (Utf8.decode s pos).1) :: crs s b' (pos + (Utf8.decode s pos).2) := by
  cases b with
  | zero => omega
  | succ b => exact ⟨b, rfl, by simp [crs, h]⟩
theorem Only.iter {bs : Nat → Prop} {a w : World} (h : Only bs a w) (s : ByteArray) (pos : Nat) : Only bs a (w.iter s pos) := h.alloc _
/-- A digit more. -/
def dig (n : Nat) (c : Nat) (nt : Int) : Nat := if n ≤ 1152921504606846976 then n * 10 + ((c : Int) - nt).toNat else n
def natL : List Nat → Int → Bool → Nat → Nat × Bool
  | [], _, ok, n => (n, ok)
  | c :: l, nt, true, n => if inS c nt then natL l nt true (dig n c nt) else (0, false)
  | c :: l, nt, false, n => match scr c with
    | none => (0, false)
    | some nt' => natL l nt' true (dig n c nt')
theorem scr_some {c nt : Int} (h : scr c = some nt) : inS c nt = true ∧ 48 ≤ nt ∧ nt ≤ 65296 := by
  unfold scr at h
  split at h
  · cases h; exact ⟨‹_›, by omega, by omega⟩
  · split at h
    · cases h; exact ⟨‹_›, by omega, by omega⟩
    · split at h
      · cases h; exact ⟨‹_›, by omega, by omega⟩
      · cases h
theorem dig_le {n c : Nat} {nt : Int} (hn : n ≤ 11529215046068469769) (h : inS c nt = true) : dig n c nt ≤ 11529215046068469769 := by
  simp only [inS, decide_eq_true_eq] at h
  unfold dig
  split <;> omega
set_option maxRecDepth 100000 in
set_option maxHeartbeats 2000000 in
theorem natural_any (s : ByteArray) (w : World) (h : Nog w) :
    Calls Tryz.prog 59 #[.string s] w fun e w' => e = .returned (.tuple #[.int .u64 ((natL (rns s) 0 false 0).1 : Nat), .bool (natL (rns s) 0 false 0).2]) ∧ Only (fun _ => False) w w' := by
  have HSc : Hid (∀ w1 c, Only (fun _ => False) w w1 → Calls Tryz.prog 84 #[.int .i32 c] w1 fun e w' => e = .returned (scrV (scr c)) ∧ w' = w1) := fun w1 c ho => script_any c w1 (h.frame ho)
  have HIn : Hid (∀ w1 c nt, -2147483648 ≤ nt → nt ≤ 2147483638 → Calls Tryz.prog 85 #[.int .i32 c, .int .i32 nt] w1 fun e w' => e = .returned (.bool (inS c nt)) ∧ w' = w1) := fun w1 c nt h1 h2 => inscript_any c nt w1 h1 h2
  obtain ⟨Z, hZ⟩ : ∃ Z, Z = natL (rns s) 0 false 0 := ⟨_, rfl⟩
  have HZ : Hid (Z = natL ((crs s s.size 0).map (·.2)) 0 false 0) := hZ
  rw [← hZ]
  clear hZ h
  go_enter Tryz.func59, Tryz.ntmps59
  go_wp2
  go_loopw [2, 3, 4] (fun n ok nt w' => ∃ (m pos b : Nat) (k : Bool) (t : Int), w' = w.iter s pos ∧ n = .int .u64 (m : Nat) ∧ ok = .bool k ∧ nt = .int .i32 t ∧ Hid (Z = natL ((crs s b pos).map (·.2)) t k m ∧ s.size ≤ pos + b ∧ m ≤ 11529215046068469769 ∧ 0 ≤ t ∧ t ≤ 65296)) (fun _ _ _ w' => s.size - w'.iterPos w.heap.size)
  case atStart => exact ⟨0, 0, s.size, false, 0, rfl, rfl, rfl, rfl, HZ.out, by omega, by omega, by omega, by omega⟩
  case round =>
    obtain ⟨m, pos, b, k, t, rfl, rfl, rfl, rfl, HI⟩ := hrel
    clear HZ
    by_cases hp : pos < s.size
    · have hnx : ∀ ty, (Instr.next (.pointer (some ⟨w.heap.size, 0, none⟩)) true ty).run Tryz.prog (w.iter s pos) = _ := fun ty => run_next_any w s pos ty hp
      have hwd := wid_pos s pos hp
      obtain ⟨b', hb', hcr⟩ := crs_go hp HI.out.2.1
      have hdl := decode_le s pos
      obtain ⟨c, hc⟩ : ∃ c, c = (Utf8.decode s pos).1 := ⟨_, rfl⟩
      obtain ⟨wd, hw⟩ : ∃ c, c = (Utf8.decode s pos).2 := ⟨_, rfl⟩
      rw [← hc, ← hw] at hnx hcr
      rw [← hc] at hdl
      rw [← hw] at hwd
      have hm := HI.out.2.2.1
      have ht0 := HI.out.2.2.2.1
      have ht1 := HI.out.2.2.2.2
      have HZ2 : Hid (Z = natL (c :: (crs s b' (pos + wd)).map (·.2)) t k m ∧ s.size ≤ pos + wd + b') := ⟨by rw [HI.out.1, hcr]; rfl, by have := HI.out.2.1; omega⟩
      clear HI hc hw hcr hb'
      have OI : Hid (Only (fun _ => False) w (w.iter s (pos + wd))) := (Only.refl _ w).iter s _
      cases k with
      | true =>
        have HI1 : Hid (Calls Tryz.prog 85 #[.int .i32 (c : Nat), .int .i32 t] (w.iter s (pos + wd)) fun e w' => e = .returned (.bool (inS c t)) ∧ w' = w.iter s (pos + wd)) := HIn.out _ _ _ (by omega) (by omega)
        cases hin : inS c t with
        | true =>
          rw [hin] at HI1
          have hin2 := hin
          simp only [inS, decide_eq_true_eq] at hin2
          obtain ⟨j1, j2⟩ := hin2
          have HN : Hid (Z = natL ((crs s b' (pos + wd)).map (·.2)) t true (dig m c t) ∧ s.size ≤ pos + wd + b' ∧ dig m c t ≤ 11529215046068469769 ∧ 0 ≤ t ∧ t ≤ 65296) := ⟨by rw [HZ2.out.1, natL, if_pos hin], HZ2.out.2, dig_le hm hin, ht0, ht1⟩
          clear hin HZ2
          by_cases hbig : m ≤ 1152921504606846976
          · have i1 : (m : Int) ≤ 1152921504606846976 := by omega
            have e1 : IntKind.u64.wrap ((m : Int) * 10) = ((m * 10 : Nat) : Int) := by rw [IntKind.wrap_u64]; omega
            have e2 : IntKind.i32.wrap ((c : Int) - t) = (c : Int) - t := by rw [IntKind.wrap_i32]; omega
            have e3 : IntKind.u64.wrap ((c : Int) - t) = (c : Int) - t := by rw [IntKind.wrap_u64]; omega
            have e4 : IntKind.u64.wrap (((m * 10 : Nat) : Int) + ((c : Int) - t)) = ((dig m c t : Nat) : Int) := by
              unfold dig
              rw [if_pos hbig, IntKind.wrap_u64]
              omega
            go_wp2_with (go_at_call 85; refine (show Calls Tryz.prog 85 _ _ _ from HI1.out).mono ?_; rintro e wz ⟨rfl, rfl⟩)
            go_roundw
            case rel => exact ⟨dig m c t, pos + wd, b', true, t, rfl, congrArg (Value.int .u64) (by unfold dig; rw [if_pos hbig]; omega), rfl, rfl, HN.out⟩
            case measure => simp; omega
          · have i1 : ¬ (m : Int) ≤ 1152921504606846976 := by omega
            have e4 : dig m c t = m := if_neg hbig
            rw [e4] at HN
            go_wp2_with (go_at_call 85; refine (show Calls Tryz.prog 85 _ _ _ from HI1.out).mono ?_; rintro e wz ⟨rfl, rfl⟩)
            go_roundw
            case rel => exact ⟨m, pos + wd, b', true, t, rfl, rfl, rfl, rfl, HN.out⟩
            case measure => simp; omega
        | false =>
          rw [hin] at HI1
          have HE : Hid (Z = (0, false)) := by rw [HZ2.out.1, natL, if_neg (by simp [hin])]; rfl
          clear hin HZ2
          go_wp2_with (go_at_call 85; refine (show Calls Tryz.prog 85 _ _ _ from HI1.out).mono ?_; rintro e wz ⟨rfl, rfl⟩)
          go_ret2
          have hz : Z = (0, false) := HE.out
          subst hz
          exact ⟨rfl, OI.out⟩
      | false =>
        have HS1 : Hid (Calls Tryz.prog 84 #[.int .i32 (c : Nat)] (w.iter s (pos + wd)) fun e w' => e = .returned (scrV (scr c)) ∧ w' = w.iter s (pos + wd)) := HSc.out _ _ OI.out
        cases hsc : scr c with
        | none =>
          rw [hsc] at HS1
          simp only [scrV] at HS1
          have HE : Hid (Z = (0, false)) := by rw [HZ2.out.1, natL, hsc]; rfl
          clear hsc HZ2
          go_wp2_with (go_at_call 84; refine (show Calls Tryz.prog 84 _ _ _ from HS1.out).mono ?_; rintro e wz ⟨rfl, rfl⟩)
          go_ret2
          have hz : Z = (0, false) := HE.out
          subst hz
          exact ⟨rfl, OI.out⟩
        | some nt =>
          rw [hsc] at HS1
          simp only [scrV] at HS1
          obtain ⟨hin, q1, q2⟩ := scr_some hsc
          have HI1 : Hid (Calls Tryz.prog 85 #[.int .i32 (c : Nat), .int .i32 nt] (w.iter s (pos + wd)) fun e w' => e = .returned (.bool (inS c nt)) ∧ w' = w.iter s (pos + wd)) := HIn.out _ _ _ (by omega) (by omega)
          rw [hin] at HI1
          have hin2 := hin
          simp only [inS, decide_eq_true_eq] at hin2
          obtain ⟨j1, j2⟩ := hin2
          have HN : Hid (Z = natL ((crs s b' (pos + wd)).map (·.2)) nt true (dig m c nt) ∧ s.size ≤ pos + wd + b' ∧ dig m c nt ≤ 11529215046068469769 ∧ 0 ≤ nt ∧ nt ≤ 65296) := ⟨by rw [HZ2.out.1, natL, hsc], HZ2.out.2, dig_le hm hin, by omega, q2⟩
          clear hin hsc HZ2
          by_cases hbig : m ≤ 1152921504606846976
          · have i1 : (m : Int) ≤ 1152921504606846976 := by omega
            have e1 : IntKind.u64.wrap ((m : Int) * 10) = ((m * 10 : Nat) : Int) := by rw [IntKind.wrap_u64]; omega
            have e2 : IntKind.i32.wrap ((c : Int) - nt) = (c : Int) - nt := by rw [IntKind.wrap_i32]; omega
            have e3 : IntKind.u64.wrap ((c : Int) - nt) = (c : Int) - nt := by rw [IntKind.wrap_u64]; omega
            have e4 : IntKind.u64.wrap (((m * 10 : Nat) : Int) + ((c : Int) - nt)) = ((dig m c nt : Nat) : Int) := by
              unfold dig
              rw [if_pos hbig, IntKind.wrap_u64]
              omega
            go_wp2_with (first | (go_at_call 84; refine (show Calls Tryz.prog 84 _ _ _ from HS1.out).mono ?_; rintro e wz ⟨rfl, rfl⟩) | (go_at_call 85; refine (show Calls Tryz.prog 85 _ _ _ from HI1.out).mono ?_; rintro e wz ⟨rfl, rfl⟩))
            go_roundw
            case rel => exact ⟨dig m c nt, pos + wd, b', true, nt, rfl, congrArg (Value.int .u64) (by unfold dig; rw [if_pos hbig]; omega), rfl, rfl, HN.out⟩
            case measure => simp; omega
          · have i1 : ¬ (m : Int) ≤ 1152921504606846976 := by omega
            have e4 : dig m c nt = m := if_neg hbig
            rw [e4] at HN
            go_wp2_with (first | (go_at_call 84; refine (show Calls Tryz.prog 84 _ _ _ from HS1.out).mono ?_; rintro e wz ⟨rfl, rfl⟩) | (go_at_call 85; refine (show Calls Tryz.prog 85 _ _ _ from HI1.out).mono ?_; rintro e wz ⟨rfl, rfl⟩))
            go_roundw
            case rel => exact ⟨m, pos + wd, b', true, nt, rfl, rfl, rfl, rfl, HN.out⟩
            case measure => simp; omega
    · have hnx : ∀ ty, (Instr.next (.pointer (some ⟨w.heap.size, 0, none⟩)) true ty).run Tryz.prog (w.iter s pos) = _ := fun ty => run_next_end w s pos ty hp
      have HE : Hid (Z = (m, k)) := by rw [HI.out.1, crs_end hp]; rfl
      clear HI
      go_wp2
      go_ret2
      have hz : Z = (m, k) := HE.out
      subst hz
      exact ⟨rfl, (Only.refl _ w).iter s pos⟩
end Go.Proofs.YtdkbioahhkmpoaaGreatDoor
namespace Go.Proofs.YtdkbioahhkmpoaaGreatDoor
open Go.RowKit
set_option linter.unusedSimpArgs false
set_option linter.unusedVariables false

/-- Does s begin with p? -/
def preB (s p : ByteArray) : Bool := decide (p.size ≤ s.size) && ((s.extract 0 p.size).toList == p.toList)
theorem preB_le {s p : ByteArray} (h : preB s p = true) : p.size ≤ s.size := by
  simp only [preB, Bool.and_eq_true, decide_eq_true_eq] at h
  exact h.1
set_option maxRecDepth 100000 in
set_option maxHeartbeats 1000000 in
theorem hasprefix_lite (s p : ByteArray) (w : World) : Calls Tryz.prog 86 #[.string s, .string p] w fun e w' => e = .returned (.bool (preB s p)) ∧ w' = w := by
  by_cases h : p.size ≤ s.size
  · have h' : (p.size : Int) ≤ (s.size : Int) := by omega
    have hv : preB s p = ((s.extract 0 p.size).toList == p.toList) := by simp [preB, h]
    rw [hv]
    clear hv
    go_enter Tryz.func86, Tryz.ntmps86
    go_wp2
    go_ret
    exact ⟨rfl, rfl⟩
  · have h' : ¬ (p.size : Int) ≤ (s.size : Int) := by omega
    have hv : preB s p = false := by simp [preB, h]
    rw [hv]
    clear hv
    go_enter Tryz.func86, Tryz.ntmps86
    go_wp2
    go_ret
    exact ⟨rfl, rfl⟩
set_option maxRecDepth 100000 in
theorem hasprefix_any (s p : ByteArray) (w : World) : Calls Tryz.prog 60 #[.string s, .string p] w fun e w' => e = .returned (.bool (preB s p)) ∧ w' = w := by
  have H := hasprefix_lite s p w
  go_enter Tryz.func60, Tryz.ntmps60
  go_wp2_with (go_at_call 86; refine H.mono ?_; rintro e wz ⟨rfl, rfl⟩)
  go_ret
  exact ⟨rfl, rfl⟩
def cutV (s p : ByteArray) : Value := if preB s p then .tuple #[.string (s.extract p.size s.size), .bool true] else .tuple #[.string s, .bool false]
set_option maxRecDepth 100000 in
set_option maxHeartbeats 1000000 in
theorem cutprefix_lite (s p : ByteArray) (w : World) : Calls Tryz.prog 103 #[.string s, .string p] w fun e w' => e = .returned (cutV s p) ∧ w' = w := by
  have H : Hid (Calls Tryz.prog 86 #[.string s, .string p] w fun e w' => e = .returned (.bool (preB s p)) ∧ w' = w) := hasprefix_lite s p w
  unfold cutV
  cases hb : preB s p with
  | true =>
    rw [hb] at H
    have hle := preB_le hb
    have h' : (p.size : Int) ≤ (s.size : Int) := by omega
    clear hb
    go_enter Tryz.func103, Tryz.ntmps103
    go_wp2_with (go_at_call 86; refine (show Calls Tryz.prog 86 _ _ _ from H.out).mono ?_; rintro e wz ⟨rfl, rfl⟩)
    go_ret2
    exact ⟨rfl, rfl⟩
  | false =>
    rw [hb] at H
    clear hb
    go_enter Tryz.func103, Tryz.ntmps103
    go_wp2_with (go_at_call 86; refine (show Calls Tryz.prog 86 _ _ _ from H.out).mono ?_; rintro e wz ⟨rfl, rfl⟩)
    go_ret2
    exact ⟨rfl, rfl⟩
set_option maxRecDepth 100000 in
theorem cutprefix_any (s p : ByteArray) (w : World) : Calls Tryz.prog 83 #[.string s, .string p] w fun e w' => e = .returned (cutV s p) ∧ w' = w := by
  have H : Hid (Calls Tryz.prog 103 #[.string s, .string p] w fun e w' => e = .returned (cutV s p) ∧ w' = w) := cutprefix_lite s p w
  unfold cutV at H ⊢
  cases hb : preB s p with
  | true =>
    rw [hb, if_pos rfl] at H
    clear hb
    go_enter Tryz.func83, Tryz.ntmps83
    go_wp2_with (go_at_call 103; refine (show Calls Tryz.prog 103 _ _ _ from H.out).mono ?_; rintro e wz ⟨rfl, rfl⟩)
    go_ret2
    exact ⟨rfl, rfl⟩
  | false =>
    rw [hb, if_neg (by simp)] at H
    clear hb
    go_enter Tryz.func83, Tryz.ntmps83
    go_wp2_with (go_at_call 103; refine (show Calls Tryz.prog 103 _ _ _ from H.out).mono ?_; rintro e wz ⟨rfl, rfl⟩)
    go_ret2
    exact ⟨rfl, rfl⟩
def hyB : ByteArray := ⟨#[45]⟩
def miB : ByteArray := ⟨#[226, 136, 146]⟩
/-- A word without its sign. -/
def sgn (s : ByteArray) : ByteArray × Bool := if preB s hyB then (s.extract 1 s.size, true) else if preB s miB then (s.extract 3 s.size, true) else (s, false)
set_option maxRecDepth 100000 in
set_option maxHeartbeats 1000000 in
theorem unsigned_any (s : ByteArray) (w : World) : Calls Tryz.prog 58 #[.string s] w fun e w' => e = .returned (.tuple #[.string (sgn s).1, .bool (sgn s).2]) ∧ w' = w := by
  have H1 : Hid (Calls Tryz.prog 83 #[.string s, .string ⟨#[45]⟩] w fun e w' => e = .returned (cutV s hyB) ∧ w' = w) := cutprefix_any s hyB w
  have H2 : Hid (Calls Tryz.prog 83 #[.string s, .string ⟨#[226, 136, 146]⟩] w fun e w' => e = .returned (cutV s miB) ∧ w' = w) := cutprefix_any s miB w
  unfold cutV at H1 H2
  cases hb : preB s hyB with
  | true =>
    rw [hb, if_pos rfl] at H1
    have hs : sgn s = (s.extract 1 s.size, true) := by unfold sgn; rw [hb]; rfl
    have h1 : hyB.size = 1 := rfl
    rw [h1] at H1
    rw [hs]
    clear hs hb H2 h1
    go_enter Tryz.func58, Tryz.ntmps58
    go_wp2_with (go_at_call 83; refine (show Calls Tryz.prog 83 _ _ _ from H1.out).mono ?_; rintro e wz ⟨rfl, rfl⟩)
    go_ret2
    exact ⟨rfl, rfl⟩
  | false =>
    rw [hb, if_neg (by simp)] at H1
    cases hb2 : preB s miB with
    | true =>
      rw [hb2, if_pos rfl] at H2
      have hs : sgn s = (s.extract 3 s.size, true) := by unfold sgn; rw [hb, hb2]; rfl
      have h1 : miB.size = 3 := rfl
      rw [h1] at H2
      rw [hs]
      clear hs hb hb2 h1
      go_enter Tryz.func58, Tryz.ntmps58
      go_wp2_with fail
      refine (show Calls Tryz.prog 83 _ _ _ from H1.out).mono ?_
      rintro e wz ⟨rfl, rfl⟩
      clear H1
      go_wp2_with fail
      refine (show Calls Tryz.prog 83 _ _ _ from H2.out).mono ?_
      rintro e wz ⟨rfl, rfl⟩
      clear H2
      go_wp2
      go_ret2
      exact ⟨rfl, rfl⟩
    | false =>
      rw [hb2, if_neg (by simp)] at H2
      have hs : sgn s = (s, false) := by unfold sgn; rw [hb, hb2]; rfl
      rw [hs]
      clear hs hb hb2
      go_enter Tryz.func58, Tryz.ntmps58
      go_wp2_with fail
      refine (show Calls Tryz.prog 83 _ _ _ from H1.out).mono ?_
      rintro e wz ⟨rfl, rfl⟩
      clear H1
      go_wp2_with fail
      refine (show Calls Tryz.prog 83 _ _ _ from H2.out).mono ?_
      rintro e wz ⟨rfl, rfl⟩
      clear H2
      go_wp2
      go_ret2
      exact ⟨rfl, rfl⟩
/-- What a word is as a number: it, or an error. -/
def numR (s : ByteArray) : Int × Int :=
  if (natL (rns (sgn s).1) 0 false 0).2 = false then (0, 9)
  else if (sgn s).2 = true ∧ (natL (rns (sgn s).1) 0 false 0).1 ≤ 1152921504606846976 then (-((natL (rns (sgn s).1) 0 false 0).1 : Int), 0)
  else if (sgn s).2 = false ∧ (natL (rns (sgn s).1) 0 false 0).1 ≤ 1152921504606846975 then ((natL (rns (sgn s).1) 0 false 0).1, 0)
  else (0, 11)
set_option maxRecDepth 100000 in
set_option maxHeartbeats 1000000 in
theorem number_any (s : ByteArray) (w : World) (h : Nog w) : Calls Tryz.prog 41 #[.string s] w fun e w' => e = .returned (.tuple #[.int .i64 (numR s).1, .int .i64 (numR s).2]) ∧ Only (fun _ => False) w w' := by
  have H1 : Hid (Calls Tryz.prog 58 #[.string s] w fun e w' => e = .returned (.tuple #[.string (sgn s).1, .bool (sgn s).2]) ∧ w' = w) := unsigned_any s w
  have H2 : Hid (Calls Tryz.prog 59 #[.string (sgn s).1] w fun e w' => e = .returned (.tuple #[.int .u64 ((natL (rns (sgn s).1) 0 false 0).1 : Nat), .bool (natL (rns (sgn s).1) 0 false 0).2]) ∧ Only (fun _ => False) w w') := natural_any _ w h
  unfold numR
  obtain ⟨d, hd⟩ : ∃ d, d = (sgn s).1 := ⟨_, rfl⟩
  obtain ⟨b, hb⟩ : ∃ d, d = (sgn s).2 := ⟨_, rfl⟩
  rw [← hd] at H1 H2 ⊢
  rw [← hb] at H1 ⊢
  obtain ⟨n, hn⟩ : ∃ x, x = (natL (rns d) 0 false 0).1 := ⟨_, rfl⟩
  obtain ⟨k, hk⟩ : ∃ x, x = (natL (rns d) 0 false 0).2 := ⟨_, rfl⟩
  rw [← hn, ← hk] at H2 ⊢
  clear hd hb hn hk h
  cases k with
  | false =>
    simp only [if_true]
    go_enter Tryz.func41, Tryz.ntmps41
    go_wp2_with fail
    refine (show Calls Tryz.prog 58 _ _ _ from H1.out).mono ?_
    rintro e w1 ⟨rfl, rfl⟩
    clear H1
    go_wp2_with fail
    refine (show Calls Tryz.prog 59 _ _ _ from H2.out).mono ?_
    rintro e w2 ⟨rfl, ho⟩
    have HO : Hid (Only (fun _ => False) w1 w2) := ho
    clear H2 ho
    go_wp2
    go_ret2
    exact ⟨rfl, HO.out⟩
  | true =>
    cases b with
    | true =>
      by_cases hl : n ≤ 1152921504606846976
      · have i1 : (n : Int) ≤ 1152921504606846976 := by omega
        have e1 : IntKind.i64.wrap (n : Int) = (n : Int) := by rw [IntKind.wrap_i64]; omega
        have e2 : IntKind.i64.wrap (-(n : Int)) = -(n : Int) := by rw [IntKind.wrap_i64]; omega
        simp only [hl, and_self, if_true, Bool.true_eq_false, if_false]
        go_enter Tryz.func41, Tryz.ntmps41
        go_wp2_with fail
        refine (show Calls Tryz.prog 58 _ _ _ from H1.out).mono ?_
        rintro e w1 ⟨rfl, rfl⟩
        clear H1
        go_wp2_with fail
        refine (show Calls Tryz.prog 59 _ _ _ from H2.out).mono ?_
        rintro e w2 ⟨rfl, ho⟩
        have HO : Hid (Only (fun _ => False) w1 w2) := ho
        clear H2 ho
        go_wp2
        go_ret2
        exact ⟨rfl, HO.out⟩
      · have i1 : ¬ (n : Int) ≤ 1152921504606846976 := by omega
        simp only [hl, and_false, Bool.true_eq_false, if_false, false_and]
        go_enter Tryz.func41, Tryz.ntmps41
        go_wp2_with fail
        refine (show Calls Tryz.prog 58 _ _ _ from H1.out).mono ?_
        rintro e w1 ⟨rfl, rfl⟩
        clear H1
        go_wp2_with fail
        refine (show Calls Tryz.prog 59 _ _ _ from H2.out).mono ?_
        rintro e w2 ⟨rfl, ho⟩
        have HO : Hid (Only (fun _ => False) w1 w2) := ho
        clear H2 ho
        go_wp2
        go_ret2
        exact ⟨rfl, HO.out⟩
    | false =>
      by_cases hl : n ≤ 1152921504606846975
      · have i1 : (n : Int) ≤ 1152921504606846975 := by omega
        have e1 : IntKind.i64.wrap (n : Int) = (n : Int) := by rw [IntKind.wrap_i64]; omega
        simp only [hl, and_self, if_true, Bool.false_eq_true, Bool.true_eq_false, false_and, if_false]
        go_enter Tryz.func41, Tryz.ntmps41
        go_wp2_with fail
        refine (show Calls Tryz.prog 58 _ _ _ from H1.out).mono ?_
        rintro e w1 ⟨rfl, rfl⟩
        clear H1
        go_wp2_with fail
        refine (show Calls Tryz.prog 59 _ _ _ from H2.out).mono ?_
        rintro e w2 ⟨rfl, ho⟩
        have HO : Hid (Only (fun _ => False) w1 w2) := ho
        clear H2 ho
        go_wp2
        go_ret2
        exact ⟨rfl, HO.out⟩
      · have i1 : ¬ (n : Int) ≤ 1152921504606846975 := by omega
        simp only [hl, and_false, Bool.true_eq_false, Bool.false_eq_true, if_false, false_and]
        go_enter Tryz.func41, Tryz.ntmps41
        go_wp2_with fail
        refine (show Calls Tryz.prog 58 _ _ _ from H1.out).mono ?_
        rintro e w1 ⟨rfl, rfl⟩
        clear H1
        go_wp2_with fail
        refine (show Calls Tryz.prog 59 _ _ _ from H2.out).mono ?_
        rintro e w2 ⟨rfl, ho⟩
        have HO : Hid (Only (fun _ => False) w1 w2) := ho
        clear H2 ho
        go_wp2
        go_ret2
        exact ⟨rfl, HO.out⟩
end Go.Proofs.YtdkbioahhkmpoaaGreatDoor
