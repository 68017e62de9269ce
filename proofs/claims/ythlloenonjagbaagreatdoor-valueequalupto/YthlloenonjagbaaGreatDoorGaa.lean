/- Which blocks a call may have turned: definitions and small facts, with no program in them. Trees of values and items, whatever they hold, and how they lie in memory. -/
import Derived.WalkKit
import Derived.WalkSpells
import Derived.WalkLawsBesides
import Derived.OneCell
import Derived.Deep.MidRow
import Derived.Deep.AppendLies
import Derived.Deep.Upon
import Derived.Deep.WholeRow
import Derived.Test.YthlloenonjagbaaGreatDoorRows
import Derived.Maps.AppendAt
namespace Go.Proofs.YthlloenonjagbaaGreatDoor
open Go.RowKit

/-- Only blocks of bs may have turned; the streams stand; no block has gone. -/
structure Only (bs : Nat → Prop) (w w' : World) : Prop where
  os : w'.os = w.os
  tape : w'.tape = w.tape
  output : w'.output = w.output
  size : w.heap.size ≤ w'.heap.size
  block : ∀ k, k < w.heap.size → ¬ bs k → w'.heap[k]? = w.heap[k]?

theorem Only.refl (bs : Nat → Prop) (w : World) : Only bs w w := ⟨rfl, rfl, rfl, Nat.le_refl _, fun _ _ _ => rfl⟩
theorem Only.mono {bs bs' : Nat → Prop} {w w' : World} (h : Only bs w w') (hb : ∀ k, k < w.heap.size → bs k → bs' k) : Only bs' w w' :=
  ⟨h.os, h.tape, h.output, h.size, fun k hk hn => h.block k hk (fun e => hn (hb k hk e))⟩
theorem Only.trans {bs bs' : Nat → Prop} {a b c : World} (h : Only bs a b) (k : Only bs' b c) (hb : ∀ i, i < a.heap.size → bs' i → bs i) : Only bs a c :=
  ⟨k.os.trans h.os, k.tape.trans h.tape, k.output.trans h.output, Nat.le_trans h.size k.size,
    fun i hi hn => (k.block i (Nat.lt_of_lt_of_le hi h.size) (fun e => hn (hb i hi e))).trans (h.block i hi hn)⟩
theorem Only.drew {bs : Nat → Prop} {a w : World} (h : Only bs a w) : Only bs a w.drew := ⟨h.os, h.tape, h.output, h.size, h.block⟩
theorem Only.alloc {bs : Nat → Prop} {a w : World} (h : Only bs a w) (o : Obj) : Only bs a (w.alloc o) :=
  ⟨h.os, h.tape, h.output, by have := h.size; simp; omega, fun k hk hn => (Below.heap_alloc _ _ _ (Nat.lt_of_lt_of_le hk h.size)).trans (h.block k hk hn)⟩
theorem Only.setCell {bs : Nat → Prop} {a w : World} (h : Only bs a w) (p : Addr) (u : Value) (hp : p.block < a.heap.size → bs p.block) : Only bs a (w.setCell p u) :=
  ⟨h.os, h.tape, h.output, by have := h.size; simpa [World.setCell] using this, fun k hk hn => (Below.heap_setCell w p u k (fun e => hn (by rw [e]; exact hp (by rw [← e]; exact hk)))).trans (h.block k hk hn)⟩
theorem setCells_same (b : Nat) : ∀ (vs : List Value) (o : Nat) (w : World), (w.setCells b o vs).os = w.os ∧ (w.setCells b o vs).tape = w.tape ∧ (w.setCells b o vs).output = w.output ∧ (w.setCells b o vs).heap.size = w.heap.size
  | [], _, _ => ⟨rfl, rfl, rfl, rfl⟩
  | v :: r, o, w => by
    obtain ⟨h1, h2, h3, h4⟩ := setCells_same b r (o + 1) (w.setCell ⟨b, o, none⟩ v)
    exact ⟨h1, h2, h3, h4.trans (by simp [World.setCell])⟩
theorem Only.setCells {bs : Nat → Prop} {a w : World} (h : Only bs a w) (b o : Nat) (vs : List Value) (hp : b < a.heap.size → bs b) : Only bs a (w.setCells b o vs) := by
  obtain ⟨h1, h2, h3, h4⟩ := setCells_same b vs o w
  exact ⟨h1.trans h.os, h2.trans h.tape, h3.trans h.output, h4 ▸ h.size, fun k hk hn =>
    (World.heap_setCells_other w b o vs (Nat.lt_of_lt_of_le hk h.size) (fun e => hn (e ▸ hp (e ▸ hk)))).trans (h.block k hk hn)⟩
theorem Only.grown {bs : Nat → Prop} {a w w' : World} {row : Option Nat} (h : Only bs a w) (hg : w.grownBy w' row) (hr : ∀ k, row = some k → k < a.heap.size → bs k) : Only bs a w' :=
  ⟨hg.os.trans h.os, hg.tape.trans h.tape, hg.output.trans h.output, Nat.le_trans h.size hg.size,
    fun k hk hn => (hg.block k (Nat.lt_of_lt_of_le hk h.size) (fun e => hn (hr k e.symm hk))).trans (h.block k hk hn)⟩
theorem Only.below {bs : Nat → Prop} {w w' : World} {B : Nat} (h : Only bs w w') (hb : ∀ k, bs k → B ≤ k) (hB : B ≤ w.heap.size) : Below B w w' :=
  ⟨h.os, h.tape, h.output, h.size, fun k hk => h.block k (by omega) (fun e => by have := hb k e; omega)⟩
theorem Only.cell {bs : Nat → Prop} {w w' : World} (h : Only bs w w') {a : Addr} {v : Value} (hc : w.cell? a = some v) (hn : ¬ bs a.block) : w'.cell? a = some v :=
  (World.cell?_of_block (w := w) (h.block a.block (World.block_lt_of_cell? w a hc) hn)).trans hc
theorem Only.frozen {bs : Nat → Prop} {w w' : World} (h : Only bs w w') {a : Addr} (hl : a.block < w.heap.size) (hn : ¬ bs a.block) : w'.frozen? a = w.frozen? a :=
  World.frozen?_of_block (w := w) (h.block a.block hl hn)
theorem Only.range {bs : Nat → Prop} {w w' : World} (h : Only bs w w') {b o : Nat} {cs : List Value} (hc : w.rangeAt b o cs) (hn : ¬ bs b) : w'.rangeAt b o cs :=
  fun j v hv => h.cell (a := ⟨b, o + j, none⟩) (hc j v hv) hn
theorem Only.there {bs : Nat → Prop} {w w' : World} (h : Only bs w w') {b o n : Nat} (hc : w.there b o n) (hn : ¬ bs b) : w'.there b o n := fun j hj => by
  obtain ⟨h1, h2⟩ := hc j hj
  obtain ⟨u, hu⟩ := Option.isSome_iff_exists.1 h1
  exact ⟨by rw [h.cell hu hn]; rfl, by rw [h.frozen (World.block_lt_of_cell? w _ hu) hn]; exact h2⟩
theorem Only.owns {bs : Nat → Prop} {w w' : World} (h : Only bs w w') {B e size n : Nat} {v : Value} {xs : List Value} (ho : w.ownsRow B e size v n xs) (hn : ∀ k, v.ownBlock = some k → ¬ bs k) : w'.ownsRow B e size v n xs := by
  refine ⟨ho.1, ?_⟩
  rcases ho.2 with hz | ⟨g, cap, cur, hv, hb, hg, rest⟩
  · exact .inl hz
  · refine .inr ⟨g, cap, cur, hv, hb, ?_, rest⟩
    have hl : g < w.heap.size := by
      rcases Nat.lt_or_ge g w.heap.size with hlt | hge
      · exact hlt
      · simp [Array.getElem?_eq_none hge] at hg
    rw [h.block g hl (hn g (by rw [hv]; rfl))]; exact hg


theorem ownsRow_slice {w : World} {B e size n : Nat} {v : Value} {xs : List Value} (h : w.ownsRow B e size v n xs) : ∃ a c, v = .slice a n c := by
  rcases h.2 with ⟨h1, h2⟩ | ⟨g, cap, cur, h1, _⟩
  · exact ⟨none, 0, by rw [h1, h2]⟩
  · exact ⟨_, _, h1⟩
end Go.Proofs.YthlloenonjagbaaGreatDoor
namespace Go.Proofs.YthlloenonjagbaaGreatDoor
open Go.RowKit
set_option linter.unusedSimpArgs false
set_option linter.unusedVariables false
/-- a value or an item as a tree: its kind, its number, its text, its parts -/
structure Vt where
  k : Int
  n : Int
  s : ByteArray
  l : List Vt
/-- the value v is the tree t (i: as an item), within the blocks S; d: how deep it is at most -/
def TiAt (w : World) (S : Nat → Prop) : Nat → Bool → Vt → Value → Prop
  | 0, _, _, _ => False
  | d + 1, true, t, v => (t.k = 7 ∧ t.l = [] ∧ v = .iface 111 (.agg #[.string t.s])) ∨ (t.k = 8 ∧ t.l = [] ∧ v = .nilIface) ∨ (t.k ≠ 7 ∧ t.k ≠ 8 ∧ ∃ u, v = .iface 108 (.agg #[u]) ∧ TiAt w S d false t u)
  | d + 1, false, t, v => (t.k = 1 ∧ t.l = [] ∧ v = .iface 59 (.agg #[.int .i64 t.n])) ∨ (t.k = 2 ∧ t.l = [] ∧ v = .iface 76 (.agg #[.string t.s])) ∨ (t.k = 3 ∧ t.l = [] ∧ v = .iface 78 (.agg #[.bool (t.n != 0)])) ∨ (t.k = 6 ∧ t.l = [] ∧ v = .iface 84 (.agg #[.int .i64 t.n])) ∨ (t.k = 8 ∧ t.l = [] ∧ v = .nilIface) ∨
    ((t.k = 4 ∨ t.k = 5) ∧ ∃ ao cap, v = .iface (if t.k = 4 then 80 else 82) (.agg #[.slice ao t.l.length cap]) ∧ t.l.length ≤ cap ∧ ∀ i x, t.l[i]? = some x → ∃ g k u, ao = some ⟨g, k, none⟩ ∧ S g ∧ w.cell? ⟨g, k + i, none⟩ = some u ∧ TiAt w S d (decide (t.k = 5)) x u)
theorem TiAt.step {w w' : World} {S S' : Nat → Prop} (hS : ∀ b, S b → S' b) (hk : ∀ (a : Addr) u, S a.block → w.cell? a = some u → w'.cell? a = some u) : ∀ {d d' : Nat} {i : Bool} {t : Vt} {v : Value}, d ≤ d' → TiAt w S d i t v → TiAt w' S' d' i t v := by
  intro d
  induction d with
  | zero => intro d' i t v _ h; exact h.elim
  | succ d ih =>
    intro d' i t v hd h
    obtain ⟨e, rfl⟩ : ∃ e, d' = e + 1 := ⟨d' - 1, by omega⟩
    cases i with
    | true =>
      rcases h with h | h | ⟨h, h', u, hv, hu⟩
      · exact .inl h
      · exact .inr (.inl h)
      · exact .inr (.inr ⟨h, h', u, hv, ih (by omega) hu⟩)
    | false =>
      rcases h with h | h | h | h | h | ⟨h, ao, cap, hv, hc, hl⟩
      · exact .inl h
      · exact .inr (.inl h)
      · exact .inr (.inr (.inl h))
      · exact .inr (.inr (.inr (.inl h)))
      · exact .inr (.inr (.inr (.inr (.inl h))))
      · refine .inr (.inr (.inr (.inr (.inr ⟨h, ao, cap, hv, hc, fun i x hx => ?_⟩))))
        obtain ⟨g, k, u, ha, hg, hu, ht⟩ := hl i x hx
        exact ⟨g, k, u, ha, hS g hg, hk _ _ hg hu, ih (by omega) ht⟩
theorem TiAt.only {w w' : World} {S bs : Nat → Prop} {d : Nat} {i : Bool} {t : Vt} {v : Value} (h : TiAt w S d i t v) (o : Only bs w w') (hb : ∀ b, S b → ¬ bs b) : TiAt w' S d i t v :=
  TiAt.step (fun _ g => g) (fun a u hs hc => o.cell hc (hb _ hs)) (Nat.le_refl _) h
/-- a row of trees that was made since block B, in a block of its own beside those of its trees -/
def RiAt (w : World) (B : Nat) (T : TypeId) (d : Nat) (i : Bool) (v : Value) (l : List Vt) : Prop :=
  ∃ us S, w.ownsRow B T 1 v l.length us ∧ (∀ (j : Nat) (x : Vt), l[j]? = some x → ∃ u, us[j]? = some u ∧ TiAt w S d i x u) ∧ ∀ b, S b → B ≤ b ∧ b < w.heap.size ∧ v.ownBlock ≠ some b
theorem ri_nil (w : World) (B : Nat) (T : TypeId) (d : Nat) (i : Bool) : RiAt w B T d i (.slice none 0 0) [] :=
  ⟨[], fun _ => False, ⟨rfl, .inl ⟨rfl, rfl⟩⟩, fun j x h => by simp at h, fun b h => h.elim⟩
theorem RiAt.form {w : World} {B : Nat} {T : TypeId} {d : Nat} {i : Bool} {v : Value} {l : List Vt} (h : RiAt w B T d i v l) : ∃ ao cap, v = .slice ao l.length cap := by
  obtain ⟨us, S, ho, _⟩ := h
  rcases ho.2 with ⟨h1, h2⟩ | ⟨g, cap, cur, h1, _⟩
  · exact ⟨_, _, by rw [h1, h2]⟩
  · exact ⟨_, _, h1⟩
theorem RiAt.only {w w' : World} {B : Nat} {T : TypeId} {d : Nat} {i : Bool} {v : Value} {l : List Vt} {bs : Nat → Prop} (h : RiAt w B T d i v l) (o : Only bs w w') (hb : ∀ b, B ≤ b → ¬ bs b) : RiAt w' B T d i v l := by
  obtain ⟨us, S, ho, ht, hS⟩ := h
  refine ⟨us, S, o.owns ho (fun k hk => hb k (ho.lt k hk).1), fun j x hx => ?_, fun b hbS => ?_⟩
  · obtain ⟨u, hu, h2⟩ := ht j x hx
    exact ⟨u, hu, h2.only o (fun b hbS => hb b (hS b hbS).1)⟩
  · obtain ⟨h1, h2, h3⟩ := hS b hbS
    exact ⟨h1, Nat.lt_of_lt_of_le h2 o.size, h3⟩
theorem RiAt.deep {w : World} {B : Nat} {T : TypeId} {d d' : Nat} {i : Bool} {v : Value} {l : List Vt} (h : RiAt w B T d i v l) (hd : d ≤ d') : RiAt w B T d' i v l := by
  obtain ⟨us, S, ho, ht, hS⟩ := h
  refine ⟨us, S, ho, fun j x hx => ?_, hS⟩
  obtain ⟨u, hu, h2⟩ := ht j x hx
  exact ⟨u, hu, h2.step (fun _ g => g) (fun _ _ _ g => g) hd⟩
/-- what a value is that was made since block B -/
def NiAt (w : World) (B : Nat) (d : Nat) (i : Bool) (t : Vt) (v : Value) : Prop := ∃ S, TiAt w S d i t v ∧ ∀ b, S b → B ≤ b ∧ b < w.heap.size
theorem NiAt.only {w w' : World} {B : Nat} {d : Nat} {i : Bool} {v : Value} {t : Vt} {bs : Nat → Prop} (h : NiAt w B d i t v) (o : Only bs w w') (hb : ∀ b, B ≤ b → ¬ bs b) : NiAt w' B d i t v := by
  obtain ⟨S, ht, hS⟩ := h
  exact ⟨S, ht.only o (fun b hbS => hb b (hS b hbS).1), fun b hbS => ⟨(hS b hbS).1, Nat.lt_of_lt_of_le (hS b hbS).2 o.size⟩⟩
theorem NiAt.lower {w : World} {B C : Nat} {d : Nat} {i : Bool} {v : Value} {t : Vt} (h : NiAt w B d i t v) (hC : C ≤ B) : NiAt w C d i t v := by
  obtain ⟨S, ht, hS⟩ := h
  exact ⟨S, ht, fun b hbS => ⟨Nat.le_trans hC (hS b hbS).1, (hS b hbS).2⟩⟩
theorem NiAt.deep {w : World} {B : Nat} {d d' : Nat} {i : Bool} {v : Value} {t : Vt} (h : NiAt w B d i t v) (hd : d ≤ d') : NiAt w B d' i t v := by
  obtain ⟨S, ht, hS⟩ := h
  exact ⟨S, ht.step (fun _ g => g) (fun _ _ _ g => g) hd, hS⟩
/-- a tree is put behind a row: what the append leaves -/
theorem RiAt.snoc {w w' : World} {B C : Nat} {T : TypeId} {d : Nat} {i : Bool} {v v' : Value} {l : List Vt} {t : Vt} {u : Value} {us : List Value} {S : Nat → Prop} (hg : w.grownBy w' v.ownBlock) (ho : w.ownsRow B T 1 v l.length us) (ht : ∀ (j : Nat) (x : Vt), l[j]? = some x → ∃ u, us[j]? = some u ∧ TiAt w S d i x u) (hS : ∀ b, S b → B ≤ b ∧ b < w.heap.size ∧ v.ownBlock ≠ some b)
    (hn : NiAt w C d i t u) (hC : B ≤ C) (hv : ∀ k, v.ownBlock = some k → k < C) (ho' : w'.ownsRow B T 1 v' (l.length + 1) (us ++ [u])) (hat : v'.ownBlock = v.ownBlock ∨ v'.ownBlock = some w.heap.size) : RiAt w' B T d i v' (l ++ [t]) := by
  obtain ⟨S1, t1, s1⟩ := hn
  have oo : Only (fun k => v.ownBlock = some k) w w' := (Only.refl _ w).grown hg (fun k e _ => e)
  have a1 : ∀ b, S b → ¬ v.ownBlock = some b := fun b h => (hS b h).2.2
  have a2 : ∀ b, S1 b → ¬ v.ownBlock = some b := fun b h e => by have := hv b e; have := (s1 b h).1; omega
  have hl : us.length = l.length := by have := ho.1; omega
  refine ⟨us ++ [u], fun b => S b ∨ S1 b, by simpa using ho', fun j x hx => ?_, fun b hb => ?_⟩
  · by_cases hj : j < l.length
    · rw [List.getElem?_append_left hj] at hx
      obtain ⟨u', h1, h2⟩ := ht j x hx
      refine ⟨u', by rw [List.getElem?_append_left (by omega)]; exact h1, h2.step (fun _ g => .inl g) (fun a y hs hc => oo.cell hc (a1 _ hs)) (Nat.le_refl _)⟩
    · have hj2 : j < (l ++ [t]).length := (List.getElem?_eq_some_iff.1 hx).1
      have hj3 : j = l.length := by simp at hj2; omega
      subst hj3
      simp at hx
      subst hx
      exact ⟨u, by rw [← hl]; simp, t1.step (fun _ g => .inr g) (fun a y hs hc => oo.cell hc (a2 _ hs)) (Nat.le_refl _)⟩
  · have h1 : B ≤ b ∧ b < w.heap.size ∧ v.ownBlock ≠ some b := by
      rcases hb with h | h
      · exact hS b h
      · exact ⟨Nat.le_trans hC (s1 b h).1, (s1 b h).2, a2 b h⟩
    refine ⟨h1.1, Nat.lt_of_lt_of_le h1.2.1 oo.size, ?_⟩
    rcases hat with e | e <;> rw [e]
    · exact h1.2.2
    · intro e2
      injection e2 with e2
      have := h1.2.1
      omega
theorem addr_ad (g k : Nat) : (⟨g, 0, none⟩ : Addr).add k = ⟨g, k, none⟩ := by
  show (if k = 0 then _ else _) = _
  split
  · rename_i h; rw [h]
  · simp
/-- a row as a list or a quotation -/
theorem RiAt.tree {w : World} {B : Nat} {T : TypeId} {d : Nat} {v : Value} {l : List Vt} {t : Vt} (hk : t.k = 4 ∨ t.k = 5) (hl0 : t.l = l) (h : RiAt w B T d (decide (t.k = 5)) v l) : NiAt w B (d + 1) false t (.iface (if t.k = 4 then 80 else 82) (.agg #[v])) := by
  obtain ⟨us, S, ho, ht, hS⟩ := h
  subst hl0
  refine ⟨fun b => S b ∨ v.ownBlock = some b, .inr (.inr (.inr (.inr (.inr ⟨hk, ?_⟩)))), fun b hb => ?_⟩
  · rcases ho.2 with ⟨rfl, h2⟩ | ⟨g, cap, cur, hv, hB, hg, hn, hcm, hcs, htk⟩
    · exact ⟨none, 0, by rw [h2], by omega, fun i x hx => by have := (List.getElem?_eq_some_iff.1 hx).1; omega⟩
    · refine ⟨some ⟨g, 0, none⟩, cap, by rw [hv], hn, fun i x hx => ?_⟩
      obtain ⟨u, h1, h2⟩ := ht i x hx
      have hc := ho.cells (g := g) (by rw [hv]; rfl) i u h1
      rw [addr_ad] at hc
      exact ⟨g, 0, u, rfl, .inr (by rw [hv]; rfl), by simpa using hc, h2.step (fun _ g => .inl g) (fun _ _ _ g => g) (Nat.le_refl _)⟩
  · rcases hb with h | h
    · exact ⟨(hS b h).1, (hS b h).2.1⟩
    · exact ho.lt b h
/-- the slice lv holds the trees l as the document has them -/
def VsAt (w : World) (S : Nat → Prop) : Nat → List Vt → Value → Prop
  | 0, _, _ => False
  | d + 1, l, lv => ∃ ao cap, lv = .slice ao l.length cap ∧ l.length ≤ cap ∧ ∀ (i : Nat) (x : Vt), l[i]? = some x → ∃ g k lx, ao = some ⟨g, k, none⟩ ∧ S g ∧ (w.cell? ⟨g, k + i * 4, none⟩ = some (.int .i64 x.k) ∧ w.cell? ⟨g, k + i * 4 + 1, none⟩ = some (.int .i64 x.n) ∧ w.cell? ⟨g, k + i * 4 + 2, none⟩ = some (.string x.s) ∧ w.cell? ⟨g, k + i * 4 + 3, none⟩ = some lx) ∧ VsAt w S d x.l lx
theorem VsAt.step {w w' : World} {S S' : Nat → Prop} (hS : ∀ b, S b → S' b) (hk : ∀ (a : Addr) u, S a.block → w.cell? a = some u → w'.cell? a = some u) : ∀ {d d' : Nat} {l : List Vt} {v : Value}, d ≤ d' → VsAt w S d l v → VsAt w' S' d' l v := by
  intro d
  induction d with
  | zero => intro d' t v _ h; exact h.elim
  | succ d ih =>
    intro d' t v hd h
    obtain ⟨e, rfl⟩ : ∃ e, d' = e + 1 := ⟨d' - 1, by omega⟩
    obtain ⟨ao, cap, hv, hc, hl⟩ := h
    refine ⟨ao, cap, hv, hc, fun i x hx => ?_⟩
    obtain ⟨g, k, lx, ha, hg, ⟨c0, c1, c2, c3⟩, ht⟩ := hl i x hx
    exact ⟨g, k, lx, ha, hS g hg, ⟨hk _ _ hg c0, hk _ _ hg c1, hk _ _ hg c2, hk _ _ hg c3⟩, ih (by omega) ht⟩
theorem VsAt.only {w w' : World} {S : Nat → Prop} {d : Nat} {l : List Vt} {v : Value} (h : VsAt w S d l v) (o : Only (fun _ => False) w w') : VsAt w' S d l v :=
  h.step (fun _ g => g) (fun a u _ hc => o.cell hc (fun g => g)) (Nat.le_refl _)
theorem VsAt.form {w : World} {S : Nat → Prop} {d : Nat} {l : List Vt} {lv : Value} (h : VsAt w S d l lv) : ∃ ao cap, lv = .slice ao l.length cap := by
  cases d with
  | zero => exact h.elim
  | succ d => obtain ⟨ao, cap, hv, _⟩ := h; exact ⟨ao, cap, hv⟩
/-- what a tree holds is within the bounds of the second form: texts and lists of at most 2^20 -/
def SmT : Nat → Vt → Prop
  | 0, _ => False
  | d + 1, t => t.s.size ≤ 1048576 ∧ t.l.length ≤ 1048576 ∧ (-9223372036854775808 ≤ t.k ∧ t.k ≤ 9223372036854775807) ∧ (-9223372036854775808 ≤ t.n ∧ t.n ≤ 9223372036854775807) ∧ ∀ x ∈ t.l, SmT d x
theorem SmT.mono : ∀ {d d' : Nat} {t : Vt}, d ≤ d' → SmT d t → SmT d' t
  | 0, _, _, _, h => h.elim
  | d + 1, 0, t, hd, h => by omega
  | d + 1, e + 1, t, hd, h => ⟨h.1, h.2.1, h.2.2.1, h.2.2.2.1, fun x hx => (h.2.2.2.2 x hx).mono (by omega)⟩
end Go.Proofs.YthlloenonjagbaaGreatDoor
