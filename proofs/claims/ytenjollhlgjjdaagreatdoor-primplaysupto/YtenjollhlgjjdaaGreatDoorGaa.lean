import Derived.WalkKit
import Derived.WalkSpells
import Derived.WalkLawsBesides
import Derived.OneCell
import Derived.Deep.MidRow
import Derived.Deep.AppendLies
import Derived.Deep.Upon
import Derived.Deep.WholeRow
import Derived.Deep.RegionHeld3
import Derived.Test.YtenjollhlgjjdaaGreatDoorRows
import Derived.Maps.AppendAt
import Derived.OpenShut
/-       -/
set_option linter.unusedSimpArgs false
set_option linter.unusedVariables false
set_option maxRecDepth 100000
set_option maxHeartbeats 40000000
namespace Go.Proofs.YtenjollhlgjjdaaGreatDoor
open Go.RowKit
structure Only (bs : Nat → Prop) (w w' : World) : Prop where
 os : w'.os = w.os
 tape : w'.tape = w.tape
 output : w'.output = w.output
 size : w.heap.size ≤ w'.heap.size
 block : ∀ k, k < w.heap.size → ¬ bs k → w'.heap[k]? = w.heap[k]?
abbrev Oz (w w' : World) : Prop := Only (fun _ => False) w w'
abbrev Cz (f : FuncId) (a : Array Value) (w : World) (q : Ending → World → Prop) : Prop := Calls Tryz.prog f a w q
theorem Only.refl (bs : Nat → Prop) (w : World) : Only bs w w := ⟨rfl, rfl, rfl, Nat.le_refl _, fun _ _ _ => rfl⟩
theorem Only.mono {bs bs' : Nat → Prop} {w w' : World} (h : Only bs w w') (hb : ∀ k, k < w.heap.size → bs k → bs' k) : Only bs' w w' :=
 ⟨h.os, h.tape, h.output, h.size, fun k hk hn => h.block k hk (fun e => hn (hb k hk e))⟩
theorem Only.trans {bs bs' : Nat → Prop} {a b c : World} (h : Only bs a b) (k : Only bs' b c) (hb : ∀ i, i < a.heap.size → bs' i → bs i) : Only bs a c :=
 ⟨k.os.trans h.os, k.tape.trans h.tape, k.output.trans h.output, Nat.le_trans h.size k.size,
  fun i hi hn => (k.block i (Nat.lt_of_lt_of_le hi h.size) (fun e => hn (hb i hi e))).trans (h.block i hi hn)⟩
theorem Only.drew {bs : Nat → Prop} {a w : World} (h : Only bs a w) : Only bs a w.drew := ⟨h.os, h.tape, h.output, h.size, h.block⟩
theorem Only.alloc {bs : Nat → Prop} {a w : World} (h : Only bs a w) (o : Obj) : Only bs a (w.alloc o) :=
 ⟨h.os, h.tape, h.output, by have := h.size; simp; omega, fun k hk hn => (Below.heap_alloc _ _ _ (Nat.lt_of_lt_of_le hk h.size)).trans (h.block k hk hn)⟩
theorem Only.setCell {bs : Nat → Prop} {a w : World} (h : Only bs a w) (p : Addr) (u : Value) (hp : p.block < a.heap.size → bs p.block) : Only bs a (w.setCell p u) :=
 ⟨h.os, h.tape, h.output, by have := h.size; simpa [World.setCell] using this, fun k hk hn => (Below.heap_setCell w p u k (fun e => hn (by rw [e]; exact hp (by rw [← e]; exact hk)))).trans (h.block k hk hn)⟩
theorem Only.grown {bs : Nat → Prop} {a w w' : World} {row : Option Nat} (h : Only bs a w) (hg : w.grownBy w' row) (hr : ∀ k, row = some k → k < a.heap.size → bs k) : Only bs a w' :=
 ⟨hg.os.trans h.os, hg.tape.trans h.tape, hg.output.trans h.output, Nat.le_trans h.size hg.size,
  fun k hk hn => (hg.block k (Nat.lt_of_lt_of_le hk h.size) (fun e => hn (hr k e.symm hk))).trans (h.block k hk hn)⟩
theorem Only.below {bs : Nat → Prop} {w w' : World} {B : Nat} (h : Only bs w w') (hb : ∀ k, bs k → B ≤ k) (hB : B ≤ w.heap.size) : Below B w w' :=
 ⟨h.os, h.tape, h.output, h.size, fun k hk => h.block k (by omega) (fun e => by have := hb k e; omega)⟩
theorem Only.cell {bs : Nat → Prop} {w w' : World} (h : Only bs w w') {a : Addr} {v : Value} (hc : w.cell? a = some v) (hn : ¬ bs a.block) : w'.cell? a = some v :=
 (World.cell?_of_block (w := w) (h.block a.block (World.block_lt_of_cell? w a hc) hn)).trans hc
theorem Only.frozen {bs : Nat → Prop} {w w' : World} (h : Only bs w w') {a : Addr} (hl : a.block < w.heap.size) (hn : ¬ bs a.block) : w'.frozen? a = w.frozen? a :=
 World.frozen?_of_block (w := w) (h.block a.block hl hn)
theorem Only.range {bs : Nat → Prop} {w w' : World} (h : Only bs w w') {b o : Nat} {cs : List Value} (hc : w.rangeAt b o cs) (hn : ¬ bs b) : w'.rangeAt b o cs :=
 fun j v hv => h.cell (a := ⟨b, o + j, none⟩) (hc j v hv) hn
theorem Only.there {bs : Nat → Prop} {w w' : World} (h : Only bs w w') {b o n : Nat} (hc : w.there b o n) (hn : ¬ bs b) : w'.there b o n := fun j hj => by
 obtain ⟨h1, h2⟩ := hc j hj
 obtain ⟨u, hu⟩ := Option.isSome_iff_exists.1 h1
 exact ⟨by rw [h.cell hu hn]; rfl, by rw [h.frozen (World.block_lt_of_cell? w _ hu) hn]; exact h2⟩
theorem Only.owns {bs : Nat → Prop} {w w' : World} (h : Only bs w w') {B e size n : Nat} {v : Value} {xs : List Value} (ho : w.ownsRow B e size v n xs) (hn : ∀ k, v.ownBlock = some k → ¬ bs k) : w'.ownsRow B e size v n xs := by
 refine ⟨ho.1, ?_⟩
 rcases ho.2 with hz | ⟨g, cap, cur, hv, hb, hg, rest⟩
 ·exact .inl hz
 ·refine .inr ⟨g, cap, cur, hv, hb, ?_, rest⟩
  have hl : g < w.heap.size := by
   rcases Nat.lt_or_ge g w.heap.size with hlt | hge
   ·exact hlt
   ·simp [Array.getElem?_eq_none hge] at hg
  rw [h.block g hl (hn g (by rw [hv]; rfl))]; exact hg
theorem z9 {α : Type} : (∀ (l : List α) (i : Nat) (a : α), l.toArray.setIfInBounds i a = (l.set i a).toArray) ∧ (∀ (a b : α) (l : List α), (a :: l).set 0 b = b :: l) ∧ (∀ (a b : α) (n : Nat) (l : List α), (a :: l).set (n + 1) b = a :: l.set n b) ∧ (∀ (l : List α) (i : Nat) (h : i < l.toArray.size), l.toArray[i] = l[i]'(by simpa using h)) ∧ (∀ (a : α) (l : List α) (h : 0 < (a :: l).length), (a :: l)[0] = a) ∧ (∀ (a : α) (l : List α) (i : Nat) (h : i + 1 < (a :: l).length), (a :: l)[i + 1] = l[i]'(by simpa using h)) := ⟨fun _ _ _ => by simp, fun _ _ _ => rfl, fun _ _ _ _ => rfl, fun _ _ _ => by simp, fun _ _ _ => rfl, fun _ _ _ _ => rfl⟩
section
variable {P : Program} {ops : Array Oper} {S : World → Prop} {md : Region.Mode} {Q : Exit → Act → World → Prop}
theorem t8 {i : Nat} {oi : Oper} {v : Value} {fuel : Nat} {listed : Array Bool} {a : Act} {w : World} (hi : ops[i]? = some oi)
 (hS : S w) (h : wpAnyH P md ops Q S fuel (listed.setIfInBounds i true) (a.put oi.dst v) w)
 (hy : YieldsIf P ops S oi v a := by exact Or.inl ⟨by rfl, fun wx hSw => by go_simp⟩)
 (hc : (Region.noSelect ops && Region.free md ops listed i && (Region.ready md ops listed).contains i) = true := by kernel_rfl)
 (hQ : ∀ c a w, Q (.panic c) (a.put oi.dst v) w → Q (.panic c) a w := by exact fun _ _ _ h => h) : wpAnyH P md ops Q S (fuel + 1) listed a w := by
 simp only [Bool.and_eq_true] at hc
 exact wpAnyH_take hi hc.1.1 hc.1.2 hc.2 hQ hy hS h
theorem t9 {i : Nat} {oi : Oper} {fuel : Nat} {listed : Array Bool} {a : Act} {w : World} (hi : ops[i]? = some oi)
 (hS : S w) (h : wpAnyH P md ops Q S fuel (listed.setIfInBounds i true) (a.put oi.dst undef) w)
 (hy : YieldsIf P ops S oi undef a := by exact Or.inr ⟨by rfl, rfl⟩)
 (hc : (Region.noSelect ops && Region.free md ops listed i && (Region.ready md ops listed).contains i) = true := by kernel_rfl)
 (hQ : ∀ c a w, Q (.panic c) (a.put oi.dst undef) w → Q (.panic c) a w := by exact fun _ _ _ h => h) : wpAnyH P md ops Q S (fuel + 1) listed a w := by
 simp only [Bool.and_eq_true] at hc
 exact wpAnyH_take hi hc.1.1 hc.1.2 hc.2 hQ hy hS h
end
structure Vt where
 k : Int
 n : Int
 s : ByteArray
 l : List Vt
def TiAt (w : World) (S : Nat → Prop) : Nat → Bool → Vt → Value → Prop
 | 0, _, _, _ => False
 | d + 1, true, t, v => (t.k = 7 ∧ t.l = [] ∧ v = .iface 127 (.agg #[.string t.s])) ∨ (t.k = 8 ∧ t.l = [] ∧ v = .nilIface) ∨ (t.k ≠ 7 ∧ t.k ≠ 8 ∧ ∃ u, v = .iface 109 (.agg #[u]) ∧ TiAt w S d false t u)
 | d + 1, false, t, v => (t.k = 1 ∧ t.l = [] ∧ v = .iface 35 (.agg #[.int .i64 t.n])) ∨ (t.k = 2 ∧ t.l = [] ∧ v = .iface 59 (.agg #[.string t.s])) ∨ (t.k = 3 ∧ t.l = [] ∧ v = .iface 61 (.agg #[.bool (t.n != 0)])) ∨ (t.k = 6 ∧ t.l = [] ∧ v = .iface 69 (.agg #[.int .i64 t.n])) ∨ (t.k = 8 ∧ t.l = [] ∧ v = .nilIface) ∨
   ((t.k = 4 ∨ t.k = 5) ∧ ∃ ao cap, v = .iface (if t.k = 4 then 63 else 66) (.agg #[.slice ao t.l.length cap]) ∧ t.l.length ≤ cap ∧ ∀ i x, t.l[i]? = some x → ∃ g k u, ao = some ⟨g, k, none⟩ ∧ S g ∧ w.cell? ⟨g, k + i, none⟩ = some u ∧ TiAt w S d (decide (t.k = 5)) x u)
theorem TiAt.step {w w' : World} {S S' : Nat → Prop} (hS : ∀ b, S b → S' b) (hk : ∀ (a : Addr) u, S a.block → w.cell? a = some u → w'.cell? a = some u) : ∀ {d d' : Nat} {i : Bool} {t : Vt} {v : Value}, d ≤ d' → TiAt w S d i t v → TiAt w' S' d' i t v := by
 intro d
 induction d with
 | zero => intro d' i t v _ h; exact h.elim
 | succ d ih =>
   intro d' i t v hd h
   obtain ⟨e, rfl⟩ : ∃ e, d' = e + 1 := ⟨d' - 1, by omega⟩
   cases i with
   | true =>
     rcases h with h | h | ⟨h, h', u, hv, hu⟩
     ·exact .inl h
     ·exact .inr (.inl h)
     ·exact .inr (.inr ⟨h, h', u, hv, ih (by omega) hu⟩)
   | false =>
     rcases h with h | h | h | h | h | ⟨h, ao, cap, hv, hc, hl⟩
     ·exact .inl h
     ·exact .inr (.inl h)
     ·exact .inr (.inr (.inl h))
     ·exact .inr (.inr (.inr (.inl h)))
     ·exact .inr (.inr (.inr (.inr (.inl h))))
     ·refine .inr (.inr (.inr (.inr (.inr ⟨h, ao, cap, hv, hc, fun i x hx => ?_⟩))))
      obtain ⟨g, k, u, ha, hg, hu, ht⟩ := hl i x hx
      exact ⟨g, k, u, ha, hS g hg, hk _ _ hg hu, ih (by omega) ht⟩
theorem TiAt.only {w w' : World} {S bs : Nat → Prop} {d : Nat} {i : Bool} {t : Vt} {v : Value} (h : TiAt w S d i t v) (o : Only bs w w') (hb : ∀ b, S b → ¬ bs b) : TiAt w' S d i t v :=
 TiAt.step (fun _ g => g) (fun a u hs hc => o.cell hc (hb _ hs)) (Nat.le_refl _) h
def Liv (w : World) (b : Nat) : Prop := b < w.heap.size ∧ ∃ c t, w.heap[b]? = some (.cells c t)
theorem Liv.only {w w' : World} {bs : Nat → Prop} {b : Nat} (h : Liv w b) (o : Only bs w w') (hb : ¬ bs b) : Liv w' b := by
 obtain ⟨h1, c, t, hc⟩ := h
 exact ⟨Nat.lt_of_lt_of_le h1 o.size, c, t, (o.block b h1 hb).trans hc⟩
theorem Liv.of {w : World} {b : Nat} {c : Array Value} {t : TypeId} (h : w.heap[b]? = some (.cells c t)) : Liv w b :=
 ⟨(Array.getElem?_eq_some_iff.1 h).1, c, t, h⟩
def RiAt (w : World) (B : Nat) (T : TypeId) (d : Nat) (i : Bool) (v : Value) (l : List Vt) : Prop :=
 ∃ us S, w.ownsRow B T 1 v l.length us ∧ (∀ (j : Nat) (x : Vt), l[j]? = some x → ∃ u, us[j]? = some u ∧ TiAt w S d i x u) ∧ ∀ b, S b → B ≤ b ∧ Liv w b ∧ v.ownBlock ≠ some b
theorem ri_nil (w : World) (B : Nat) (T : TypeId) (d : Nat) (i : Bool) : RiAt w B T d i (.slice none 0 0) [] :=
 ⟨[], fun _ => False, ⟨rfl, .inl ⟨rfl, rfl⟩⟩, fun j x h => by simp at h, fun b h => h.elim⟩
theorem RiAt.form {w : World} {B : Nat} {T : TypeId} {d : Nat} {i : Bool} {v : Value} {l : List Vt} (h : RiAt w B T d i v l) : ∃ ao cap, v = .slice ao l.length cap := by
 obtain ⟨us, S, ho, _⟩ := h
 rcases ho.2 with ⟨h1, h2⟩ | ⟨g, cap, cur, h1, _⟩
 ·exact ⟨_, _, by rw [h1, h2]⟩
 ·exact ⟨_, _, h1⟩
theorem RiAt.only {w w' : World} {B : Nat} {T : TypeId} {d : Nat} {i : Bool} {v : Value} {l : List Vt} {bs : Nat → Prop} (h : RiAt w B T d i v l) (o : Only bs w w') (hb : ∀ b, B ≤ b → ¬ bs b) : RiAt w' B T d i v l := by
 obtain ⟨us, S, ho, ht, hS⟩ := h
 refine ⟨us, S, o.owns ho (fun k hk => hb k (ho.lt k hk).1), fun j x hx => ?_, fun b hbS => ?_⟩
 ·obtain ⟨u, hu, h2⟩ := ht j x hx
  exact ⟨u, hu, h2.only o (fun b hbS => hb b (hS b hbS).1)⟩
 ·obtain ⟨h1, h2, h3⟩ := hS b hbS
  exact ⟨h1, h2.only o (hb b h1), h3⟩
theorem RiAt.deep {w : World} {B : Nat} {T : TypeId} {d d' : Nat} {i : Bool} {v : Value} {l : List Vt} (h : RiAt w B T d i v l) (hd : d ≤ d') : RiAt w B T d' i v l := by
 obtain ⟨us, S, ho, ht, hS⟩ := h
 refine ⟨us, S, ho, fun j x hx => ?_, hS⟩
 obtain ⟨u, hu, h2⟩ := ht j x hx
 exact ⟨u, hu, h2.step (fun _ g => g) (fun _ _ _ g => g) hd⟩
def NiAt (w : World) (B : Nat) (d : Nat) (i : Bool) (t : Vt) (v : Value) : Prop := ∃ S, TiAt w S d i t v ∧ ∀ b, S b → B ≤ b ∧ Liv w b
theorem NiAt.only {w w' : World} {B : Nat} {d : Nat} {i : Bool} {v : Value} {t : Vt} {bs : Nat → Prop} (h : NiAt w B d i t v) (o : Only bs w w') (hb : ∀ b, B ≤ b → ¬ bs b) : NiAt w' B d i t v := by
 obtain ⟨S, ht, hS⟩ := h
 exact ⟨S, ht.only o (fun b hbS => hb b (hS b hbS).1), fun b hbS => ⟨(hS b hbS).1, (hS b hbS).2.only o (hb b (hS b hbS).1)⟩⟩
theorem NiAt.lower {w : World} {B C : Nat} {d : Nat} {i : Bool} {v : Value} {t : Vt} (h : NiAt w B d i t v) (hC : C ≤ B) : NiAt w C d i t v := by
 obtain ⟨S, ht, hS⟩ := h
 exact ⟨S, ht, fun b hbS => ⟨Nat.le_trans hC (hS b hbS).1, (hS b hbS).2⟩⟩
theorem NiAt.deep {w : World} {B : Nat} {d d' : Nat} {i : Bool} {v : Value} {t : Vt} (h : NiAt w B d i t v) (hd : d ≤ d') : NiAt w B d' i t v := by
 obtain ⟨S, ht, hS⟩ := h
 exact ⟨S, ht.step (fun _ g => g) (fun _ _ _ g => g) hd, hS⟩
theorem RiAt.snoc {w w' : World} {B C : Nat} {T : TypeId} {d : Nat} {i : Bool} {v v' : Value} {l : List Vt} {t : Vt} {u : Value} {us : List Value} {S : Nat → Prop} (hg : w.grownBy w' v.ownBlock) (ho : w.ownsRow B T 1 v l.length us) (ht : ∀ (j : Nat) (x : Vt), l[j]? = some x → ∃ u, us[j]? = some u ∧ TiAt w S d i x u) (hS : ∀ b, S b → B ≤ b ∧ Liv w b ∧ v.ownBlock ≠ some b)
  (hn : NiAt w C d i t u) (hC : B ≤ C) (hv : ∀ k, v.ownBlock = some k → k < C) (ho' : w'.ownsRow B T 1 v' (l.length + 1) (us ++ [u])) (hat : v'.ownBlock = v.ownBlock ∨ v'.ownBlock = some w.heap.size) : RiAt w' B T d i v' (l ++ [t]) := by
 obtain ⟨S1, t1, s1⟩ := hn
 have oo : Only (fun k => v.ownBlock = some k) w w' := (Only.refl _ w).grown hg (fun k e _ => e)
 have a1 : ∀ b, S b → ¬ v.ownBlock = some b := fun b h => (hS b h).2.2
 have a2 : ∀ b, S1 b → ¬ v.ownBlock = some b := fun b h e => by have := hv b e; have := (s1 b h).1; omega
 have hl : us.length = l.length := by have := ho.1; omega
 refine ⟨us ++ [u], fun b => S b ∨ S1 b, by simpa using ho', fun j x hx => ?_, fun b hb => ?_⟩
 ·by_cases hj : j < l.length
  ·rw [List.getElem?_append_left hj] at hx
   obtain ⟨u', h1, h2⟩ := ht j x hx
   refine ⟨u', by rw [List.getElem?_append_left (by omega)]; exact h1, h2.step (fun _ g => .inl g) (fun a y hs hc => oo.cell hc (a1 _ hs)) (Nat.le_refl _)⟩
  ·have hj2 : j < (l ++ [t]).length := (List.getElem?_eq_some_iff.1 hx).1
   have hj3 : j = l.length := by simp at hj2; omega
   subst hj3
   simp at hx
   subst hx
   exact ⟨u, by rw [← hl]; simp, t1.step (fun _ g => .inr g) (fun a y hs hc => oo.cell hc (a2 _ hs)) (Nat.le_refl _)⟩
 ·have h1 : B ≤ b ∧ Liv w b ∧ v.ownBlock ≠ some b := by
   rcases hb with h | h
   ·exact hS b h
   ·exact ⟨Nat.le_trans hC (s1 b h).1, (s1 b h).2, a2 b h⟩
  refine ⟨h1.1, h1.2.1.only oo h1.2.2, ?_⟩
  rcases hat with e | e <;> rw [e]
  ·exact h1.2.2
  ·intro e2
   injection e2 with e2
   have := h1.2.1.1
   omega
theorem addr_ad (g k : Nat) : (⟨g, 0, none⟩ : Addr).add k = ⟨g, k, none⟩ := by
 show (if k = 0 then _ else _) = _
 split
 ·rename_i h; rw [h]
 ·simp
theorem RiAt.tree {w : World} {B : Nat} {T : TypeId} {d : Nat} {v : Value} {l : List Vt} {t : Vt} (hk : t.k = 4 ∨ t.k = 5) (hl0 : t.l = l) (h : RiAt w B T d (decide (t.k = 5)) v l) : NiAt w B (d + 1) false t (.iface (if t.k = 4 then 63 else 66) (.agg #[v])) := by
 obtain ⟨us, S, ho, ht, hS⟩ := h
 subst hl0
 refine ⟨fun b => S b ∨ v.ownBlock = some b, .inr (.inr (.inr (.inr (.inr ⟨hk, ?_⟩)))), fun b hb => ?_⟩
 ·rcases ho.2 with ⟨rfl, h2⟩ | ⟨g, cap, cur, hv, hB, hg, hn, hcm, hcs, htk⟩
  ·exact ⟨none, 0, by rw [h2], by omega, fun i x hx => by have := (List.getElem?_eq_some_iff.1 hx).1; omega⟩
  ·refine ⟨some ⟨g, 0, none⟩, cap, by rw [hv], hn, fun i x hx => ?_⟩
   obtain ⟨u, h1, h2⟩ := ht i x hx
   have hc := ho.cells (g := g) (by rw [hv]; rfl) i u h1
   rw [addr_ad] at hc
   exact ⟨g, 0, u, rfl, .inr (by rw [hv]; rfl), by simpa using hc, h2.step (fun _ g => .inl g) (fun _ _ _ g => g) (Nat.le_refl _)⟩
 ·rcases hb with h | h
  ·exact ⟨(hS b h).1, (hS b h).2.1⟩
  ·refine ⟨(ho.lt b h).1, ?_⟩
   rcases ho.2 with ⟨rfl, h2⟩ | ⟨g, cap, cur, hv, hB, hg, hn, hcm, hcs, htk⟩
   ·cases h
   ·rw [hv] at h
    injection h with h
    rw [← h]
    exact Liv.of hg
def VsAt (w : World) (S : Nat → Prop) : Nat → List Vt → Value → Prop
 | 0, _, _ => False
 | d + 1, l, lv => ∃ ao cap, lv = .slice ao l.length cap ∧ l.length ≤ cap ∧ ∀ (i : Nat) (x : Vt), l[i]? = some x → ∃ g k lx, ao = some ⟨g, k, none⟩ ∧ S g ∧ (w.cell? ⟨g, k + i * 4, none⟩ = some (.int .i64 x.k) ∧ w.cell? ⟨g, k + i * 4 + 1, none⟩ = some (.int .i64 x.n) ∧ w.cell? ⟨g, k + i * 4 + 2, none⟩ = some (.string x.s) ∧ w.cell? ⟨g, k + i * 4 + 3, none⟩ = some lx) ∧ VsAt w S d x.l lx
theorem VsAt.step {w w' : World} {S S' : Nat → Prop} (hS : ∀ b, S b → S' b) (hk : ∀ (a : Addr) u, S a.block → w.cell? a = some u → w'.cell? a = some u) : ∀ {d d' : Nat} {l : List Vt} {v : Value}, d ≤ d' → VsAt w S d l v → VsAt w' S' d' l v := by
 intro d
 induction d with
 | zero => intro d' t v _ h; exact h.elim
 | succ d ih =>
   intro d' t v hd h
   obtain ⟨e, rfl⟩ : ∃ e, d' = e + 1 := ⟨d' - 1, by omega⟩
   obtain ⟨ao, cap, hv, hc, hl⟩ := h
   refine ⟨ao, cap, hv, hc, fun i x hx => ?_⟩
   obtain ⟨g, k, lx, ha, hg, ⟨c0, c1, c2, c3⟩, ht⟩ := hl i x hx
   exact ⟨g, k, lx, ha, hS g hg, ⟨hk _ _ hg c0, hk _ _ hg c1, hk _ _ hg c2, hk _ _ hg c3⟩, ih (by omega) ht⟩
theorem VsAt.only {w w' : World} {S : Nat → Prop} {d : Nat} {l : List Vt} {v : Value} (h : VsAt w S d l v) (o : Oz w w') : VsAt w' S d l v :=
 h.step (fun _ g => g) (fun a u _ hc => o.cell hc (fun g => g)) (Nat.le_refl _)
theorem VsAt.form {w : World} {S : Nat → Prop} {d : Nat} {l : List Vt} {lv : Value} (h : VsAt w S d l lv) : ∃ ao cap, lv = .slice ao l.length cap := by
 cases d with
 | zero => exact h.elim
 | succ d => obtain ⟨ao, cap, hv, _⟩ := h; exact ⟨ao, cap, hv⟩
def SmT : Nat → Vt → Prop
 | 0, _ => False
 | d + 1, t => t.s.size ≤ 268435456 ∧ t.l.length ≤ 1048576 ∧ (-9223372036854775808 ≤ t.k ∧ t.k ≤ 9223372036854775807) ∧ (-9223372036854775808 ≤ t.n ∧ t.n ≤ 9223372036854775807) ∧ ∀ x ∈ t.l, SmT d x
theorem SmT.mono : ∀ {d d' : Nat} {t : Vt}, d ≤ d' → SmT d t → SmT d' t
 | 0, _, _, _, h => h.elim
 | d + 1, 0, t, hd, h => by omega
 | d + 1, e + 1, t, hd, h => ⟨h.1, h.2.1, h.2.2.1, h.2.2.2.1, fun x hx => (h.2.2.2.2 x hx).mono (by omega)⟩
def nm : Nat → Bool → Vt → Vt
 | 0, _, _ => ⟨8, 0, ⟨#[]⟩, []⟩
 | d + 1, i, t =>
   if t.k = 1 then ⟨1, t.n, ⟨#[]⟩, []⟩ else if t.k = 2 then ⟨2, 0, t.s, []⟩ else if t.k = 3 then ⟨3, if t.n != 0 then 1 else 0, ⟨#[]⟩, []⟩
   else if t.k = 4 then ⟨4, 0, ⟨#[]⟩, t.l.map (nm d false)⟩ else if t.k = 5 then ⟨5, 0, ⟨#[]⟩, t.l.map (nm d true)⟩
   else if t.k = 6 then ⟨6, t.n, ⟨#[]⟩, []⟩ else if i = true ∧ t.k = 7 then ⟨7, 0, t.s, []⟩ else ⟨8, 0, ⟨#[]⟩, []⟩
theorem vblk_cells {w : World} {B : Nat} {c : Array Value} {t : TypeId} (h : w.heap[B]? = some (.cells c t)) (j : Nat) : w.cell? ⟨B, j, none⟩ = c[j]? := by
 simp [World.cell?, h]
theorem valloc_at (W : World) (o : Obj) (n : Nat) (h : n = W.heap.size) : (W.alloc o).heap[n]? = some o := by
 subst h
 exact Array.getElem?_push_size ..
theorem TiAt.form {w : World} {S : Nat → Prop} {d : Nat} {i : Bool} {t : Vt} {v : Value} (h : TiAt w S d i t v) : v.oneCell' = true := by
 cases d with
 | zero => exact h.elim
 | succ d =>
   cases i with
   | true => rcases h with ⟨_, _, rfl⟩ | ⟨_, _, rfl⟩ | ⟨_, _, u, rfl, _⟩ <;> rfl
   | false => rcases h with ⟨_, _, rfl⟩ | ⟨_, _, rfl⟩ | ⟨_, _, rfl⟩ | ⟨_, _, rfl⟩ | ⟨_, _, rfl⟩ | ⟨_, ao, cap, rfl, _⟩ <;> rfl
theorem TiAt.iface {w : World} {S : Nat → Prop} {d : Nat} {t : Vt} {v : Value} (h : TiAt w S d false t v) (h8 : t.k ≠ 8) : ∃ T y, v = .iface T y := by
 cases d with
 | zero => exact h.elim
 | succ d =>
   rcases h with ⟨_, _, rfl⟩ | ⟨_, _, rfl⟩ | ⟨_, _, rfl⟩ | ⟨_, _, rfl⟩ | ⟨h, _, rfl⟩ | ⟨_, ao, cap, rfl, _⟩
   ·exact ⟨_, _, rfl⟩
   ·exact ⟨_, _, rfl⟩
   ·exact ⟨_, _, rfl⟩
   ·exact ⟨_, _, rfl⟩
   ·exact absurd h h8
   ·exact ⟨_, _, rfl⟩
theorem vinfo_parts {t : TypeId} {z : Value} {s b : Nat} (h : (Tryz.prog.info? t).map (fun i => (i.zero, i.size, i.bytes)) = some (some z, s, b)) : ∃ i, Tryz.prog.info? t = some i ∧ i.zero = some z ∧ i.size = s ∧ i.bytes = b := by
 cases hi : Tryz.prog.info? t with
 | none => rw [hi] at h; simp at h
 | some i => rw [hi] at h; simp at h; exact ⟨i, rfl, h.1, h.2.1, h.2.2⟩
theorem vinfoV : (Tryz.prog.info? 41).map (fun i => (i.zero, i.size, i.bytes)) = some (some .nilIface, 1, 16) := by kernel_rfl
theorem vinfoI : (Tryz.prog.info? 97).map (fun i => (i.zero, i.size, i.bytes)) = some (some .nilIface, 1, 16) := by kernel_rfl
theorem app_v {sT eT : TypeId} (hT : Tryz.prog.underlying sT = some (.slice eT)) (hI : (Tryz.prog.info? eT).map (fun i => (i.zero, i.size, i.bytes)) = some (some .nilIface, 1, 16)) {w : World} {B C d : Nat} {i : Bool} {v : Value} {acc : List Vt} {t : Vt} {iv : Value} (hf : RiAt w B eT d i v acc) (hn : NiAt w C d i t iv) (hC : B ≤ C) (hv : ∀ k, v.ownBlock = some k → k < C) (hB : B ≤ w.heap.size) (hl : acc.length ≤ 1048576) :
  ∃ v' w', (∀ ty, (Builtin.append_ #[sT, sT] ty #[v, .slice (some ⟨w.heap.size, 0, none⟩) 1 1]).run Tryz.prog (w.alloc (.cells #[iv] eT)) = .ok v' w') ∧ RiAt w' B eT d i v' (acc ++ [t]) ∧ Only (fun k => v.ownBlock = some k) w w' := by
 obtain ⟨i0, hi, hz0, hz1, hz2⟩ := vinfo_parts hI
 obtain ⟨W, hW⟩ : ∃ W, W = w.alloc (.cells #[iv] eT) := ⟨_, rfl⟩
 have oo : Oz w W := by rw [hW]; exact (Only.refl _ w).alloc _
 have hf2 := hf.only oo (fun _ _ h => h)
 have hn2 := hn.only oo (fun _ _ h => h)
 have hblk : W.heap[w.heap.size]? = some (.cells #[iv] eT) := by rw [hW]; exact valloc_at _ _ _ rfl
 obtain ⟨us, S, ho, ht, hS⟩ := hf2
 have h1 : iv.oneCell' = true := by obtain ⟨S2, h2, _⟩ := hn2; exact h2.form
 have key := fun ty => run_append_own_at (P := Tryz.prog) W B sT ty eT i0 .nilIface 1 16 hT hi hz0 hz1 hz2 rfl (by omega) v acc.length us ho ⟨w.heap.size, 0, none⟩ 1 1 [iv] rfl (by
   intro j u hj
   rw [addr_ad, vblk_cells hblk]
   simpa using hj) (by
   intro u hu
   simp only [List.mem_cons, List.not_mem_nil, or_false] at hu
   subst hu
   exact h1) (by unfold maxLen; omega) (by omega) (by have := oo.size; omega)
 obtain ⟨v', w', hr, own', hg, _, hat⟩ := key 0
 refine ⟨v', w', fun ty => ?_, RiAt.snoc hg ho ht hS hn2 hC hv own' hat, (oo.mono (bs' := fun k => v.ownBlock = some k) (fun _ _ h => h.elim)).trans ((Only.refl (fun k => v.ownBlock = some k) W).grown hg (fun k e _ => e)) (fun k hk e => e)⟩
 rw [← hW, ← hr]
 rfl
theorem RiAt.lower {w : World} {B C : Nat} {T : TypeId} {d : Nat} {i : Bool} {v : Value} {l : List Vt} (h : RiAt w B T d i v l) (hC : C ≤ B) : RiAt w C T d i v l := by
 obtain ⟨us, S, ho, ht, hS⟩ := h
 exact ⟨us, S, ⟨ho.1, ho.2.imp id (fun ⟨g, cp, cu, q1, q2, q3⟩ => ⟨g, cp, cu, q1, by omega, q3⟩)⟩, ht, fun b hb => ⟨by have := (hS b hb).1; omega, (hS b hb).2⟩⟩
def vV (k n : Int) (s : ByteArray) (lv : Value) : Value := .agg #[.int .i64 k, .int .i64 n, .string s, lv]
def VaC (d F : Nat) (D : Nat) (i : Bool) : Prop := ∀ (t : Vt) (lv : Value) (w : World) (S : Nat → Prop), VsAt w S d t.l lv → SmT d t → Cz F #[vV t.k t.n t.s lv] w fun e w' => ∃ v, e = .returned v ∧ Hid (NiAt w' w.heap.size D i (nm d i t) v ∧ Oz w w')
def VlC (d F : Nat) (D : Nat) (eT : TypeId) (i : Bool) : Prop := ∀ (l : List Vt) (lv : Value) (w : World) (S : Nat → Prop), VsAt w S (d + 1) l lv → l.length ≤ 1048576 → (∀ x ∈ l, SmT d x) → Cz F #[lv] w fun e w' => ∃ ao cap, e = .returned (.slice ao l.length cap) ∧ Hid (RiAt w' w.heap.size eT D i (.slice ao l.length cap) (l.map (nm d i)) ∧ Oz w w')
theorem ni_leaf {w : World} {B d : Nat} {i : Bool} {t : Vt} {v : Value} (h : ∀ S, TiAt w S d i t v) : NiAt w B d i t v := ⟨fun _ => False, h _, fun b h => h.elim⟩
theorem value_of (d : Nat) (H1 : VlC d 6 (2 * d + 1) 41 false) (H2 : VlC d 26 (2 * d + 2) 97 true) : VaC (d + 1) 12 (2 * d + 3) false := by
 intro t lv w S hv hs
 obtain ⟨ao, cap, hlv⟩ := hv.form
 obtain ⟨k, n, s, l⟩ := t
 simp only at hlv hv
 subst hlv
 have oA : Oz w (w.alloc (.cells #[.int .i64 k, .int .i64 n, .string s, .slice ao l.length cap] 38)) := (Only.refl _ w).alloc _
 have HO : Hid (Oz w (w.alloc (.cells #[.int .i64 k, .int .i64 n, .string s, .slice ao l.length cap] 38))) := oA
 have HC1 : Hid _ := H1 l _ _ S (hv.only oA) hs.2.1 hs.2.2.2.2
 have HC2 : Hid _ := H2 l _ _ S (hv.only oA) hs.2.1 hs.2.2.2.2
 clear hv hs H1 H2 oA
 obtain ⟨L, hL⟩ : ∃ L, L = l.length := ⟨_, rfl⟩
 have HL : Hid (L = l.length) := hL
 rw [← hL] at HC1 HC2 HO ⊢
 clear hL
 unfold vV
 simp only
 by_cases h4 : k = 4
 ·subst h4
  go_enter Tryz.func12, Tryz.ntmps12
  go_wp2_with fail
  refine (show Cz 6 _ _ _ from HC1.out).mono ?_
  rintro e w1 ⟨a1, c1, rfl, G1⟩
  have HG : Hid (RiAt w1 w.heap.size 41 (2 * d + 1) false (.slice a1 L c1) (l.map (nm d false)) ∧ Oz w w1) := ⟨G1.out.1.lower (by simp), HO.out.trans G1.out.2 (fun _ _ g => g)⟩
  clear HC1 HC2 G1 HO
  go_wp2
  go_ret
  refine ⟨_, rfl, ?_, HG.out.2⟩
  exact (RiAt.tree (t := nm (d + 1) false ⟨4, n, s, l⟩) (.inl rfl) rfl HG.out.1).deep (by omega)
 by_cases h5 : k = 5
 ·subst h5
  go_enter Tryz.func12, Tryz.ntmps12
  go_wp2_with fail
  refine (show Cz 26 _ _ _ from HC2.out).mono ?_
  rintro e w1 ⟨a1, c1, rfl, G1⟩
  have HG : Hid (RiAt w1 w.heap.size 97 (2 * d + 2) true (.slice a1 L c1) (l.map (nm d true)) ∧ Oz w w1) := ⟨G1.out.1.lower (by simp), HO.out.trans G1.out.2 (fun _ _ g => g)⟩
  clear HC1 HC2 G1 HO
  go_wp2
  go_ret
  refine ⟨_, rfl, ?_, HG.out.2⟩
  exact (RiAt.tree (t := nm (d + 1) false ⟨5, n, s, l⟩) (.inr rfl) rfl HG.out.1).deep (by omega)
 clear HC1 HC2
 by_cases h1 : k = 1
 ·subst h1
  go_enter Tryz.func12, Tryz.ntmps12
  go_wp2
  go_ret
  exact ⟨_, rfl, ni_leaf (fun S => .inl ⟨rfl, rfl, rfl⟩), HO.out⟩
 by_cases h2 : k = 2
 ·subst h2
  go_enter Tryz.func12, Tryz.ntmps12
  go_wp2
  go_ret
  exact ⟨_, rfl, ni_leaf (fun S => .inr (.inl ⟨rfl, rfl, rfl⟩)), HO.out⟩
 by_cases h3 : k = 3
 ·subst h3
  go_enter Tryz.func12, Tryz.ntmps12
  go_wp2
  go_ret
  refine ⟨_, rfl, ni_leaf (fun S => .inr (.inr (.inl ⟨rfl, rfl, ?_⟩))), HO.out⟩
  show Value.iface 61 (.agg #[.bool (n != 0)]) = .iface 61 (.agg #[.bool ((if n != 0 then (1 : Int) else 0) != 0)])
  cases n != 0 <;> rfl
 by_cases h6 : k = 6
 ·subst h6
  go_enter Tryz.func12, Tryz.ntmps12
  go_wp2
  go_ret
  exact ⟨_, rfl, ni_leaf (fun S => .inr (.inr (.inr (.inl ⟨rfl, rfl, rfl⟩)))), HO.out⟩
 have e1 : (k == 1) = false := by simpa using h1
 have e2 : (k == 2) = false := by simpa using h2
 have e3 : (k == 3) = false := by simpa using h3
 have e4 : (k == 4) = false := by simpa using h4
 have e5 : (k == 5) = false := by simpa using h5
 have e6 : (k == 6) = false := by simpa using h6
 have HN : Hid (nm (d + 1) false ⟨k, n, s, l⟩ = ⟨8, 0, ⟨#[]⟩, []⟩) := by
  show (if k = 1 then _ else _) = _
  rw [if_neg h1, if_neg h2, if_neg h3, if_neg h4, if_neg h5, if_neg h6]
  rfl
 clear h1 h2 h3 h4 h5 h6
 go_enter Tryz.func12, Tryz.ntmps12
 go_wp2
 go_ret
 refine ⟨_, rfl, ?_, HO.out⟩
 rw [HN.out]
 exact ni_leaf (fun S => .inr (.inr (.inr (.inr (.inl ⟨rfl, rfl, rfl⟩)))))
theorem itemof_of (d : Nat) (H : VaC d 12 (2 * d + 1) false) : VaC d 47 (2 * d + 2) true := by
 intro t lv w S hv hs
 cases d with
 | zero => exact hv.elim
 | succ d =>
 obtain ⟨ao, cap, hlv⟩ := hv.form
 obtain ⟨k, n, s, l⟩ := t
 simp only at hlv hv
 subst hlv
 have oA : Oz w (w.alloc (.cells #[.int .i64 k, .int .i64 n, .string s, .slice ao l.length cap] 38)) := (Only.refl _ w).alloc _
 have HO : Hid (Oz w (w.alloc (.cells #[.int .i64 k, .int .i64 n, .string s, .slice ao l.length cap] 38))) := oA
 have HC : Hid _ := H ⟨k, n, s, l⟩ _ _ S (hv.only oA) hs
 clear hv hs H oA
 obtain ⟨L, hL⟩ : ∃ L, L = l.length := ⟨_, rfl⟩
 have HL : Hid (L = l.length) := hL
 rw [← hL] at HC HO ⊢
 clear hL
 unfold vV at HC ⊢
 simp only at HC ⊢
 by_cases h7 : k = 7
 ·subst h7
  clear HC
  go_enter Tryz.func47, Tryz.ntmps47
  go_wp2
  go_ret
  exact ⟨_, rfl, ni_leaf (fun S => .inl ⟨rfl, rfl, rfl⟩), HO.out⟩
 have e7 : (k == 7) = false := by simpa using h7
 by_cases hk : k < 1 ∨ 6 < k
 ·have HN : Hid (nm (d + 1) true ⟨k, n, s, l⟩ = ⟨8, 0, ⟨#[]⟩, []⟩) := by
   show (if k = 1 then _ else _) = _
   have n1 : ¬ k = 1 := by omega
   have n2 : ¬ k = 2 := by omega
   have n3 : ¬ k = 3 := by omega
   have n4 : ¬ k = 4 := by omega
   have n5 : ¬ k = 5 := by omega
   have n6 : ¬ k = 6 := by omega
   rw [if_neg n1, if_neg n2, if_neg n3, if_neg n4, if_neg n5, if_neg n6]
   exact if_neg (fun h => h7 h.2)
  clear HC h7
  rcases hk with hk | hk
  ·go_enter Tryz.func47, Tryz.ntmps47
   go_wp2
   go_ret
   refine ⟨_, rfl, ?_, HO.out⟩
   rw [HN.out]
   exact ni_leaf (fun S => .inr (.inl ⟨rfl, rfl, rfl⟩))
  ·have h1 : ¬ k < 1 := by omega
   go_enter Tryz.func47, Tryz.ntmps47
   go_wp2
   go_ret
   refine ⟨_, rfl, ?_, HO.out⟩
   rw [HN.out]
   exact ni_leaf (fun S => .inr (.inl ⟨rfl, rfl, rfl⟩))
 ·have h1 : ¬ k < 1 := by omega
  have h2 : ¬ 6 < k := by omega
  have HN : Hid (nm (d + 1) true ⟨k, n, s, l⟩ = nm (d + 1) false ⟨k, n, s, l⟩ ∧ (nm (d + 1) false ⟨k, n, s, l⟩).k ≠ 7 ∧ (nm (d + 1) false ⟨k, n, s, l⟩).k ≠ 8) := by
   have : k = 1 ∨ k = 2 ∨ k = 3 ∨ k = 4 ∨ k = 5 ∨ k = 6 := by omega
   rcases this with rfl | rfl | rfl | rfl | rfl | rfl
   ·exact ⟨rfl, show (1 : Int) ≠ 7 by decide, show (1 : Int) ≠ 8 by decide⟩
   ·exact ⟨rfl, show (2 : Int) ≠ 7 by decide, show (2 : Int) ≠ 8 by decide⟩
   ·exact ⟨rfl, show (3 : Int) ≠ 7 by decide, show (3 : Int) ≠ 8 by decide⟩
   ·exact ⟨rfl, show (4 : Int) ≠ 7 by decide, show (4 : Int) ≠ 8 by decide⟩
   ·exact ⟨rfl, show (5 : Int) ≠ 7 by decide, show (5 : Int) ≠ 8 by decide⟩
   ·exact ⟨rfl, show (6 : Int) ≠ 7 by decide, show (6 : Int) ≠ 8 by decide⟩
  clear h7 hk
  go_enter Tryz.func47, Tryz.ntmps47
  go_wp2_with fail
  refine (show Cz 12 _ _ _ from HC.out).mono ?_
  rintro e w1 ⟨v1, rfl, G1⟩
  clear HC
  obtain ⟨T1, y1, rfl⟩ : ∃ T y, v1 = .iface T y := by
   obtain ⟨S1, t1, _⟩ := G1.out.1
   exact t1.iface HN.out.2.2
  have HF : Hid (NiAt w1 w.heap.size (2 * (d + 1) + 2) true (nm (d + 1) true ⟨k, n, s, l⟩) (.iface 109 (.agg #[.iface T1 y1])) ∧ Oz w w1) := by
   obtain ⟨S1, t1, s1⟩ := G1.out.1
   refine ⟨⟨S1, ?_, fun b hb => ⟨by have := (s1 b hb).1; simp at this; omega, (s1 b hb).2⟩⟩, HO.out.trans G1.out.2 (fun _ _ g => g)⟩
   rw [HN.out.1]
   exact .inr (.inr ⟨HN.out.2.1, HN.out.2.2, _, rfl, t1⟩)
  clear G1
  go_wp2
  go_ret
  exact ⟨_, rfl, HF.out⟩
def vuOf : Value → Nat
 | .int _ m => m.toNat
 | _ => 0
theorem TiAt.shape {w : World} {S : Nat → Prop} {d : Nat} {i : Bool} {t : Vt} {v : Value} (h : TiAt w S d i t v) : v = .nilIface ∨ ∃ T y, v = .iface T y := by
 cases d with
 | zero => exact h.elim
 | succ d =>
   cases i with
   | true => rcases h with ⟨_, _, rfl⟩ | ⟨_, _, rfl⟩ | ⟨_, _, u, rfl, _⟩ <;> first | exact .inl rfl | exact .inr ⟨_, _, rfl⟩
   | false => rcases h with ⟨_, _, rfl⟩ | ⟨_, _, rfl⟩ | ⟨_, _, rfl⟩ | ⟨_, _, rfl⟩ | ⟨_, _, rfl⟩ | ⟨_, ao, cap, rfl, _⟩ <;> first | exact .inl rfl | exact .inr ⟨_, _, rfl⟩
section
variable {P : Program} {op : Oper} {a : Act} {w w' : World} {K : Act → World → Prop} {Q : Exit → Act → World → Prop}
theorem vwp_append_run (s x : Operand) (t : TypeId) (ho : op.op = .call { callee := .builtin .append, args := #[s, x], argTypes := #[t, t] }) (v1 v2 v' : Value) (hs : a.eval s = v1) (hx : a.eval x = v2)
  (hr : (Builtin.append_ #[t, t] op.type #[v1, v2]).run P w = .ok v' w') (h : K (a.put op.dst v') w') : op.wp P a w K Q := by
 unfold Oper.wp
 simp [execOp, ho, resolve, invoke, builtin, hs, hx, hr, Result.andThen]
 exact h
theorem vstep_append_run {ops : Array Oper} {E : Prop} (hgd : op.guard = none) (s x : Operand) (t : TypeId) (ho : op.op = .call { callee := .builtin .append, args := #[s, x], argTypes := #[t, t] }) (v1 v2 v' : Value) (hs : a.eval s = v1) (hx : a.eval x = v2)
  (hr : ∀ ty, (Builtin.append_ #[t, t] ty #[v1, v2]).run P w = .ok v' w') (h : K (a.put op.dst v') w') : if Region.wanted op (yielded ops a.tmps) = true then Oper.wp P op a w K Q else E := by
 have hw : Region.wanted op (yielded ops a.tmps) = true := by simp [Region.wanted, hgd]
 rw [if_pos hw]
 exact vwp_append_run s x t ho v1 v2 v' hs hx (hr _) h
theorem vwpList_append_run {ops : Array Oper} {rest : List Oper} (hgd : op.guard = none) (s x : Operand) (t : TypeId) (ho : op.op = .call { callee := .builtin .append, args := #[s, x], argTypes := #[t, t] }) (v1 v2 v' : Value) (hs : a.eval s = v1) (hx : a.eval x = v2)
  (hr : ∀ ty, (Builtin.append_ #[t, t] ty #[v1, v2]).run P w = .ok v' w') (h : wpList P ops Q rest (a.put op.dst v') w') : wpList P ops Q (op :: rest) a w :=
 wpList_plain hgd fun _ hK => vwp_append_run s x t ho v1 v2 v' hs hx (hr _) (hK _ _ h)
end
theorem values_of (d D : Nat) (H : VaC d 12 D false) : VlC d 6 D 41 false := by
 intro l lv w S hv hlen hsm
 obtain ⟨ao, cap, rfl, hcap, hl⟩ := hv
 have HE : Hid (∀ (j : Nat) (x : Vt), l[j]? = some x → ∃ g k lx, ao = some ⟨g, k, none⟩ ∧ (w.cell? ⟨g, k + j * 4, none⟩ = some (.int .i64 x.k) ∧ w.cell? ⟨g, k + j * 4 + 1, none⟩ = some (.int .i64 x.n) ∧ w.cell? ⟨g, k + j * 4 + 2, none⟩ = some (.string x.s) ∧ w.cell? ⟨g, k + j * 4 + 3, none⟩ = some lx) ∧ ∀ w1, Oz w w1 → Cz 12 #[.agg #[.int .i64 x.k, .int .i64 x.n, .string x.s, lx]] w1 fun e w' => ∃ v, e = .returned v ∧ Hid (NiAt w' w1.heap.size D false (nm d false x) v ∧ Oz w1 w')) := by
  intro j x hx
  obtain ⟨g, k, lx, p1, p2, p3, p4⟩ := hl j x hx
  exact ⟨g, k, lx, p1, p3, fun w1 o1 => H x lx w1 S (p4.only o1) (hsm x (List.mem_of_getElem? hx))⟩
 obtain ⟨N, hN⟩ : ∃ N, N = l.length := ⟨_, rfl⟩
 have HN : Hid (N = l.length ∧ N ≤ 1048576) := ⟨hN, by omega⟩
 rw [← hN]
 clear hl hsm hcap hN H hlen
 go_enter Tryz.func6, Tryz.ntmps6
 go_wp2
 go_loopw [3, 4] (fun r3 r4 wr => ∃ (i : Nat) (a' : Option Addr) (c' : Nat), r4 = .int .i64 (i : Int) ∧ i ≤ N ∧ r3 = .slice a' i c' ∧ Hid (RiAt wr w.heap.size 41 D false (.slice a' i c') ((l.take i).map (nm d false)) ∧ Oz w wr)) (fun _ r4 _ => N - vuOf r4)
 case atStart => exact ⟨0, none, 0, rfl, Nat.zero_le _, rfl, ri_nil _ _ _ _ _, Only.refl _ _⟩
 case round =>
  obtain ⟨i, a', c', rfl, hi, rfl, HI⟩ := hrel
  obtain ⟨w1, hw1⟩ : ∃ w1, w1 = wr := ⟨_, rfl⟩
  rw [← hw1] at HI ⊢
  clear hw1
  have hNl := HN.out.1
  have hN2 := HN.out.2
  by_cases hiN : i < N
  ·obtain ⟨x, hx⟩ : ∃ x, l[i]? = some x := ⟨l[i]'(by omega), List.getElem?_eq_getElem (by omega)⟩
   obtain ⟨g, k, lx, rfl, ⟨h0, h1, h2, h3⟩, hcall⟩ := HE.out i x hx
   have o1 := HI.out.2
   have c0 := o1.cell h0 (fun g => g)
   have c1 := o1.cell h1 (fun g => g)
   have c2 := o1.cell h2 (fun g => g)
   have c3 := o1.cell h3 (fun g => g)
   have HC : Hid _ := hcall w1 o1
   have HX : Hid (l[i]? = some x ∧ i < N) := ⟨hx, hiN⟩
   have i1 : (i : Int) < (N : Int) := by omega
   have i0 : (0 : Int) ≤ (i : Int) := by omega
   have i4 : i ≤ 1048576 := by omega
   obtain ⟨x0, hx0⟩ : ∃ x0, x0 = x.k := ⟨_, rfl⟩
   obtain ⟨x1, hx1⟩ : ∃ x1, x1 = x.n := ⟨_, rfl⟩
   obtain ⟨x2, hx2⟩ : ∃ x2, x2 = x.s := ⟨_, rfl⟩
   rw [← hx0, ← hx1, ← hx2] at HC
   rw [← hx0] at c0
   rw [← hx1] at c1
   rw [← hx2] at c2
   clear h0 h1 h2 h3 hcall o1 hNl hN2 hiN hi hx hx0 hx1 hx2
   go_wp2_with fail
   refine (show Cz 12 _ _ _ from HC.out).mono ?_
   rintro e w2 ⟨v, rfl, G2⟩
   have o2 := G2.out.2
   have hB2 : w.heap.size ≤ w2.heap.size := Nat.le_trans HI.out.2.size o2.size
   obtain ⟨v', w3, hr, hri, o3⟩ := app_v (sT := 25) Tryz.underlying25 vinfoV (HI.out.1.only o2 (fun _ _ g => g)) G2.out.1 HI.out.2.size (fun k hk => by obtain ⟨us, S', ho, _⟩ := HI.out.1; exact (ho.lt k hk).2) hB2 (by simp; omega)
   obtain ⟨a2, c2', hv2⟩ := hri.form
   have hlen2 : ((l.take i).map (nm d false) ++ [nm d false x]).length = i + 1 := by
    have := HX.out.2
    have := HN.out.1
    simp
    omega
   rw [hlen2] at hv2
   subst hv2
   have HF : Hid (RiAt w3 w.heap.size 41 D false (.slice a2 (i + 1) c2') ((l.take (i + 1)).map (nm d false)) ∧ Oz w w3) := by
    refine ⟨?_, (HI.out.2.trans o2 (fun _ _ g => g)).trans o3 (fun b hb e => ?_)⟩
    ·rw [List.take_add_one, HX.out.1]
     simpa using hri
    ·obtain ⟨us, S', ho, _⟩ := HI.out.1
     have := (ho.lt b e).1
     omega
   have HR : Hid _ := hr
   have hsh : v = .nilIface ∨ ∃ T y, v = .iface T y := by obtain ⟨S', t', _⟩ := G2.out.1; exact t'.shape
   clear HC HI G2 o2 hr hri o3 hB2 hlen2 c0 c1 c2 c3
   rcases hsh with rfl | ⟨T1, y1, rfl⟩
   all_goals
    go_wp2_with (at_builtin; refine vwpList_append_run rfl _ _ 25 rfl _ _ _ rfl rfl HR.out ?_)
    go_roundw
    case rel => exact ⟨i + 1, a2, c2', by go_num, by have := HX.out.2; omega, rfl, HF⟩
    case measure => simp only [vuOf]; have := HX.out.2; omega
  ·obtain rfl : i = N := by omega
   have i1 : ¬ (i : Int) < (i : Int) := by omega
   have HF : Hid (RiAt w1 w.heap.size 41 D false (.slice a' i c') (l.map (nm d false)) ∧ Oz w w1) := by
    have := HI.out
    rwa [show l.take i = l from by rw [hNl]; exact List.take_length] at this
   clear HI hNl hN2 hiN hi
   go_wp2
   go_ret
   exact ⟨a', c', rfl, HF⟩
theorem items_of (d D : Nat) (H : VaC d 47 D true) : VlC d 26 D 97 true := by
 intro l lv w S hv hlen hsm
 obtain ⟨ao, cap, rfl, hcap, hl⟩ := hv
 have HE : Hid (∀ (j : Nat) (x : Vt), l[j]? = some x → ∃ g k lx, ao = some ⟨g, k, none⟩ ∧ (w.cell? ⟨g, k + j * 4, none⟩ = some (.int .i64 x.k) ∧ w.cell? ⟨g, k + j * 4 + 1, none⟩ = some (.int .i64 x.n) ∧ w.cell? ⟨g, k + j * 4 + 2, none⟩ = some (.string x.s) ∧ w.cell? ⟨g, k + j * 4 + 3, none⟩ = some lx) ∧ ∀ w1, Oz w w1 → Cz 47 #[.agg #[.int .i64 x.k, .int .i64 x.n, .string x.s, lx]] w1 fun e w' => ∃ v, e = .returned v ∧ Hid (NiAt w' w1.heap.size D true (nm d true x) v ∧ Oz w1 w')) := by
  intro j x hx
  obtain ⟨g, k, lx, p1, p2, p3, p4⟩ := hl j x hx
  exact ⟨g, k, lx, p1, p3, fun w1 o1 => H x lx w1 S (p4.only o1) (hsm x (List.mem_of_getElem? hx))⟩
 obtain ⟨N, hN⟩ : ∃ N, N = l.length := ⟨_, rfl⟩
 have HN : Hid (N = l.length ∧ N ≤ 1048576) := ⟨hN, by omega⟩
 rw [← hN]
 clear hl hsm hcap hN H hlen
 go_enter Tryz.func26, Tryz.ntmps26
 go_wp2
 go_loopw [3, 4] (fun r3 r4 wr => ∃ (i : Nat) (a' : Option Addr) (c' : Nat), r4 = .int .i64 (i : Int) ∧ i ≤ N ∧ r3 = .slice a' i c' ∧ Hid (RiAt wr w.heap.size 97 D true (.slice a' i c') ((l.take i).map (nm d true)) ∧ Oz w wr)) (fun _ r4 _ => N - vuOf r4)
 case atStart => exact ⟨0, none, 0, rfl, Nat.zero_le _, rfl, ri_nil _ _ _ _ _, Only.refl _ _⟩
 case round =>
  obtain ⟨i, a', c', rfl, hi, rfl, HI⟩ := hrel
  obtain ⟨w1, hw1⟩ : ∃ w1, w1 = wr := ⟨_, rfl⟩
  rw [← hw1] at HI ⊢
  clear hw1
  have hNl := HN.out.1
  have hN2 := HN.out.2
  by_cases hiN : i < N
  ·obtain ⟨x, hx⟩ : ∃ x, l[i]? = some x := ⟨l[i]'(by omega), List.getElem?_eq_getElem (by omega)⟩
   obtain ⟨g, k, lx, rfl, ⟨h0, h1, h2, h3⟩, hcall⟩ := HE.out i x hx
   have o1 := HI.out.2
   have c0 := o1.cell h0 (fun g => g)
   have c1 := o1.cell h1 (fun g => g)
   have c2 := o1.cell h2 (fun g => g)
   have c3 := o1.cell h3 (fun g => g)
   have HC : Hid _ := hcall w1 o1
   have HX : Hid (l[i]? = some x ∧ i < N) := ⟨hx, hiN⟩
   have i1 : (i : Int) < (N : Int) := by omega
   have i0 : (0 : Int) ≤ (i : Int) := by omega
   have i4 : i ≤ 1048576 := by omega
   obtain ⟨x0, hx0⟩ : ∃ x0, x0 = x.k := ⟨_, rfl⟩
   obtain ⟨x1, hx1⟩ : ∃ x1, x1 = x.n := ⟨_, rfl⟩
   obtain ⟨x2, hx2⟩ : ∃ x2, x2 = x.s := ⟨_, rfl⟩
   rw [← hx0, ← hx1, ← hx2] at HC
   rw [← hx0] at c0
   rw [← hx1] at c1
   rw [← hx2] at c2
   clear h0 h1 h2 h3 hcall o1 hNl hN2 hiN hi hx hx0 hx1 hx2
   go_wp2_with fail
   refine (show Cz 47 _ _ _ from HC.out).mono ?_
   rintro e w2 ⟨v, rfl, G2⟩
   have o2 := G2.out.2
   have hB2 : w.heap.size ≤ w2.heap.size := Nat.le_trans HI.out.2.size o2.size
   obtain ⟨v', w3, hr, hri, o3⟩ := app_v (sT := 64) Tryz.underlying64 vinfoI (HI.out.1.only o2 (fun _ _ g => g)) G2.out.1 HI.out.2.size (fun k hk => by obtain ⟨us, S', ho, _⟩ := HI.out.1; exact (ho.lt k hk).2) hB2 (by simp; omega)
   obtain ⟨a2, c2', hv2⟩ := hri.form
   have hlen2 : ((l.take i).map (nm d true) ++ [nm d true x]).length = i + 1 := by
    have := HX.out.2
    have := HN.out.1
    simp
    omega
   rw [hlen2] at hv2
   subst hv2
   have HF : Hid (RiAt w3 w.heap.size 97 D true (.slice a2 (i + 1) c2') ((l.take (i + 1)).map (nm d true)) ∧ Oz w w3) := by
    refine ⟨?_, (HI.out.2.trans o2 (fun _ _ g => g)).trans o3 (fun b hb e => ?_)⟩
    ·rw [List.take_add_one, HX.out.1]
     simpa using hri
    ·obtain ⟨us, S', ho, _⟩ := HI.out.1
     have := (ho.lt b e).1
     omega
   have HR : Hid _ := hr
   have hsh : v = .nilIface ∨ ∃ T y, v = .iface T y := by obtain ⟨S', t', _⟩ := G2.out.1; exact t'.shape
   clear HC HI G2 o2 hr hri o3 hB2 hlen2 c0 c1 c2 c3
   rcases hsh with rfl | ⟨T1, y1, rfl⟩
   all_goals
    go_wp2_with (at_builtin; refine vwpList_append_run rfl _ _ 64 rfl _ _ _ rfl rfl HR.out ?_)
    go_roundw
    case rel => exact ⟨i + 1, a2, c2', by go_num, by have := HX.out.2; omega, rfl, HF⟩
    case measure => simp only [vuOf]; have := HX.out.2; omega
  ·obtain rfl : i = N := by omega
   have i1 : ¬ (i : Int) < (i : Int) := by omega
   have HF : Hid (RiAt w1 w.heap.size 97 D true (.slice a' i c') (l.map (nm d true)) ∧ Oz w w1) := by
    have := HI.out
    rwa [show l.take i = l from by rw [hNl]; exact List.take_length] at this
   clear HI hNl hN2 hiN hi
   go_wp2
   go_ret
   exact ⟨a', c', rfl, HF⟩
theorem value_all : ∀ d : Nat, VaC d 12 (2 * d + 1) false
 | 0 => fun t lv w S h => h.elim
 | d + 1 => value_of d (values_of d _ (value_all d)) (items_of d _ (itemof_of d (value_all d)))
theorem values_all (d : Nat) : VlC d 6 (2 * d + 1) 41 false := values_of d _ (value_all d)
def inS (c nt : Int) : Bool := decide (nt ≤ c ∧ c ≤ nt + 9)
theorem inscript_any (c nt : Int) (w : World) (h1 : -2147483648 ≤ nt) (h2 : nt ≤ 2147483638) :
  Cz 122 #[.int .i32 c, .int .i32 nt] w fun e w' => e = .returned (.bool (inS c nt)) ∧ w' = w := by
 have e : IntKind.i32.wrap (nt + 9) = nt + 9 := by rw [IntKind.wrap_i32]; omega
 by_cases a : nt ≤ c
 ·by_cases b : c ≤ nt + 9
  ·have hv : inS c nt = true := by simp [inS, a, b]
   rw [hv]
   go_enter Tryz.func122, Tryz.ntmps122
   go_wp2
   go_ret
   exact ⟨rfl, rfl⟩
  ·have hv : inS c nt = false := by simp [inS, b]
   rw [hv]
   go_enter Tryz.func122, Tryz.ntmps122
   go_wp2
   go_ret
   exact ⟨rfl, rfl⟩
 ·have hv : inS c nt = false := by simp [inS, a]
  rw [hv]
  go_enter Tryz.func122, Tryz.ntmps122
  go_wp2
  go_ret
  exact ⟨rfl, rfl⟩
def scr (c : Int) : Option Int := if inS c 48 then some 48 else if inS c 1632 then some 1632 else if inS c 65296 then some 65296 else none
theorem ix0 (w : World) : (Instr.index 223 (.agg #[.int .i32 48, .int .i32 1632, .int .i32 65296]) (.int .i64 0)).run Tryz.prog w = .ok (.int .i32 48) w := by kernel_rfl
theorem ix1 (w : World) : (Instr.index 223 (.agg #[.int .i32 48, .int .i32 1632, .int .i32 65296]) (.int .i64 1)).run Tryz.prog w = .ok (.int .i32 1632) w := by kernel_rfl
theorem ix2 (w : World) : (Instr.index 223 (.agg #[.int .i32 48, .int .i32 1632, .int .i32 65296]) (.int .i64 2)).run Tryz.prog w = .ok (.int .i32 65296) w := by kernel_rfl
def Nog (w : World) : Prop := w.cell? ⟨2, 0, none⟩ = some (.int .i32 48) ∧ w.cell? ⟨2, 1, none⟩ = some (.int .i32 1632) ∧ w.cell? ⟨2, 2, none⟩ = some (.int .i32 65296)
theorem Nog.frame {w w' : World} (h : Nog w) (ho : Oz w w') : Nog w' := ⟨ho.cell h.1 (fun g => g), ho.cell h.2.1 (fun g => g), ho.cell h.2.2 (fun g => g)⟩
def scrV (o : Option Int) : Value := match o with
 | some nt => .tuple #[.int .i32 nt, .bool true]
 | none => .tuple #[.int .i32 0, .bool false]
theorem script_any (c : Int) (w : World) (h : Nog w) :
  Cz 121 #[.int .i32 c] w fun e w' => e = .returned (scrV (scr c)) ∧ w' = w := by
 obtain ⟨g0, g1, g2⟩ := h
 have H48 : Hid (Cz 122 #[.int .i32 c, .int .i32 48] w fun e w' => e = .returned (.bool (inS c 48)) ∧ w' = w) := inscript_any c 48 w (by omega) (by omega)
 have H16 : Hid (Cz 122 #[.int .i32 c, .int .i32 1632] w fun e w' => e = .returned (.bool (inS c 1632)) ∧ w' = w) := inscript_any c 1632 w (by omega) (by omega)
 have H65 : Hid (Cz 122 #[.int .i32 c, .int .i32 65296] w fun e w' => e = .returned (.bool (inS c 65296)) ∧ w' = w) := inscript_any c 65296 w (by omega) (by omega)
 have HS : Hid (scr c = if inS c 48 then some 48 else if inS c 1632 then some 1632 else if inS c 65296 then some 65296 else none) := rfl
 obtain ⟨Y, hY⟩ : ∃ Y, Y = scr c := ⟨_, rfl⟩
 rw [← hY] at HS ⊢
 obtain ⟨b1, hb1⟩ : ∃ b, b = inS c 48 := ⟨_, rfl⟩
 obtain ⟨b2, hb2⟩ : ∃ b, b = inS c 1632 := ⟨_, rfl⟩
 obtain ⟨b3, hb3⟩ : ∃ b, b = inS c 65296 := ⟨_, rfl⟩
 rw [← hb1] at H48 HS
 rw [← hb2] at H16 HS
 rw [← hb3] at H65 HS
 clear hY hb1 hb2 hb3
 have i0 := ix0 w
 have i1 := ix1 w
 have i2 := ix2 w
 go_enter Tryz.func121, Tryz.ntmps121
 go_wp2
 go_loopw [7] (fun t wr => ∃ r : Int, t = .int .i64 r ∧ (r = 0 ∨ (r = 1 ∧ b1 = false) ∨ (r = 2 ∧ b1 = false ∧ b2 = false) ∨ (r = 3 ∧ b1 = false ∧ b2 = false ∧ b3 = false)) ∧ w = wr) (fun t _ => 3 - (intOf t).toNat)
 case atStart => exact ⟨0, rfl, .inl rfl, rfl⟩
 case round =>
  obtain ⟨r, rfl, hr, rfl⟩ := hrel
  rcases hr with rfl | ⟨rfl, rfl⟩ | ⟨rfl, rfl, rfl⟩ | ⟨rfl, rfl, rfl, rfl⟩
  ·cases b1 with
   | true =>
     go_wp2_with (go_at_call 122; refine (show Cz 122 _ _ _ from H48.out).mono ?_; rintro e wz ⟨rfl, rfl⟩)
     go_ret2
     exact ⟨by rw [HS.out]; rfl, rfl⟩
   | false =>
     go_wp2_with (go_at_call 122; refine (show Cz 122 _ _ _ from H48.out).mono ?_; rintro e wz ⟨rfl, rfl⟩)
     go_roundw
     case rel => exact ⟨1, rfl, by simp, by first | trivial | rfl⟩
     case measure => simp [intOf]
  ·cases b2 with
   | true =>
     go_wp2_with (go_at_call 122; refine (show Cz 122 _ _ _ from H16.out).mono ?_; rintro e wz ⟨rfl, rfl⟩)
     go_ret2
     exact ⟨by rw [HS.out]; rfl, rfl⟩
   | false =>
     go_wp2_with (go_at_call 122; refine (show Cz 122 _ _ _ from H16.out).mono ?_; rintro e wz ⟨rfl, rfl⟩)
     go_roundw
     case rel => exact ⟨2, rfl, by simp, by first | trivial | rfl⟩
     case measure => simp [intOf]
  ·cases b3 with
   | true =>
     go_wp2_with (go_at_call 122; refine (show Cz 122 _ _ _ from H65.out).mono ?_; rintro e wz ⟨rfl, rfl⟩)
     go_ret2
     exact ⟨by rw [HS.out]; rfl, rfl⟩
   | false =>
     go_wp2_with (go_at_call 122; refine (show Cz 122 _ _ _ from H65.out).mono ?_; rintro e wz ⟨rfl, rfl⟩)
     go_roundw
     case rel => exact ⟨3, rfl, by simp, by first | trivial | rfl⟩
     case measure => simp [intOf]
  ·go_wp2
   go_ret2
   exact ⟨by rw [HS.out]; rfl, rfl⟩
end Go.Proofs.YtenjollhlgjjdaaGreatDoor
