import Derived.Test.YtlcglapcmdpkfaaGreatRows
import Derived.Test.YtlcglapcmdpkfaaGreatBase
import Derived.Maps.OwnSet
import Derived.Maps.Ext
import Derived.MapKept
namespace Go.Proofs.YtlcglapcmdpkfaaGreat
open Go.RowKit Go.Maps
set_option linter.unusedSimpArgs false
set_option linter.unusedVariables false
def hv : Value → Option (DataW Value × List MemPlace) := fun v => some (.held v, [])
def entL (l : List (Int × Value)) : List (Lit × DataW Value) := l.map fun p => (.int .i64 p.1, .held p.2)
section
variable {α : Type}
def Rise (l : List (Int × α)) : Prop := l.Pairwise fun p q => p.1 < q.1
def getL (l : List (Int × α)) (k : Int) : Option α := (l.find? fun p => p.1 == k).map (·.2)
def delL (l : List (Int × α)) (k : Int) : List (Int × α) := l.filter fun p => !(p.1 == k)
def insL (x : Int × α) : List (Int × α) → List (Int × α)
 | [] => [x]
 | y :: r => if x.1 < y.1 then x :: y :: r else y :: insL x r
def putL (l : List (Int × α)) (k : Int) (v : α) : List (Int × α) := insL (k, v) (delL l k)
end
theorem entL_length (l : List (Int × Value)) : (entL l).length = l.length := by simp [entL]
theorem sameKey_int (a b : Int) : (Lit.int .i64 a).sameKey (.int .i64 b) = (a == b) := by
 by_cases h : a = b <;> simp [Lit.sameKey, h]
theorem entL_find (l : List (Int × Value)) (k : Int) : (entL l).find? (fun p => p.1.sameKey (.int .i64 k)) = (l.find? fun p => p.1 == k).map fun p => (.int .i64 p.1, .held p.2) := by
 induction l with
 | nil => rfl
 | cons x r ih =>
   simp only [entL, List.map_cons, List.find?_cons, sameKey_int]
   cases x.1 == k with
   | true => rfl
   | false => exact ih
theorem entL_at (l : List (Int × Value)) (k : Int) (z : Value) : (DataW.map (entL l)).atKey (.int .i64 k) (.held z) = .held ((getL l k).getD z) := by
 simp only [DataW.atKey, entL_find, getL]
 cases l.find? fun p => p.1 == k <;> rfl
theorem entL_has (l : List (Int × Value)) (k : Int) : Maps.has (DataW.map (entL l)) (.int .i64 k) = (getL l k).isSome := by
 rw [Maps.has_eq]
 induction l with
 | nil => rfl
 | cons x r ih =>
   simp only [entL, List.map_cons, List.any_cons, sameKey_int, getL, List.find?_cons]
   cases x.1 == k with
   | true => rfl
   | false =>
     simp only [getL] at ih
     rw [Bool.false_or]
     exact ih
theorem entL_filter (l : List (Int × Value)) (k : Int) : (entL l).filter (fun p => !p.1.sameKey (.int .i64 k)) = entL (delL l k) := by
 induction l with
 | nil => rfl
 | cons x r ih =>
   simp only [entL, delL, List.map_cons, List.filter_cons, sameKey_int]
   cases x.1 == k with
   | true => simpa [entL, delL] using ih
   | false => simpa [entL, delL] using ih
theorem entL_insert (x : Int × Value) (l : List (Int × Value)) : DataW.insert (.int .i64 x.1, .held x.2) (entL l) = entL (insL x l) := by
 induction l with
 | nil => rfl
 | cons y r ih =>
   simp only [entL, List.map_cons, DataW.insert, insL, Lit.before]
   by_cases h : x.1 < y.1
   ·simp [h]
   ·have := ih
    simp only [entL] at this
    simp [h, this]
theorem entL_put (l : List (Int × Value)) (k : Int) (v : Value) : (DataW.map (entL l)).put (.int .i64 k) (.held v) = .map (entL (putL l k v)) := by
 simp only [DataW.put, entL_filter, putL]
 rw [← entL_insert (k, v)]
theorem entL_del (l : List (Int × Value)) (k : Int) : (DataW.map (entL l)).del (.int .i64 k) = .map (entL (delL l k)) := by
 simp only [DataW.del, entL_filter]
section
variable {α : Type}
theorem insL_mem (x : Int × α) (l : List (Int × α)) (p : Int × α) : p ∈ insL x l ↔ p = x ∨ p ∈ l := by
 induction l with
 | nil => simp [insL]
 | cons y r ih =>
   simp only [insL]
   split
   ·simp
   ·simp only [List.mem_cons, ih]
    constructor
    ·rintro (h | h | h)
     ·exact .inr (.inl h)
     ·exact .inl h
     ·exact .inr (.inr h)
    ·rintro (h | h | h)
     ·exact .inr (.inl h)
     ·exact .inl h
     ·exact .inr (.inr h)
theorem Rise.del {l : List (Int × α)} (h : Rise l) (k : Int) : Rise (delL l k) := List.Pairwise.filter _ h
theorem delL_mem (l : List (Int × α)) (k : Int) (p : Int × α) : p ∈ delL l k ↔ p ∈ l ∧ p.1 ≠ k := by simp [delL]
theorem Rise.ins {x : Int × α} : ∀ {l : List (Int × α)}, Rise l → (∀ p ∈ l, p.1 ≠ x.1) → Rise (insL x l)
 | [], _, _ => List.pairwise_singleton _ _
 | y :: r, h, hn => by
   have hy := List.pairwise_cons.1 h
   simp only [insL]
   split
   ·rename_i hlt
    refine List.pairwise_cons.2 ⟨fun p hp => ?_, h⟩
    rcases List.mem_cons.1 hp with rfl | hp
    ·exact hlt
    ·exact Int.lt_trans hlt (hy.1 p hp)
   ·rename_i hlt
    refine List.pairwise_cons.2 ⟨fun p hp => ?_, Rise.ins hy.2 (fun p hp => hn p (List.mem_cons_of_mem _ hp))⟩
    rcases (insL_mem x r p).1 hp with rfl | hp
    ·have := hn y (List.mem_cons_self ..)
     omega
    ·exact hy.1 p hp
theorem Rise.put {l : List (Int × α)} (h : Rise l) (k : Int) (v : α) : Rise (putL l k v) :=
 (h.del k).ins (fun p hp => ((delL_mem l k p).1 hp).2)
theorem putL_mem (l : List (Int × α)) (k : Int) (v : α) (p : Int × α) : p ∈ putL l k v ↔ p = (k, v) ∨ (p ∈ l ∧ p.1 ≠ k) := by
 simp [putL, insL_mem, delL_mem]
theorem getL_mem {l : List (Int × α)} (h : Rise l) (k : Int) (v : α) : getL l k = some v ↔ (k, v) ∈ l := by
 induction l with
 | nil => simp [getL]
 | cons x r ih =>
   have hx := List.pairwise_cons.1 h
   have ih := ih hx.2
   simp only [getL, List.find?_cons] at ih ⊢
   by_cases e : x.1 = k
   ·subst e
    simp only [beq_self_eq_true, Option.map_some, Option.some.injEq, List.mem_cons]
    constructor
    ·rintro rfl; exact .inl rfl
    ·rintro (e | e)
     ·rw [← e]
     ·exact absurd (hx.1 _ e) (by simp)
   ·have : (x.1 == k) = false := by simpa using e
    simp only [this, List.mem_cons]
    rw [ih]
    constructor
    ·exact .inr
    ·rintro (e' | e')
     ·exact absurd (by rw [← e']) e
     ·exact e'
theorem getL_none {l : List (Int × α)} (k : Int) : getL l k = none ↔ ∀ p ∈ l, p.1 ≠ k := by
 simp [getL, List.find?_eq_none]
theorem Rise.ext : ∀ {l m : List (Int × α)}, Rise l → Rise m → (∀ k, getL l k = getL m k) → l = m := by
 intro l m hl hm h
 have hmem : ∀ p, p ∈ l ↔ p ∈ m := fun p => by rw [← getL_mem hl p.1 p.2, h, getL_mem hm p.1 p.2]
 induction l generalizing m with
 | nil =>
   cases m with
   | nil => rfl
   | cons y r => exact absurd ((hmem y).2 (List.mem_cons_self ..)) (by simp)
 | cons x r ih =>
   cases m with
   | nil => exact absurd ((hmem x).1 (List.mem_cons_self ..)) (by simp)
   | cons y s =>
     have hx := List.pairwise_cons.1 hl
     have hy := List.pairwise_cons.1 hm
     have e : x = y := by
      rcases List.mem_cons.1 ((hmem x).1 (List.mem_cons_self ..)) with e | e
      ·exact e
      rcases List.mem_cons.1 ((hmem y).2 (List.mem_cons_self ..)) with e' | e'
      ·exact e'.symm
      have h1 := hx.1 y e'
      have h2 := hy.1 x e
      omega
     subst e
     have hm' : ∀ p, p ∈ r ↔ p ∈ s := fun p => by
      constructor
      ·intro hp
       rcases List.mem_cons.1 ((hmem p).1 (List.mem_cons_of_mem _ hp)) with rfl | h'
       ·exact absurd (hx.1 p hp) (by omega)
       ·exact h'
      ·intro hp
       rcases List.mem_cons.1 ((hmem p).2 (List.mem_cons_of_mem _ hp)) with rfl | h'
       ·exact absurd (hy.1 p hp) (by omega)
       ·exact h'
     rw [ih hx.2 hy.2 (fun k => by
      cases e : getL s k with
      | none =>
        rw [getL_none] at e ⊢
        exact fun p hp => e p ((hm' p).1 hp)
      | some u => rw [getL_mem hx.2, hm', ← getL_mem hy.2]; exact e) hm']
theorem insL_map {β : Type} (g : Int × α → β) (x : Int × α) (l : List (Int × α)) : insL (x.1, g x) (l.map fun p => (p.1, g p)) = (insL x l).map fun p => (p.1, g p) := by
 induction l with
 | nil => rfl
 | cons y r ih =>
   simp only [List.map_cons, insL]
   split
   ·simp
   ·rw [ih]; simp
theorem delL_map {β : Type} (g : Int × α → β) (k : Int) (l : List (Int × α)) : delL (l.map fun p => (p.1, g p)) k = (delL l k).map fun p => (p.1, g p) := by
 simp only [delL, List.filter_map]
 rfl
theorem getL_map {β : Type} (g : Int × α → β) (k : Int) (l : List (Int × α)) : getL (l.map fun p => (p.1, g p)) k = (l.find? fun p => p.1 == k).map g := by
 induction l with
 | nil => rfl
 | cons y r ih =>
   simp only [getL, List.map_cons, List.find?_cons] at ih ⊢
   cases y.1 == k with
   | true => rfl
   | false => exact ih
theorem find_key {l : List (Int × α)} {k : Int} {p : Int × α} (h : (l.find? fun p => p.1 == k) = some p) : p ∈ l ∧ p.1 = k :=
 ⟨List.mem_of_find?_eq_some h, by simpa using List.find?_some h⟩
theorem putL_map {β : Type} (g g' : Int × α → β) (x : Int × α) (l : List (Int × α)) (h : ∀ p, p.1 ≠ x.1 → g' p = g p) : putL (l.map fun p => (p.1, g p)) x.1 (g' x) = (putL l x.1 x.2).map fun p => (p.1, g' p) := by
 unfold putL
 rw [delL_map]
 have e : (delL l x.1).map (fun p => (p.1, g p)) = (delL l x.1).map fun p => (p.1, g' p) := by
  apply List.map_congr_left
  intro p hp
  rw [h p ((delL_mem _ _ _).1 hp).2]
 rw [e, insL_map g' x]
theorem Rise.map {β : Type} (g : Int × α → β) {l : List (Int × α)} : Rise (l.map fun p => (p.1, g p)) ↔ Rise l := by
 unfold Rise
 rw [List.pairwise_map]
theorem Rise.len : ∀ {l : List (Int × α)} {a b : Int}, Rise l → (∀ p ∈ l, a ≤ p.1 ∧ p.1 < b) → (l.length : Int) ≤ if a ≤ b then b - a else 0
 | [], a, b, _, _ => by split <;> simp <;> omega
 | x :: r, a, b, h, hb => by
   have hx := List.pairwise_cons.1 h
   have h1 := hb x (List.mem_cons_self ..)
   have := Rise.len (a := x.1 + 1) (b := b) hx.2 (fun p hp => ⟨by have := hx.1 p hp; omega, (hb p (List.mem_cons_of_mem _ hp)).2⟩)
   simp only [List.length_cons]
   split at this <;> split <;> omega
end
structure MapAt (w : World) (b : Nat) (l : List (Int × Value)) : Prop where
 own : w.ownsMap Tryz.prog 3 hv b l.length (.map (entL l))
 rise : Rise l
theorem MapAt.lt {w : World} {b : Nat} {l : List (Int × Value)} (h : MapAt w b l) : b < w.heap.size := h.own.lt
theorem MapAt.frame {w w' : World} {b : Nat} {l : List (Int × Value)} {bs : Nat → Prop} (h : MapAt w b l) (ho : Only bs w w') (hn : ¬ bs b) : MapAt w' b l := by
 refine ⟨?_, h.rise⟩
 have hlt := h.lt
 obtain ⟨es, clock, hb, F, hs, hD⟩ := h.own
 exact ⟨es, clock, (ho.block b hlt hn).trans hb, F, hs, hD⟩
theorem MapAt.shrink {w : World} {b n : Nat} {l : List (Int × Value)} (h : w.ownsMap Tryz.prog 3 hv b n (.map (entL l))) (hr : Rise l) : MapAt w b l := by
 refine ⟨?_, hr⟩
 obtain ⟨es, clock, hb, F, hs, hD⟩ := h
 refine ⟨es, clock, hb, F, ?_, hD⟩
 have := congrArg (fun D : DataW Value => match D with | .map es => es.length | _ => 0) hD
 simp only [entL_length, length_sorted, List.length_map, Array.length_toList] at this
 omega
theorem MapAt.made (w : World) : MapAt (w.alloc (.map #[] 0)) w.heap.size [] := ⟨World.ownsMap_made w _ _ _, List.Pairwise.nil⟩
theorem map_keyed : Keyed Tryz.prog 3 := int_keyed Tryz.underlying3
def pg0 : Value := .agg #[.int .i64 0, .slice none 0 0]
theorem zero_pg (w : World) : (zeroValue 82).run Tryz.prog w = .ok pg0 w := by kernel_rfl
theorem wf64 {k : Int} (h : -9223372036854775808 ≤ k ∧ k ≤ 9223372036854775807) : (Lit.int .i64 k).wf = true := WalkArith.wf_i64 h
theorem MapAt.look {w : World} {b : Nat} {l : List (Int × Value)} (h : MapAt w b l) (k : Int) (hk : -9223372036854775808 ≤ k ∧ k ≤ 9223372036854775807) :
  (Instr.lookup 77 (.map (some b)) (.int .i64 k) true).run Tryz.prog w = .ok (.tuple #[(getL l k).getD pg0, .bool (getL l k).isSome]) w := by
 obtain ⟨v, ps, hr, hR⟩ := h.own.look_ok map_keyed Tryz.underlying77 (zero_pg w) (zd := .held pg0) (zp := []) rfl (keyOf_int_mk Tryz.underlying3 (wf64 hk))
 rw [entL_at] at hR
 rw [entL_has] at hr
 simp only [hv, Option.some.injEq, Prod.mk.injEq, DataW.held.injEq] at hR
 rw [hr, hR.1]
theorem MapAt.look1 {w : World} {b : Nat} {l : List (Int × Value)} (h : MapAt w b l) (k : Int) (hk : -9223372036854775808 ≤ k ∧ k ≤ 9223372036854775807) :
  (Instr.lookup 77 (.map (some b)) (.int .i64 k) false).run Tryz.prog w = .ok ((getL l k).getD pg0) w := by
 obtain ⟨v, ps, hr, hR⟩ := h.own.lookup map_keyed Tryz.underlying77 (zero_pg w) (zd := .held pg0) (zp := []) rfl (keyOf_int_mk Tryz.underlying3 (wf64 hk))
 rw [entL_at] at hR
 simp only [hv, Option.some.injEq, Prod.mk.injEq, DataW.held.injEq] at hR
 rw [hr, hR.1]
theorem turned_only {w w' : World} {b : Nat} (h : w.mapTurned w' b) : Only (fun i => i = b) w w' ∧ w'.heap.size = w.heap.size := by
 have hg := h.grown
 refine ⟨⟨hg.os, hg.tape, hg.output, hg.size, fun k hk hn => hg.block k hk (fun e => hn (by injection e))⟩, ?_⟩
 obtain ⟨es, clock, es', clock', hb, rfl⟩ := h
 simp [ChangeMaps.setBlock]
theorem MapAt.store {w : World} {b : Nat} {l : List (Int × Value)} (h : MapAt w b l) (k : Int) (hk : -9223372036854775808 ≤ k ∧ k ≤ 9223372036854775807) (hl : l.length < maxLen) (v : Value) :
  ∃ w', (Instr.mapUpdate 77 (.map (some b)) (.int .i64 k) v).run Tryz.prog w = .ok () w' ∧ MapAt w' b (putL l k v) ∧ Only (fun i => i = b) w w' ∧ w'.heap.size = w.heap.size := by
 obtain ⟨w', hr, ho, ht⟩ := h.own.store map_keyed Tryz.underlying77 hl (keyOf_int_mk Tryz.underlying3 (wf64 hk)) (val := v) (d := .held v) (ps := []) rfl
 rw [entL_put] at ho
 exact ⟨w', hr, MapAt.shrink ho (h.rise.put k v), turned_only ht⟩
theorem MapAt.drop {w : World} {b : Nat} {l : List (Int × Value)} (h : MapAt w b l) (k : Int) (hk : -9223372036854775808 ≤ k ∧ k ≤ 9223372036854775807) (ty : TypeId) :
  ∃ w', (Builtin.delete_ #[77, 3] ty #[.map (some b), .int .i64 k]).run Tryz.prog w = .ok (.tuple #[]) w' ∧ MapAt w' b (delL l k) ∧ Only (fun i => i = b) w w' ∧ w'.heap.size = w.heap.size := by
 obtain ⟨w', hr, ho, ht⟩ := h.own.drop map_keyed Tryz.underlying77 (keyOf_int_mk Tryz.underlying3 (wf64 hk)) ty
 rw [entL_del] at ho
 exact ⟨w', hr, MapAt.shrink ho (h.rise.del k), turned_only ht⟩
end Go.Proofs.YtlcglapcmdpkfaaGreat
