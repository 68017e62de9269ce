/-       -/
import Derived.Test.YtlcglapcmdpkfaaGreatRows
import Derived.Test.YtlcglapcmdpkfaaGreatGaa
import Derived.Maps.OwnSet
import Derived.Maps.Ext
import Derived.MapKept
import Derived.Test.YtlcglapcmdpkfaaGreatGab
import Derived.Test.YtlcglapcmdpkfaaGreatGad
import Derived.Test.YtlcglapcmdpkfaaGreatGac
import Derived.Test.YtlcglapcmdpkfaaGreatGae
namespace Go.Proofs.YtlcglapcmdpkfaaGreat
open Go.RowKit Go.Maps
set_option linter.unusedSimpArgs false
set_option linter.unusedVariables false
set_option maxRecDepth 100000
set_option maxHeartbeats 16000000
def hv : Value → Option (DataW Value × List MemPlace) := fun v => some (.held v, [])
def entL (l : List (Int × Value)) : List (Lit × DataW Value) := l.map fun p => (.int .i64 p.1, .held p.2)
section
variable {α : Type}
def Rise (l : List (Int × α)) : Prop := l.Pairwise fun p q => p.1 < q.1
def getL (l : List (Int × α)) (k : Int) : Option α := (l.find? fun p => p.1 == k).map (·.2)
def delL (l : List (Int × α)) (k : Int) : List (Int × α) := l.filter fun p => !(p.1 == k)
def insL (x : Int × α) : List (Int × α) → List (Int × α)
 | [] => [x]
 | y :: r => if x.1 < y.1 then x :: y :: r else y :: insL x r
def putL (l : List (Int × α)) (k : Int) (v : α) : List (Int × α) := insL (k, v) (delL l k)
end
theorem entL_length (l : List (Int × Value)) : (entL l).length = l.length := by simp [entL]
theorem sameKey_int (a b : Int) : (Lit.int .i64 a).sameKey (.int .i64 b) = (a == b) := by
 by_cases h : a = b <;> simp [Lit.sameKey, h]
theorem entL_find (l : List (Int × Value)) (k : Int) : (entL l).find? (fun p => p.1.sameKey (.int .i64 k)) = (l.find? fun p => p.1 == k).map fun p => (.int .i64 p.1, .held p.2) := by
 induction l with
 | nil => rfl
 | cons x r ih =>
   simp only [entL, List.map_cons, List.find?_cons, sameKey_int]
   cases x.1 == k with
   | true => rfl
   | false => exact ih
theorem entL_at (l : List (Int × Value)) (k : Int) (z : Value) : (DataW.map (entL l)).atKey (.int .i64 k) (.held z) = .held ((getL l k).getD z) := by
 simp only [DataW.atKey, entL_find, getL]
 cases l.find? fun p => p.1 == k <;> rfl
theorem entL_has (l : List (Int × Value)) (k : Int) : Maps.has (DataW.map (entL l)) (.int .i64 k) = (getL l k).isSome := by
 rw [Maps.has_eq]
 induction l with
 | nil => rfl
 | cons x r ih =>
   simp only [entL, List.map_cons, List.any_cons, sameKey_int, getL, List.find?_cons]
   cases x.1 == k with
   | true => rfl
   | false =>
     simp only [getL] at ih
     rw [Bool.false_or]
     exact ih
theorem entL_filter (l : List (Int × Value)) (k : Int) : (entL l).filter (fun p => !p.1.sameKey (.int .i64 k)) = entL (delL l k) := by
 induction l with
 | nil => rfl
 | cons x r ih =>
   simp only [entL, delL, List.map_cons, List.filter_cons, sameKey_int]
   cases x.1 == k with
   | true => simpa [entL, delL] using ih
   | false => simpa [entL, delL] using ih
theorem entL_insert (x : Int × Value) (l : List (Int × Value)) : DataW.insert (.int .i64 x.1, .held x.2) (entL l) = entL (insL x l) := by
 induction l with
 | nil => rfl
 | cons y r ih =>
   simp only [entL, List.map_cons, DataW.insert, insL, Lit.before]
   by_cases h : x.1 < y.1
   ·simp [h]
   ·have := ih
    simp only [entL] at this
    simp [h, this]
theorem entL_put (l : List (Int × Value)) (k : Int) (v : Value) : (DataW.map (entL l)).put (.int .i64 k) (.held v) = .map (entL (putL l k v)) := by
 simp only [DataW.put, entL_filter, putL]
 rw [← entL_insert (k, v)]
theorem entL_del (l : List (Int × Value)) (k : Int) : (DataW.map (entL l)).del (.int .i64 k) = .map (entL (delL l k)) := by
 simp only [DataW.del, entL_filter]
section
variable {α : Type}
theorem insL_mem (x : Int × α) (l : List (Int × α)) (p : Int × α) : p ∈ insL x l ↔ p = x ∨ p ∈ l := by
 induction l with
 | nil => simp [insL]
 | cons y r ih =>
   simp only [insL]
   split
   ·simp
   ·simp only [List.mem_cons, ih]
    constructor
    ·rintro (h | h | h)
     ·exact .inr (.inl h)
     ·exact .inl h
     ·exact .inr (.inr h)
    ·rintro (h | h | h)
     ·exact .inr (.inl h)
     ·exact .inl h
     ·exact .inr (.inr h)
theorem Rise.del {l : List (Int × α)} (h : Rise l) (k : Int) : Rise (delL l k) := List.Pairwise.filter _ h
theorem delL_mem (l : List (Int × α)) (k : Int) (p : Int × α) : p ∈ delL l k ↔ p ∈ l ∧ p.1 ≠ k := by simp [delL]
theorem Rise.ins {x : Int × α} : ∀ {l : List (Int × α)}, Rise l → (∀ p ∈ l, p.1 ≠ x.1) → Rise (insL x l)
 | [], _, _ => List.pairwise_singleton _ _
 | y :: r, h, hn => by
   have hy := List.pairwise_cons.1 h
   simp only [insL]
   split
   ·rename_i hlt
    refine List.pairwise_cons.2 ⟨fun p hp => ?_, h⟩
    rcases List.mem_cons.1 hp with rfl | hp
    ·exact hlt
    ·exact Int.lt_trans hlt (hy.1 p hp)
   ·rename_i hlt
    refine List.pairwise_cons.2 ⟨fun p hp => ?_, Rise.ins hy.2 (fun p hp => hn p (List.mem_cons_of_mem _ hp))⟩
    rcases (insL_mem x r p).1 hp with rfl | hp
    ·have := hn y (List.mem_cons_self ..)
     omega
    ·exact hy.1 p hp
theorem Rise.put {l : List (Int × α)} (h : Rise l) (k : Int) (v : α) : Rise (putL l k v) :=
 (h.del k).ins (fun p hp => ((delL_mem l k p).1 hp).2)
theorem putL_mem (l : List (Int × α)) (k : Int) (v : α) (p : Int × α) : p ∈ putL l k v ↔ p = (k, v) ∨ (p ∈ l ∧ p.1 ≠ k) := by
 simp [putL, insL_mem, delL_mem]
theorem getL_mem {l : List (Int × α)} (h : Rise l) (k : Int) (v : α) : getL l k = some v ↔ (k, v) ∈ l := by
 induction l with
 | nil => simp [getL]
 | cons x r ih =>
   have hx := List.pairwise_cons.1 h
   have ih := ih hx.2
   simp only [getL, List.find?_cons] at ih ⊢
   by_cases e : x.1 = k
   ·subst e
    simp only [beq_self_eq_true, Option.map_some, Option.some.injEq, List.mem_cons]
    constructor
    ·rintro rfl; exact .inl rfl
    ·rintro (e | e)
     ·rw [← e]
     ·exact absurd (hx.1 _ e) (by simp)
   ·have : (x.1 == k) = false := by simpa using e
    simp only [this, List.mem_cons]
    rw [ih]
    constructor
    ·exact .inr
    ·rintro (e' | e')
     ·exact absurd (by rw [← e']) e
     ·exact e'
theorem getL_none {l : List (Int × α)} (k : Int) : getL l k = none ↔ ∀ p ∈ l, p.1 ≠ k := by
 simp [getL, List.find?_eq_none]
theorem Rise.ext : ∀ {l m : List (Int × α)}, Rise l → Rise m → (∀ k, getL l k = getL m k) → l = m := by
 intro l m hl hm h
 have hmem : ∀ p, p ∈ l ↔ p ∈ m := fun p => by rw [← getL_mem hl p.1 p.2, h, getL_mem hm p.1 p.2]
 induction l generalizing m with
 | nil =>
   cases m with
   | nil => rfl
   | cons y r => exact absurd ((hmem y).2 (List.mem_cons_self ..)) (by simp)
 | cons x r ih =>
   cases m with
   | nil => exact absurd ((hmem x).1 (List.mem_cons_self ..)) (by simp)
   | cons y s =>
     have hx := List.pairwise_cons.1 hl
     have hy := List.pairwise_cons.1 hm
     have e : x = y := by
      rcases List.mem_cons.1 ((hmem x).1 (List.mem_cons_self ..)) with e | e
      ·exact e
      rcases List.mem_cons.1 ((hmem y).2 (List.mem_cons_self ..)) with e' | e'
      ·exact e'.symm
      have h1 := hx.1 y e'
      have h2 := hy.1 x e
      omega
     subst e
     have hm' : ∀ p, p ∈ r ↔ p ∈ s := fun p => by
      constructor
      ·intro hp
       rcases List.mem_cons.1 ((hmem p).1 (List.mem_cons_of_mem _ hp)) with rfl | h'
       ·exact absurd (hx.1 p hp) (by omega)
       ·exact h'
      ·intro hp
       rcases List.mem_cons.1 ((hmem p).2 (List.mem_cons_of_mem _ hp)) with rfl | h'
       ·exact absurd (hy.1 p hp) (by omega)
       ·exact h'
     rw [ih hx.2 hy.2 (fun k => by
      cases e : getL s k with
      | none =>
        rw [getL_none] at e ⊢
        exact fun p hp => e p ((hm' p).1 hp)
      | some u => rw [getL_mem hx.2, hm', ← getL_mem hy.2]; exact e) hm']
theorem insL_map {β : Type} (g : Int × α → β) (x : Int × α) (l : List (Int × α)) : insL (x.1, g x) (l.map fun p => (p.1, g p)) = (insL x l).map fun p => (p.1, g p) := by
 induction l with
 | nil => rfl
 | cons y r ih =>
   simp only [List.map_cons, insL]
   split
   ·simp
   ·rw [ih]; simp
theorem delL_map {β : Type} (g : Int × α → β) (k : Int) (l : List (Int × α)) : delL (l.map fun p => (p.1, g p)) k = (delL l k).map fun p => (p.1, g p) := by
 simp only [delL, List.filter_map]
 rfl
theorem getL_map {β : Type} (g : Int × α → β) (k : Int) (l : List (Int × α)) : getL (l.map fun p => (p.1, g p)) k = (l.find? fun p => p.1 == k).map g := by
 induction l with
 | nil => rfl
 | cons y r ih =>
   simp only [getL, List.map_cons, List.find?_cons] at ih ⊢
   cases y.1 == k with
   | true => rfl
   | false => exact ih
theorem find_key {l : List (Int × α)} {k : Int} {p : Int × α} (h : (l.find? fun p => p.1 == k) = some p) : p ∈ l ∧ p.1 = k :=
 ⟨List.mem_of_find?_eq_some h, by simpa using List.find?_some h⟩
theorem putL_map {β : Type} (g g' : Int × α → β) (x : Int × α) (l : List (Int × α)) (h : ∀ p, p.1 ≠ x.1 → g' p = g p) : putL (l.map fun p => (p.1, g p)) x.1 (g' x) = (putL l x.1 x.2).map fun p => (p.1, g' p) := by
 unfold putL
 rw [delL_map]
 have e : (delL l x.1).map (fun p => (p.1, g p)) = (delL l x.1).map fun p => (p.1, g' p) := by
  apply List.map_congr_left
  intro p hp
  rw [h p ((delL_mem _ _ _).1 hp).2]
 rw [e, insL_map g' x]
theorem Rise.map {β : Type} (g : Int × α → β) {l : List (Int × α)} : Rise (l.map fun p => (p.1, g p)) ↔ Rise l := by
 unfold Rise
 rw [List.pairwise_map]
theorem Rise.len : ∀ {l : List (Int × α)} {a b : Int}, Rise l → (∀ p ∈ l, a ≤ p.1 ∧ p.1 < b) → (l.length : Int) ≤ if a ≤ b then b - a else 0
 | [], a, b, _, _ => by split <;> simp <;> omega
 | x :: r, a, b, h, hb => by
   have hx := List.pairwise_cons.1 h
   have h1 := hb x (List.mem_cons_self ..)
   have := Rise.len (a := x.1 + 1) (b := b) hx.2 (fun p hp => ⟨by have := hx.1 p hp; omega, (hb p (List.mem_cons_of_mem _ hp)).2⟩)
   simp only [List.length_cons]
   split at this <;> split <;> omega
end
structure MapAt (w : World) (b : Nat) (l : List (Int × Value)) : Prop where
 own : w.ownsMap Tryz.prog 3 hv b l.length (.map (entL l))
 rise : Rise l
theorem MapAt.lt {w : World} {b : Nat} {l : List (Int × Value)} (h : MapAt w b l) : b < w.heap.size := h.own.lt
theorem MapAt.frame {w w' : World} {b : Nat} {l : List (Int × Value)} {bs : Nat → Prop} (h : MapAt w b l) (ho : Only bs w w') (hn : ¬ bs b) : MapAt w' b l := by
 refine ⟨?_, h.rise⟩
 have hlt := h.lt
 obtain ⟨es, clock, hb, F, hs, hD⟩ := h.own
 exact ⟨es, clock, (ho.block b hlt hn).trans hb, F, hs, hD⟩
theorem MapAt.shrink {w : World} {b n : Nat} {l : List (Int × Value)} (h : w.ownsMap Tryz.prog 3 hv b n (.map (entL l))) (hr : Rise l) : MapAt w b l := by
 refine ⟨?_, hr⟩
 obtain ⟨es, clock, hb, F, hs, hD⟩ := h
 refine ⟨es, clock, hb, F, ?_, hD⟩
 have := congrArg (fun D : DataW Value => match D with | .map es => es.length | _ => 0) hD
 simp only [entL_length, length_sorted, List.length_map, Array.length_toList] at this
 omega
theorem MapAt.made (w : World) : MapAt (w.alloc (.map #[] 0)) w.heap.size [] := ⟨World.ownsMap_made w _ _ _, List.Pairwise.nil⟩
theorem map_keyed : Keyed Tryz.prog 3 := int_keyed Tryz.underlying3
def pg0 : Value := .agg #[.int .i64 0, .slice none 0 0]
theorem zero_pg (w : World) : (zeroValue 82).run Tryz.prog w = .ok pg0 w := by kernel_rfl
theorem wf64 {k : Int} (h : -9223372036854775808 ≤ k ∧ k ≤ 9223372036854775807) : (Lit.int .i64 k).wf = true := WalkArith.wf_i64 h
theorem MapAt.look {w : World} {b : Nat} {l : List (Int × Value)} (h : MapAt w b l) (k : Int) (hk : -9223372036854775808 ≤ k ∧ k ≤ 9223372036854775807) :
  (Instr.lookup 77 (.map (some b)) (.int .i64 k) true).run Tryz.prog w = .ok (.tuple #[(getL l k).getD pg0, .bool (getL l k).isSome]) w := by
 obtain ⟨v, ps, hr, hR⟩ := h.own.look_ok map_keyed Tryz.underlying77 (zero_pg w) (zd := .held pg0) (zp := []) rfl (keyOf_int_mk Tryz.underlying3 (wf64 hk))
 rw [entL_at] at hR
 rw [entL_has] at hr
 simp only [hv, Option.some.injEq, Prod.mk.injEq, DataW.held.injEq] at hR
 rw [hr, hR.1]
theorem MapAt.look1 {w : World} {b : Nat} {l : List (Int × Value)} (h : MapAt w b l) (k : Int) (hk : -9223372036854775808 ≤ k ∧ k ≤ 9223372036854775807) :
  (Instr.lookup 77 (.map (some b)) (.int .i64 k) false).run Tryz.prog w = .ok ((getL l k).getD pg0) w := by
 obtain ⟨v, ps, hr, hR⟩ := h.own.lookup map_keyed Tryz.underlying77 (zero_pg w) (zd := .held pg0) (zp := []) rfl (keyOf_int_mk Tryz.underlying3 (wf64 hk))
 rw [entL_at] at hR
 simp only [hv, Option.some.injEq, Prod.mk.injEq, DataW.held.injEq] at hR
 rw [hr, hR.1]
theorem turned_only {w w' : World} {b : Nat} (h : w.mapTurned w' b) : Only (fun i => i = b) w w' ∧ w'.heap.size = w.heap.size := by
 have hg := h.grown
 refine ⟨⟨hg.os, hg.tape, hg.output, hg.size, fun k hk hn => hg.block k hk (fun e => hn (by injection e))⟩, ?_⟩
 obtain ⟨es, clock, es', clock', hb, rfl⟩ := h
 simp [ChangeMaps.setBlock]
theorem MapAt.store {w : World} {b : Nat} {l : List (Int × Value)} (h : MapAt w b l) (k : Int) (hk : -9223372036854775808 ≤ k ∧ k ≤ 9223372036854775807) (hl : l.length < maxLen) (v : Value) :
  ∃ w', (Instr.mapUpdate 77 (.map (some b)) (.int .i64 k) v).run Tryz.prog w = .ok () w' ∧ MapAt w' b (putL l k v) ∧ Only (fun i => i = b) w w' ∧ w'.heap.size = w.heap.size := by
 obtain ⟨w', hr, ho, ht⟩ := h.own.store map_keyed Tryz.underlying77 hl (keyOf_int_mk Tryz.underlying3 (wf64 hk)) (val := v) (d := .held v) (ps := []) rfl
 rw [entL_put] at ho
 exact ⟨w', hr, MapAt.shrink ho (h.rise.put k v), turned_only ht⟩
theorem MapAt.drop {w : World} {b : Nat} {l : List (Int × Value)} (h : MapAt w b l) (k : Int) (hk : -9223372036854775808 ≤ k ∧ k ≤ 9223372036854775807) (ty : TypeId) :
  ∃ w', (Builtin.delete_ #[77, 3] ty #[.map (some b), .int .i64 k]).run Tryz.prog w = .ok (.tuple #[]) w' ∧ MapAt w' b (delL l k) ∧ Only (fun i => i = b) w w' ∧ w'.heap.size = w.heap.size := by
 obtain ⟨w', hr, ho, ht⟩ := h.own.drop map_keyed Tryz.underlying77 (keyOf_int_mk Tryz.underlying3 (wf64 hk)) ty
 rw [entL_del] at ho
 exact ⟨w', hr, MapAt.shrink ho (h.rise.del k), turned_only ht⟩
end Go.Proofs.YtlcglapcmdpkfaaGreat
namespace Go.Proofs.YtlcglapcmdpkfaaGreat
open Go.RowKit
set_option linter.unusedSimpArgs false
set_option linter.unusedVariables false
set_option maxRecDepth 100000
set_option maxHeartbeats 16000000
def rootB (x f c : Nat) : List Nat := layB x 8 ++ (layB f 4 ++ (layB c 4 ++ (List.replicate 8 0 ++ layB x 8)))
theorem rootB_length (x f c : Nat) : (rootB x f c).length = 32 := by simp [rootB, layB_length]
theorem rootB_lt (x f c : Nat) : ∀ z ∈ rootB x f c, z < 256 := by
 intro z hz
 simp only [rootB, List.mem_append, List.mem_replicate] at hz
 rcases hz with h | h | h | h | h
 ·exact layB_lt _ _ z h
 ·exact layB_lt _ _ z h
 ·exact layB_lt _ _ z h
 ·omega
 ·exact layB_lt _ _ z h
theorem list8 {l : List Nat} (h : l.length = 8) : ∃ a b c d e f g i, l = [a, b, c, d, e, f, g, i] := by
 match l, h with
 | [a, b, c, d, e, f, g, i], _ => exact ⟨a, b, c, d, e, f, g, i, rfl⟩
theorem list4 {l : List Nat} (h : l.length = 4) : ∃ a b c d, l = [a, b, c, d] := by
 match l, h with
 | [a, b, c, d], _ => exact ⟨a, b, c, d, rfl⟩
theorem rootB_splice (x f c : Nat) : splice (splice (splice (splice (List.replicate 32 0) 0 (layB x 8)) 8 (layB f 4)) 12 (layB c 4)) 24 (layB x 8) = rootB x f c := by
 obtain ⟨a0, a1, a2, a3, a4, a5, a6, a7, ha⟩ := list8 (layB_length x 8)
 obtain ⟨b0, b1, b2, b3, hb⟩ := list4 (layB_length f 4)
 obtain ⟨c0, c1, c2, c3, hc⟩ := list4 (layB_length c 4)
 simp only [rootB, ha, hb, hc]
 rfl
theorem slay_hid (g o k c x : Nat) (zs : List Nat) (w : World) (h : Blk w g zs) (hp : o + k ≤ zs.length) (hk : k ≤ 8) (hx : x < 18446744073709551616) :
  Calls Tryz.prog 66 #[.slice (some ⟨g, o, none⟩) k c, .int .u64 x] w fun e w' => e = .returned (.tuple #[]) ∧ Hid (Blk w' g (splice zs o (layB x k)) ∧ Only (fun i => i = g) w w' ∧ w'.heap.size = w.heap.size) :=
 (slay_any g o k c x zs w h hp hk hx).mono fun _ _ h => h
theorem rootbytes_any (x f c : Nat) (w : World) (hx : x < 18446744073709551616) (hf : f < 4294967296) (hc : c < 4294967296) :
  Calls Tryz.prog 30 #[.agg #[.int .u64 x, .int .u32 f, .int .u32 c]] w fun e w' => e = .returned (.slice (some ⟨w.heap.size + 1, 0, none⟩) 32 32) ∧ Blk w' (w.heap.size + 1) (rootB x f c) ∧ Only (fun _ => False) w w' := by
 obtain ⟨Z, hZ⟩ : ∃ Z, Z = (BL (List.replicate 32 0)).toArray := ⟨_, rfl⟩
 have hmk : ∀ w, (Instr.makeSlice 37 (.int .i64 32) (.int .i64 32)).run Tryz.prog w = .ok (.slice (some ⟨w.heap.size, 0, none⟩) 32 32) (w.alloc (.cells Z 5)) := fun w => by rw [hZ]; exact make_blk 32 (by omega) w
 obtain ⟨wa, hwa⟩ : ∃ q, q = w.alloc (.cells #[.int .u64 x, .int .u32 f, .int .u32 c] 74) := ⟨_, rfl⟩
 obtain ⟨wx, hwx⟩ : ∃ q, q = wa.alloc (.cells Z 5) := ⟨_, rfl⟩
 obtain ⟨N, hN⟩ : ∃ q, q = w.heap.size := ⟨_, rfl⟩
 have oa : Only (fun _ => False) w wa := by rw [hwa]; exact (Only.refl _ w).alloc _
 have ox : Only (fun _ => False) wa wx := by rw [hwx]; exact (Only.refl _ wa).alloc _
 have sa : wa.heap.size = N + 1 := by rw [hwa, hN]; simp
 have ba : wa.heap[N]? = some (.cells #[.int .u64 x, .int .u32 f, .int .u32 c] 74 (0, 0)) := by rw [hwa, hN]; exact heap_alloc_new w _
 have bx : wx.heap[N]? = some (.cells #[.int .u64 x, .int .u32 f, .int .u32 c] 74 (0, 0)) := by rw [ox.block N (by omega) (fun e => e)]; exact ba
 have x0 : wx.cell? ⟨N, 0, none⟩ = some (.int .u64 x) := by rw [cell_of_row _ _ _ _ _ _ bx]; rfl
 have x1 : wx.cell? ⟨N, 1, none⟩ = some (.int .u32 f) := by rw [cell_of_row _ _ _ _ _ _ bx]; rfl
 have x2 : wx.cell? ⟨N, 2, none⟩ = some (.int .u32 c) := by rw [cell_of_row _ _ _ _ _ _ bx]; rfl
 have HB0 : Hid (Blk wx (N + 1) (List.replicate 32 0)) := by rw [hwx, hZ, ← sa]; exact blk_zeros 32 (by omega) wa
 have HP0 : Hid (Only (fun i => i = N + 1) w wx) := (oa.trans ox (fun _ _ e => e)).mono (fun _ _ e => e.elim)
 have HW : Hid (wx = (w.alloc (.cells #[.int .u64 x, .int .u32 f, .int .u32 c] 74)).alloc (.cells Z 5)) := (by rw [hwx, hwa] : _ = _)
 have HN : Hid (N = w.heap.size) := hN
 have HA : Hid (wa = w.alloc (.cells #[.int .u64 x, .int .u32 f, .int .u32 c] 74)) := hwa
 have hf64 : IntKind.u64.wrap (f : Int) = (f : Int) := by rw [IntKind.wrap_u64]; omega
 have hc64 : IntKind.u64.wrap (c : Int) = (c : Int) := by rw [IntKind.wrap_u64]; omega
 have HX0 : Hid _ := x0
 have HX1 : Hid _ := x1
 have HX2 : Hid _ := x2
 have HC0 : Hid (Calls Tryz.prog 66 _ _ _) := slay_hid (N + 1) 0 8 32 x _ wx.drew HB0.out (by simp) (by omega) hx
 clear hZ hwx hwa oa ox sa ba bx hN x1 x2
 go_enter Tryz.func30, Tryz.ntmps30
 go_wp2_with fail
 rw [← HW.out, ← HN.out]
 clear hmk
 go_region_held3 (fun w' => w'.cell? ⟨N, 0, none⟩ = some (.int .u64 x)) (first | exact (HK0.out.2.1.cell HX0.out (by simp)) | go_keep)
  (first
   | (go_at_call 66; refine (show Calls Tryz.prog 66 _ _ _ from HC0.out).mono ?_; rintro e w1 ⟨rfl, HK0⟩))
 clear HC0 x0
 have HP1 : Hid (Only (fun i => i = N + 1) w w1) := (HP0.out.drew).trans HK0.out.2.1 (fun _ _ e => e)
 have HY10 : Hid (w1.cell? ⟨N, 0, none⟩ = some (.int .u64 x)) := HK0.out.2.1.cell HX0.out (by simp)
 have HY11 : Hid (w1.cell? ⟨N, 1, none⟩ = some (.int .u32 f)) := HK0.out.2.1.cell HX1.out (by simp)
 have HY12 : Hid (w1.cell? ⟨N, 2, none⟩ = some (.int .u32 c)) := HK0.out.2.1.cell HX2.out (by simp)
 clear HX0 HX1 HX2
 rename Hid (w1.cell? ⟨N, 0, none⟩ = some (.int .u64 x)) => HX0
 rename Hid (w1.cell? ⟨N, 1, none⟩ = some (.int .u32 f)) => HX1
 rename Hid (w1.cell? ⟨N, 2, none⟩ = some (.int .u32 c)) => HX2
 have x1 := HX1.out
 have HC1 : Hid (Calls Tryz.prog 66 _ _ _) := slay_hid (N + 1) 8 4 24 f _ w1.drew HK0.out.1 (by rw [length_splice, List.length_replicate] <;> simp [layB_length]) (by omega) (by omega)
 go_wp2_with fail
 go_region_held3 (fun w' => w'.cell? ⟨N, 1, none⟩ = some (.int .u32 f)) (first | exact (HK1.out.2.1.cell HX1.out (by simp)) | go_keep)
  (first
   | (go_at_call 66; refine (show Calls Tryz.prog 66 _ _ _ from HC1.out).mono ?_; rintro e w2 ⟨rfl, HK1⟩))
 clear HC1 x1
 have HP2 : Hid (Only (fun i => i = N + 1) w w2) := (HP1.out.drew).trans HK1.out.2.1 (fun _ _ e => e)
 have HY20 : Hid (w2.cell? ⟨N, 0, none⟩ = some (.int .u64 x)) := HK1.out.2.1.cell HX0.out (by simp)
 have HY21 : Hid (w2.cell? ⟨N, 1, none⟩ = some (.int .u32 f)) := HK1.out.2.1.cell HX1.out (by simp)
 have HY22 : Hid (w2.cell? ⟨N, 2, none⟩ = some (.int .u32 c)) := HK1.out.2.1.cell HX2.out (by simp)
 clear HX0 HX1 HX2
 rename Hid (w2.cell? ⟨N, 0, none⟩ = some (.int .u64 x)) => HX0
 rename Hid (w2.cell? ⟨N, 1, none⟩ = some (.int .u32 f)) => HX1
 rename Hid (w2.cell? ⟨N, 2, none⟩ = some (.int .u32 c)) => HX2
 have x2 := HX2.out
 have HC2 : Hid (Calls Tryz.prog 66 _ _ _) := slay_hid (N + 1) 12 4 20 c _ w2.drew HK1.out.1 (by simp [splice, layB_length]) (by omega) (by omega)
 go_wp2_with fail
 go_region_held3 (fun w' => w'.cell? ⟨N, 2, none⟩ = some (.int .u32 c)) (first | exact (HK2.out.2.1.cell HX2.out (by simp)) | go_keep)
  (first
   | (go_at_call 66; refine (show Calls Tryz.prog 66 _ _ _ from HC2.out).mono ?_; rintro e w3 ⟨rfl, HK2⟩))
 clear HC2 x2
 have HP3 : Hid (Only (fun i => i = N + 1) w w3) := (HP2.out.drew).trans HK2.out.2.1 (fun _ _ e => e)
 have HY30 : Hid (w3.cell? ⟨N, 0, none⟩ = some (.int .u64 x)) := HK2.out.2.1.cell HX0.out (by simp)
 have HY31 : Hid (w3.cell? ⟨N, 1, none⟩ = some (.int .u32 f)) := HK2.out.2.1.cell HX1.out (by simp)
 have HY32 : Hid (w3.cell? ⟨N, 2, none⟩ = some (.int .u32 c)) := HK2.out.2.1.cell HX2.out (by simp)
 clear HX0 HX1 HX2
 rename Hid (w3.cell? ⟨N, 0, none⟩ = some (.int .u64 x)) => HX0
 rename Hid (w3.cell? ⟨N, 1, none⟩ = some (.int .u32 f)) => HX1
 rename Hid (w3.cell? ⟨N, 2, none⟩ = some (.int .u32 c)) => HX2
 have x0 := HX0.out
 have HC3 : Hid (Calls Tryz.prog 66 _ _ _) := slay_hid (N + 1) 24 8 8 x _ w3.drew HK2.out.1 (by simp [splice, layB_length]) (by omega) (by omega)
 go_wp2_with fail
 go_region_held3 (fun w' => w'.cell? ⟨N, 0, none⟩ = some (.int .u64 x)) (first | exact (HK3.out.2.1.cell HX0.out (by simp)) | go_keep)
  (first
   | (go_at_call 66; refine (show Calls Tryz.prog 66 _ _ _ from HC3.out).mono ?_; rintro e w4 ⟨rfl, HK3⟩))
 clear HC3 x0
 have HP4 : Hid (Only (fun i => i = N + 1) w w4) := (HP3.out.drew).trans HK3.out.2.1 (fun _ _ e => e)
 go_wp2
 go_ret
 refine ⟨by rw [← HN.out]; rfl, ?_, ?_⟩
 ·rw [← HN.out]
  have := HK3.out.1
  rw [rootB_splice] at this
  exact this
 ·exact HP4.out.mono (fun i hi e => by have := HN.out; omega)
end Go.Proofs.YtlcglapcmdpkfaaGreat
namespace Go.Proofs.YtlcglapcmdpkfaaGreat
open Go.RowKit Go.Maps
set_option linter.unusedSimpArgs false
set_option linter.unusedVariables false
set_option maxRecDepth 100000
set_option maxHeartbeats 16000000
section
variable {P : Program} (w : World)
theorem equalIn_map_nil (d : Nat) (t k e : TypeId) (p : Option Nat) (h : P.underlying t = some (.map k e)) :
  (Op.equalIn (d + 1) t (.map p) (.map none)).run P w = .ok p.isNone w := by
 cases p <;> simp [Op.equalIn, run_underlying h]
theorem eql_map_nil (t k e : TypeId) (p : Option Nat) (h : P.underlying t = some (.map k e)) :
  (binOp .eql t (.map p) (.map none)).run P w = .ok (.bool p.isNone) w := by
 simp only [binOp]
 simp [show Op.equal t (.map p) (.map none) = Op.equalIn (9999 + 1) t (.map p) (.map none) from rfl, equalIn_map_nil w 9999 t k e p h]
theorem typeAssert_map (t xT k e : TypeId) (v : Value) (h : P.underlying t = some (.map k e)) : (Instr.typeAssert (.iface t v) xT t false).run P w = .ok v w := by
 simp [Instr.typeAssert, run_underlying h, go_sem, Result.andThen]
theorem run_clone {r : Nat} {es : Array MapEntry} {clock : Nat} (t : TypeId) (hb : w.heap[r]? = some (.map es clock)) :
  (Extern.MapsClone.clone #[.iface t (.map (some r))]).run P w = .ok (.iface t (.map (some w.heap.size))) (w.alloc (.map es clock)) := by
 obtain ⟨bad, e⟩ : ∃ bad : Sem Value, Extern.MapsClone.clone #[.iface t (.map (some r))] = (getObj r >>= fun o => match o with
   | .map entries clock => (newObj (.map entries clock) >>= fun n => pure (.iface t (.map (some n))))
   | _ => bad) := ⟨_, rfl⟩
 rw [e]
 simp [MapKept.run_getObj_map hb, Result.andThen, go_sem]
end
theorem mclone_raw (b : Nat) (es : Array MapEntry) (clock : Nat) (w : World) (hb : w.heap[b]? = some (.map es clock)) :
  Calls Tryz.prog 67 #[.map (some b)] w fun e w' => e = .returned (.map (some w.heap.size)) ∧ w' = w.alloc (.map es clock) := by
 have hq := fun w => eql_map_nil (P := Tryz.prog) w 77 _ _ (some b) Tryz.underlying77
 go_enter Tryz.func67, Tryz.ntmps67
 go_wp2
 rw [run_callFunc_extern Tryz.func93 (by kernel_rfl) (by kernel_rfl) (by kernel_rfl) (e := Extern.MapsClone.clone) (by kernel_rfl), run_clone w 77 hb]
 simp only [Result.andThen]
 rw [Oper.upon_value]
 go_wp2
 rw [typeAssert_map _ 77 20 _ _ _ Tryz.underlying77]
 simp only [Result.andThen]
 rw [Oper.upon_value]
 go_wp2
 go_ret
 exact ⟨rfl, rfl⟩
theorem mclone_any (b : Nat) (l : List (Int × Value)) (w : World) (h : MapAt w b l) :
  Calls Tryz.prog 67 #[.map (some b)] w fun e w' => e = .returned (.map (some w.heap.size)) ∧ MapAt w' w.heap.size l ∧ Only (fun _ => False) w w' ∧ w'.heap.size = w.heap.size + 1 := by
 obtain ⟨es, clock, hb, F, hs, hD⟩ := h.own
 refine (mclone_raw b es clock w hb).mono ?_
 rintro e w' ⟨rfl, rfl⟩
 exact ⟨rfl, ⟨⟨es, clock, (MapKept.heap_alloc w _).1, F, hs, hD⟩, h.rise⟩, (Only.refl _ w).alloc _, by simp⟩
theorem eql_slice_nil {a : Option Addr} {n c : Nat} (w : World) : (binOp .eql 37 (.slice a n c) (.slice none 0 0)).run Tryz.prog w = .ok (.bool a.isNone) w := by
 cases a <;> kernel_rfl
theorem bclone_any (v : Value) (zs : List Nat) (w : World) (h : BytesAt w v zs) :
  Calls Tryz.prog 33 #[v] w fun e w' => ∃ u, e = .returned u ∧ Fresh w' w.heap.size u zs ∧ Only (fun _ => False) w w' := by
 obtain ⟨i0, hi0, hz0, hz1, hz2⟩ := info_parts info5
 obtain ⟨a, cap, w', hr, own, ho⟩ := app_copy 37 5 i0 _ 1 Tryz.underlying37 hi0 hz0 hz1 hz2 rfl rfl w v zs.length _ h.1 (fun j => rfl) h.2.1
 rw [← BL_getD] at own
 have HR : Hid _ := hr
 have HF : Hid (Fresh w' w.heap.size (.slice a zs.length cap) zs) := ⟨own, h.2⟩
 have HO : Hid (Only (fun _ => False) w w') := ho
 have hem := empty23
 rcases h.1 with ⟨rfl, h0⟩ | ⟨ad, c, rfl, _, _⟩
 ·have hn : zs = [] := List.eq_nil_of_length_eq_zero h0
  subst hn
  clear hr own ho h HR HF HO hem
  have hq := fun w => eql_slice_nil (a := none) (n := 0) (c := 0) w
  go_enter Tryz.func33, Tryz.ntmps33
  go_wp2
  go_ret
  exact ⟨_, rfl, ⟨World.ownsRow_nil _ _ _ _, by simp, fun z hz => by cases hz⟩, Only.refl _ _⟩
 ·clear hr own ho h
  have hq := fun w => eql_slice_nil (a := some ad) (n := zs.length) (c := c) w
  go_enter Tryz.func33, Tryz.ntmps33
  go_wp2_with (at_builtin; refine wpList_append_run rfl _ _ 37 rfl _ _ (.slice a zs.length cap) rfl rfl HR.out ?_)
  go_ret
  exact ⟨_, rfl, HF.out, HO.out⟩
theorem RowAt.keep {W W' : World} {v : Value} {k size : Nat} {f : Nat → Value} {bs : Nat → Prop} (h : RowAt W v k size f) (ho : Only bs W W') (hn : ∀ b, v.ownBlock = some b → ¬ bs b) : RowAt W' v k size f := by
 rcases h with h | ⟨ad, c, hv, hkc, hc⟩
 ·exact .inl h
 ·exact .inr ⟨ad, c, hv, hkc, fun j hj => ho.cell (hc j hj) (hn _ (by rw [hv]; simp only [Value.ownBlock, Addr.add]; repeat' split <;> rfl))⟩
theorem BytesAt.keep {W W' : World} {v : Value} {zs : List Nat} {bs : Nat → Prop} (h : BytesAt W v zs) (ho : Only bs W W') (hn : ∀ b, v.ownBlock = some b → ¬ bs b) : BytesAt W' v zs := ⟨h.1.keep ho hn, h.2⟩
abbrev Pgs := List (Int × Nat × List Nat)
structure SS where
 size : Nat
 epoch : Nat
 sector : Nat
 tabs : List Nat
 com : Pgs
 now : Pgs
def pgV (sl : Int → Value) (p : Int × Nat × List Nat) : Value := .agg #[.int .i64 (p.2.1 : Nat), sl p.1]
def PMap (w : World) (av : Nat → Prop) (m : Nat) (l : Pgs) : Prop :=
 ∃ sl : Int → Value, MapAt w m (l.map fun p => (p.1, pgV sl p)) ∧ ∀ p ∈ l, BytesAt w (sl p.1) p.2.2 ∧ ∀ b, (sl p.1).ownBlock = some b → b < w.heap.size ∧ ¬ av b
theorem PMap.rise {w : World} {av : Nat → Prop} {m : Nat} {l : Pgs} (h : PMap w av m l) : Rise l := by
 obtain ⟨sl, h, _⟩ := h
 exact (Rise.map _).1 h.rise
theorem PMap.lt {w : World} {av : Nat → Prop} {m : Nat} {l : Pgs} (h : PMap w av m l) : m < w.heap.size := by
 obtain ⟨sl, h, _⟩ := h
 exact h.lt
theorem PMap.frame {w w' : World} {av av' bs : Nat → Prop} {m : Nat} {l : Pgs} (h : PMap w av m l) (ho : Only bs w w') (hm : ¬ bs m) (hb : ∀ k, k < w.heap.size → bs k → av k) (ha : ∀ k, k < w.heap.size → av' k → av k) : PMap w' av' m l := by
 obtain ⟨sl, h1, h2⟩ := h
 refine ⟨sl, h1.frame ho hm, fun p hp => ?_⟩
 obtain ⟨h3, h4⟩ := h2 p hp
 refine ⟨h3.keep ho (fun b hb' e => (h4 b hb').2 (hb b (h4 b hb').1 e)), fun b hb' => ⟨Nat.lt_of_lt_of_le (h4 b hb').1 ho.size, fun e => (h4 b hb').2 (ha b (h4 b hb').1 e)⟩⟩
def mutB (dk : Nat → Prop) (s mc mn : Nat) : Nat → Prop := fun k => k = s ∨ k = mc ∨ k = mn ∨ dk k
structure SS.Wf (x : SS) : Prop where
 size : 3 ≤ x.size ∧ x.size ≤ 2048
 epoch : x.epoch < 18446744073709551616
 sector : x.sector = 0 ∨ x.sector = 4
 tabs : x.tabs.length ≤ 2048 ∧ ∀ t ∈ x.tabs, 2 ≤ t ∧ t < x.size
 com : ∀ p ∈ x.com, (0 ≤ p.1 ∧ p.1 < 728) ∧ (2 ≤ p.2.1 ∧ p.2.1 < x.size) ∧ p.2.2.length ≤ 116
 now : ∀ p ∈ x.now, (0 ≤ p.1 ∧ p.1 < 728) ∧ (p.2.1 = 0 ∨ 2 ≤ p.2.1 ∧ p.2.1 < x.size) ∧ p.2.2.length ≤ 116
def stL (p : Nat) (x : SS) (tv : Value) (mc mn : Nat) : List Value :=
 [.pointer (some ⟨p, 0, none⟩), .int .i64 (x.size : Nat), .int .u64 (x.epoch : Nat), .int .i64 (x.sector : Nat), tv, .map (some mc), .map (some mn)]
structure StAt (w : World) (dk : Nat → Prop) (s p mc mn : Nat) (tv : Value) (x : SS) : Prop where
 cells : w.rangeAt s 0 (stL p x tv mc mn)
 there : w.there s 0 7
 d1 : s ≠ mc
 d2 : s ≠ mn
 d3 : mc ≠ mn
 k1 : ¬ dk s
 k2 : ¬ dk mc
 k3 : ¬ dk mn
 tabs : RowAt w tv x.tabs.length 1 (fun j => .int .i64 (x.tabs.getD j 0 : Nat))
 tabsB : ∀ b, tv.ownBlock = some b → b < w.heap.size ∧ ¬ mutB dk s mc mn b
 com : PMap w (mutB dk s mc mn) mc x.com
 now : PMap w (mutB dk s mc mn) mn x.now
 wf : x.Wf
theorem StAt.lt {w : World} {dk : Nat → Prop} {s p mc mn : Nat} {tv : Value} {x : SS} (h : StAt w dk s p mc mn tv x) : s < w.heap.size :=
 World.block_lt_of_cell? w _ (h.cells 0 _ rfl)
theorem StAt.frame {w w' : World} {dk dk' bs : Nat → Prop} {s p mc mn : Nat} {tv : Value} {x : SS} (h : StAt w dk s p mc mn tv x) (ho : Only bs w w') (hb : ∀ k, k < w.heap.size → bs k → dk k) (hd : ∀ k, k < w.heap.size → dk' k → dk k) : StAt w' dk' s p mc mn tv x := by
 have hs := h.lt
 have hmc := h.com.lt
 have hmn := h.now.lt
 have ns : ¬ bs s := fun e => h.k1 (hb _ hs e)
 have nc : ¬ bs mc := fun e => h.k2 (hb _ hmc e)
 have nn : ¬ bs mn := fun e => h.k3 (hb _ hmn e)
 have ha : ∀ k, k < w.heap.size → mutB dk' s mc mn k → mutB dk s mc mn k := by
  rintro k hk (e | e | e | e)
  ·exact .inl e
  ·exact .inr (.inl e)
  ·exact .inr (.inr (.inl e))
  ·exact .inr (.inr (.inr (hd k hk e)))
 have hb' : ∀ k, k < w.heap.size → bs k → mutB dk s mc mn k := fun k hk e => .inr (.inr (.inr (hb k hk e)))
 exact { cells := ho.range h.cells ns, there := ho.there h.there ns, d1 := h.d1, d2 := h.d2, d3 := h.d3
         k1 := fun e => h.k1 (hd _ hs e), k2 := fun e => h.k2 (hd _ hmc e), k3 := fun e => h.k3 (hd _ hmn e)
         tabs := h.tabs.keep ho (fun b e e' => (h.tabsB b e).2 (hb' b (h.tabsB b e).1 e'))
         tabsB := fun b e => ⟨Nat.lt_of_lt_of_le (h.tabsB b e).1 ho.size, fun e' => (h.tabsB b e).2 (ha b (h.tabsB b e).1 e')⟩
         com := h.com.frame ho nc hb' ha, now := h.now.frame ho nn hb' ha, wf := h.wf }
theorem usable_dead (s : Nat) (w : World) (h : w.cell? ⟨s, 0, none⟩ = some (.pointer none)) : Calls Tryz.prog 35 #[.pointer (some ⟨s, 0, none⟩)] w fun e w' => e = .returned (.int .i64 3) ∧ w' = w := by
 go_enter Tryz.func35, Tryz.ntmps35
 go_wp2
 go_ret
 exact ⟨rfl, rfl⟩
theorem usable_ok (s p : Nat) (w : World) (h : w.cell? ⟨s, 0, none⟩ = some (.pointer (some ⟨p, 0, none⟩))) : Calls Tryz.prog 35 #[.pointer (some ⟨s, 0, none⟩)] w fun e w' => e = .returned (.int .i64 0) ∧ w' = w := by
 go_enter Tryz.func35, Tryz.ntmps35
 go_wp2
 go_ret
 exact ⟨rfl, rfl⟩
theorem sreach_out (s p : Nat) (i : Int) (w : World) (h : w.cell? ⟨s, 0, none⟩ = some (.pointer (some ⟨p, 0, none⟩))) (hi : i < 0 ∨ 728 ≤ i) : Calls Tryz.prog 32 #[.pointer (some ⟨s, 0, none⟩), .int .i64 i] w fun e w' => e = .returned (.int .i64 4) ∧ w' = w := by
 have HU := usable_ok s p w h
 clear h
 by_cases h1 : i < 0
 ·go_enter Tryz.func32, Tryz.ntmps32
  go_wp2_with (go_at_call 35; refine HU.mono ?_; rintro e w' ⟨rfl, rfl⟩)
  go_ret
  exact ⟨rfl, rfl⟩
 ·have h2 : 728 ≤ i := by omega
  have h3 : decide (i < 0) = false := by simpa using h1
  go_enter Tryz.func32, Tryz.ntmps32
  go_wp2_with (go_at_call 35; refine HU.mono ?_; rintro e w' ⟨rfl, rfl⟩)
  go_ret
  exact ⟨rfl, rfl⟩
theorem sreach_ok (s p : Nat) (i : Int) (w : World) (h : w.cell? ⟨s, 0, none⟩ = some (.pointer (some ⟨p, 0, none⟩))) (hi : 0 ≤ i ∧ i < 728) : Calls Tryz.prog 32 #[.pointer (some ⟨s, 0, none⟩), .int .i64 i] w fun e w' => e = .returned (.int .i64 0) ∧ w' = w := by
 have HU := usable_ok s p w h
 clear h
 have h1 : ¬ i < 0 := by omega
 have h3 : decide (i < 0) = false := by simpa using h1
 have h2 : ¬ 728 ≤ i := by omega
 go_enter Tryz.func32, Tryz.ntmps32
 go_wp2_with (go_at_call 35; refine HU.mono ?_; rintro e w' ⟨rfl, rfl⟩)
 go_ret
 exact ⟨rfl, rfl⟩
end Go.Proofs.YtlcglapcmdpkfaaGreat
namespace Go.Proofs.YtlcglapcmdpkfaaGreat
open Go.RowKit Go.Shelf
set_option linter.unusedSimpArgs false
set_option linter.unusedVariables false
set_option maxRecDepth 100000
set_option maxHeartbeats 16000000
section
variable {P : Program} {n l : Nat} {ops : Array Oper} {op : Oper} {a : Act} {w w' : World} {K : Act → World → Prop} {Q : Exit → Act → World → Prop}
def plainOp : Op → Bool
 | .defer _ => false
 | _ => true
theorem wpOp_round {i : Nat} (hc : ∀ o, ops[i]? = some o → plainOp o.op = true) (hQ : ¬ LetsOut Q) (h : wpOp P ops Q i K a w) : wpOpIn (Fence.wide.inRound l) n P ops Q i K a w := by
 unfold wpOp at h
 unfold wpOpIn
 cases ho : ops[i]? with
 | none => rw [ho] at h; exact h
 | some o =>
   rw [ho] at h
   have hco := hc o ho
   simp only at h ⊢
   split
   ·rename_i hw
    rw [if_pos hw] at h
    rcases h with h | ⟨_, hl⟩
    ·refine ⟨fun f hf => trivial, ?_⟩
     rw [Oper.semAt_eq _ _ _ (fun c hc' => by rw [hc'] at hco; cases hco)]
     unfold Oper.wp at h
     cases hr : (execOp a.eval o).run P w with
     | ok x w1 =>
       rw [hr] at h
       cases x with
       | value v => exact h
       | skip => exact h
       | defer d => exact h
       | enter f args =>
         refine ⟨fun e => (by cases e), ?_⟩
         exact (callsIn_wide (n := n - 1)).2 h
       | row r args =>
         refine ⟨fun e => (by cases e), fun c cs _ => ?_⟩
         obtain ⟨v, w', hr', hs'⟩ := (h : Rows P r args w1 _) c cs
         exact ⟨v, w', hr', stepsIn_wide.2 hs'⟩
       | _ => exact (h : False).elim
     | halt e w1 =>
       rw [hr] at h
       cases e <;> first | exact h | exact (h : False).elim
    ·exact absurd hl hQ
   ·rename_i hw
    rw [if_neg hw] at h
    exact ⟨fun f hf => trivial, h⟩
theorem wpAny_round {md : Region.Mode} (hc : ∀ (i : Nat) (o : Oper), ops[i]? = some o → plainOp o.op = true) (hQ : ¬ LetsOut Q) : ∀ (fuel : Nat) (listed : Array Bool) (a : Act) (w : World), wpAny P md ops Q fuel listed a w → wpAnyIn (Fence.wide.inRound l) n P md ops Q fuel listed a w
 | 0, _, _, _, h => h
 | fuel + 1, _, _, _, h => ⟨h.1, fun i hi => wpOp_round (hc i) hQ (wpOp_mono (fun a' w' h' => wpAny_round hc hQ fuel _ a' w' h') (h.2 i hi))⟩
theorem wpIn_region_round {id : Nat} {S : World → Prop} (hm : P.follows .mixedOrders = true) (hc : ops.all (fun o => plainOp o.op) = true) (hQ : ¬ LetsOut Q) (hS : S w.drew)
  (h : S w.drew → wpAnyH P .any ops Q S ops.size (Array.replicate ops.size false) a w.drew) : (Code.region id ops true).wpIn (Fence.wide.inRound l) n P Q a w :=
 wpIn_region_any hm (wpAny_round (fun i o ho => by
  rw [Array.all_eq_true_iff_forall_mem] at hc
  exact hc o (Array.mem_of_getElem? ho)) hQ _ _ _ _ (wpAny_of_held _ _ _ _ (h hS)))
theorem wp_call_func {f : Nat} (args : Array Operand) (tys : Array TypeId) (ho : op.op = .call { callee := .value (.func f), args := args, argTypes := tys }) (vs : Array Value) (hvs : args.map a.eval = vs) (he : ∀ args w, (callFunc f args).run P w = .ok (.enter f args) w)
  {R : Ending → World → Prop} (hc : Calls P f vs w R) (hR : ∀ e w', R e w' → ∃ v, e = .returned v ∧ K (a.put op.dst v) w') : op.wp P a w K Q := by
 have hr : (execOp a.eval op).run P w = .ok (.enter f vs) w := by
  simp [execOp, ho, resolve, invoke, go_sem, he, hvs, Result.andThen]
 unfold Oper.wp
 rw [hr, Oper.upon_enter]
 refine hc.mono fun e w' h => ?_
 obtain ⟨v, rfl, hk⟩ := hR e w' h
 exact hk
end
end Go.Proofs.YtlcglapcmdpkfaaGreat
namespace Go.Proofs.YtlcglapcmdpkfaaGreat
open Go.RowKit
set_option linter.unusedSimpArgs false
set_option linter.unusedVariables false
set_option maxRecDepth 100000
set_option maxHeartbeats 16000000
def part (zs : List Nat) (k m : Nat) : Nat := nof ((zs.drop k).take m)
def rtE (zs : List Nat) : Nat := part zs 0 8
def rtF (zs : List Nat) : Nat := part zs 8 4
def rtC (zs : List Nat) : Nat := part zs 12 4
def rtOk (zs : List Nat) : Bool := part zs 0 8 != 0 && part zs 16 8 == 0 && part zs 24 8 == part zs 0 8
theorem part_lt {zs : List Nat} (h : ∀ z ∈ zs, z < 256) (p m : Nat) : part zs p m < 2 ^ (8 * m) :=
 Nat.lt_of_lt_of_le (nof_lt fun z hz => h z (List.mem_of_mem_drop (List.mem_of_mem_take hz))) (Nat.pow_le_pow_right (by omega) (by rw [List.length_take]; omega))
theorem results_root {fn : Func} {t u : Tmp} (h : fn.results = #[.cell u 74, .tmp t]) (tmps : Array Value) (w : World) (a : Addr) {x y z : Value} (hc : w.cell? ⟨a.block, a.off, none⟩ = some x ∧ w.cell? ⟨a.block, a.off + 1, none⟩ = some y ∧ w.cell? ⟨a.block, a.off + 2, none⟩ = some z) (ha : tmps.getD u undef = .pointer (some ⟨a.block, a.off, none⟩)) :
  (results fn tmps).run Tryz.prog w = .ok (.tuple #[.agg #[x, y, z], tmps.getD t undef]) w := by
 obtain ⟨h0, h1, h2⟩ := hc
 have ha' : tmps[u]?.getD undef = .pointer (some ⟨a.block, a.off, none⟩) := by simpa using ha
 simp [results, h, ha', asAddr, go_sem, loadVar, isAgg, Tryz.underlying74, h0, h1, h2]
theorem rroot_any (p S q B : Nat) (pv : Value) (d : DS) (w : World) (h : DiskAt w B p S pv d) (hl : d.life ≠ 0) (hq : q < d.n) (hb : ByteD d) :
  Calls Tryz.prog 95 #[.pointer (some ⟨p, 0, none⟩), .int .i64 q] w fun e w' => e = .returned (.tuple #[.agg #[.int .u64 (rtE (secN (d.sec q)) : Nat), .int .u32 (rtF (secN (d.sec q)) : Nat), .int .u32 (rtC (secN (d.sec q)) : Nat)], .bool (rtOk (secN (d.sec q)))]) ∧ Only (fun _ => False) w w' := by
 obtain ⟨wa, hwa⟩ : ∃ x, x = w.alloc (.cells #[.int .u64 0, .int .u32 0, .int .u32 0] 74) := ⟨_, rfl⟩
 have oa : Only (fun _ => False) w wa := by rw [hwa]; exact (Only.refl _ w).alloc _
 obtain ⟨N, hN⟩ : ∃ x, x = w.heap.size := ⟨_, rfl⟩
 have sa : wa.heap.size = N + 1 := by rw [hwa, hN]; simp
 have HRD : Hid (Calls Tryz.prog 8 #[.pointer (some ⟨p, 0, none⟩), .int .i64 q] wa fun e w' => e = .returned (.tuple #[.slice (some ⟨wa.heap.size, 0, none⟩) 32 32, .int .i64 0]) ∧ w' = wa.alloc (.cells (secL (d.sec q)).toArray 67)) := read_any p S q B pv d wa (h.frame oa (fun _ _ e => e)) hl hq
 obtain ⟨C, hC⟩ : ∃ C, C = (secL (d.sec q)).toArray := ⟨_, rfl⟩
 rw [← hC] at HRD
 obtain ⟨wb, hwb⟩ : ∃ x, x = wa.alloc (.cells C 67) := ⟨_, rfl⟩
 have ob : Only (fun _ => False) wa wb := by rw [hwb]; exact (Only.refl _ wa).alloc _
 obtain ⟨zs, hzs⟩ : ∃ x, x = secN (d.sec q) := ⟨_, rfl⟩
 have hzl : zs.length = 32 := by rw [hzs, secN_length]
 have hz256 : ∀ z ∈ zs, z < 256 := by rw [hzs]; exact secN_lt (hb.sec q)
 have hby : BytesAt wb (.slice (some ⟨N + 1, 0, none⟩) 32 32) zs := by
  rw [hzs]
  refine sec_bytes ?_ (by omega) (hb.sec q)
  intro j v hv
  rw [hwb, hC, Nat.zero_add, ← sa, cell_of_row _ _ _ _ _ _ (heap_alloc_new wa _)]
  simpa using hv
 have ba : wb.heap[N]? = some (.cells #[.int .u64 0, .int .u32 0, .int .u32 0] 74 (0, 0)) := by
  rw [ob.block N (by omega) (fun e => e), hwa, hN]; exact heap_alloc_new w _
 rw [← hwb, sa] at HRD
 rw [← hzs]
 have HBY : Hid (BytesAt wb (.slice (some ⟨N + 1, 0, none⟩) 32 32) zs) := hby
 have HNM : Hid (∀ w' k m c', Only (fun i => i = N) wb w' → k + m ≤ 32 → m ≤ 8 → m ≤ c' → Calls Tryz.prog 114 #[.slice (some ⟨N + 1, k, none⟩) m c'] w' fun e w2 => e = .returned (.int .u64 (part zs k m : Nat)) ∧ w2 = w') := fun w' k m c' ho hk hm hc' => by
  have h2 : BytesAt w' (.slice (some ⟨N + 1, 0, none⟩) 32 32) zs := hby.keep ho (fun i hi e => by simp [Value.ownBlock] at hi; omega)
  have := h2.cut k m c' (by omega) hc'
  rw [Nat.zero_add] at this
  exact snum_any _ _ w' this (by rw [List.length_take]; omega)
 have HE256 := part_lt hz256 0 8
 have HF256 := part_lt hz256 8 4
 have HC256 := part_lt hz256 12 4
 have hf32 : IntKind.u32.wrap (part zs 8 4 : Int) = (part zs 8 4 : Int) := by rw [IntKind.wrap_u32]; omega
 have hc32 : IntKind.u32.wrap (part zs 12 4 : Int) = (part zs 12 4 : Int) := by rw [IntKind.wrap_u32]; omega
 have OD : Hid (Only (fun i => i = N) wb wb.drew) := (Only.refl _ wb).drew
 have HWA : Hid (wa = w.alloc (.cells #[.int .u64 0, .int .u32 0, .int .u32 0] 74)) := hwa
 have HNN : Hid (N = w.heap.size) := hN
 have HBA : Hid (wb.heap[N]? = some (.cells #[.int .u64 0, .int .u32 0, .int .u32 0] 74 (0, 0))) := ba
 have HOB : Hid (Only (fun _ => False) w wb) := oa.trans ob (fun _ _ e => e)
 have x0 : wb.cell? ⟨N, 0, none⟩ = some (.int .u64 0) := by rw [cell_of_row _ _ _ _ _ _ ba]; rfl
 have x1 : wb.cell? ⟨N, 1, none⟩ = some (.int .u32 0) := by rw [cell_of_row _ _ _ _ _ _ ba]; rfl
 have x2 : wb.cell? ⟨N, 2, none⟩ = some (.int .u32 0) := by rw [cell_of_row _ _ _ _ _ _ ba]; rfl
 have z0 : wb.frozen? ⟨N, 0, none⟩ = false := frozen_of_row _ _ _ _ _ ba
 have z1 : wb.frozen? ⟨N, 1, none⟩ = false := frozen_of_row _ _ _ _ _ ba
 have z2 : wb.frozen? ⟨N, 2, none⟩ = false := frozen_of_row _ _ _ _ _ ba
 clear h hl hq hb hwa oa hN sa hC hwb ob hzs hzl hz256 hby ba HE256 HF256 HC256
 go_enter Tryz.func95, Tryz.ntmps95
 go_wp2_with fail
 rw [← HWA.out, ← HNN.out]
 refine (show Calls Tryz.prog 8 _ _ _ from HRD.out).mono ?_
 rintro e w1 ⟨rfl, rfl⟩
 clear HRD
 go_wp2_with fail
 go_region_held3 (fun _ => True) (trivial) (first
  | (go_at_call 114; refine (HNM.out _ _ _ _ OD.out (by omega) (by omega) (by omega)).mono ?_; rintro e w' ⟨rfl, rfl⟩))
 obtain ⟨w2, hw2⟩ : ∃ x, x = ((w1.setCell ⟨N, 0, none⟩ (.int .u64 (part zs 0 8 : Nat))).setCell ⟨N, 1, none⟩ (.int .u32 (part zs 8 4 : Nat))).setCell ⟨N, 2, none⟩ (.int .u32 (part zs 12 4 : Nat)) := ⟨_, rfl⟩
 have HW2 : Hid (w2 = ((w1.setCell ⟨N, 0, none⟩ (.int .u64 (part zs 0 8 : Nat))).setCell ⟨N, 1, none⟩ (.int .u32 (part zs 8 4 : Nat))).setCell ⟨N, 2, none⟩ (.int .u32 (part zs 12 4 : Nat))) := hw2
 have o2 : Only (fun i => i = N) w1 w2 := by
  rw [hw2]
  exact (((Only.refl (fun i => i = N) w1).setCell ⟨N, 0, none⟩ _ (fun _ => rfl)).setCell ⟨N, 1, none⟩ _ (fun _ => rfl)).setCell ⟨N, 2, none⟩ _ (fun _ => rfl)
 have OD2 : Hid (Only (fun i => i = N) w1 w2.drew) := o2.drew
 have y0 : w2.cell? ⟨N, 0, none⟩ = some (.int .u64 (part zs 0 8 : Nat)) := by rw [hw2]; simp [go_sem, x0, x1, x2]
 have y1 : w2.cell? ⟨N, 1, none⟩ = some (.int .u32 (part zs 8 4 : Nat)) := by rw [hw2]; simp [go_sem, x0, x1, x2]
 have y2 : w2.cell? ⟨N, 2, none⟩ = some (.int .u32 (part zs 12 4 : Nat)) := by rw [hw2]; simp [go_sem, x0, x1, x2]
 have v0 : w2.frozen? ⟨N, 0, none⟩ = false := by rw [hw2]; simp [go_sem, z0]
 have v1 : w2.frozen? ⟨N, 1, none⟩ = false := by rw [hw2]; simp [go_sem, z1]
 have v2 : w2.frozen? ⟨N, 2, none⟩ = false := by rw [hw2]; simp [go_sem, z2]
 clear o2 x0 x1 x2 z0 z1 z2 hw2
 go_wp2_with fail
 rw [← HW2.out]
 have OD3 : Hid (Only (fun i => i = N) w1 w2.drew.drew) := OD2.out.drew
 have HST : Hid ((Instr.storeAt 74 (.pointer (some ⟨N, 0, none⟩)) (.agg #[.int .u64 ((part zs 0 8 : Nat) : Int), .int .u32 ((part zs 8 4 : Nat) : Int), .int .u32 ((part zs 12 4 : Nat) : Int)])).run Tryz.prog w2.drew.drew = .ok () (((w2.drew.drew.setCell ⟨N, 0, none⟩ (.int .u64 ((part zs 0 8 : Nat) : Int))).setCell ⟨N, 1, none⟩ (.int .u32 ((part zs 8 4 : Nat) : Int))).setCell ⟨N, 2, none⟩ (.int .u32 ((part zs 12 4 : Nat) : Int)))) := by
  show _ = _
  go_simp
 have HY3 : Hid ((((w2.drew.drew.setCell ⟨N, 0, none⟩ (.int .u64 ((part zs 0 8 : Nat) : Int))).setCell ⟨N, 1, none⟩ (.int .u32 ((part zs 8 4 : Nat) : Int))).setCell ⟨N, 2, none⟩ (.int .u32 ((part zs 12 4 : Nat) : Int))).cell? ⟨N, 0, none⟩ = some (.int .u64 ((part zs 0 8 : Nat) : Int)) ∧ (((w2.drew.drew.setCell ⟨N, 0, none⟩ (.int .u64 ((part zs 0 8 : Nat) : Int))).setCell ⟨N, 1, none⟩ (.int .u32 ((part zs 8 4 : Nat) : Int))).setCell ⟨N, 2, none⟩ (.int .u32 ((part zs 12 4 : Nat) : Int))).cell? ⟨N, 1, none⟩ = some (.int .u32 ((part zs 8 4 : Nat) : Int)) ∧ (((w2.drew.drew.setCell ⟨N, 0, none⟩ (.int .u64 ((part zs 0 8 : Nat) : Int))).setCell ⟨N, 1, none⟩ (.int .u32 ((part zs 8 4 : Nat) : Int))).setCell ⟨N, 2, none⟩ (.int .u32 ((part zs 12 4 : Nat) : Int))).cell? ⟨N, 2, none⟩ = some (.int .u32 ((part zs 12 4 : Nat) : Int))) := by
  refine ⟨?_, ?_, ?_⟩ <;> simp [go_sem, y0, y1, y2]
 have HO3 : Hid (Only (fun _ => False) w (((w2.drew.drew.setCell ⟨N, 0, none⟩ (.int .u64 ((part zs 0 8 : Nat) : Int))).setCell ⟨N, 1, none⟩ (.int .u32 ((part zs 8 4 : Nat) : Int))).setCell ⟨N, 2, none⟩ (.int .u32 ((part zs 12 4 : Nat) : Int)))) := by
  have := (((OD3.out).setCell ⟨N, 0, none⟩ (.int .u64 ((part zs 0 8 : Nat) : Int)) (fun _ => rfl)).setCell ⟨N, 1, none⟩ (.int .u32 ((part zs 8 4 : Nat) : Int)) (fun _ => rfl)).setCell ⟨N, 2, none⟩ (.int .u32 ((part zs 12 4 : Nat) : Int)) (fun _ => rfl)
  exact HOB.out.trans this (fun i hi e => by have := HNN.out; omega)
 by_cases he : part zs 0 8 = 0
 ·have g1 : (((part zs 0 8 : Nat) : Int) != 0) = false := by rw [he]; rfl
  refine wp_region_noPanic ?_
  refine wp_region_held_drew (S := fun w' => w'.cell? ⟨N, 0, none⟩ = some (.int .u64 ((part zs 0 8 : Nat) : Int)) ∧ w'.cell? ⟨N, 1, none⟩ = some (.int .u32 ((part zs 8 4 : Nat) : Int)) ∧ w'.cell? ⟨N, 2, none⟩ = some (.int .u32 ((part zs 12 4 : Nat) : Int))) (by kernel_rfl) ?_ (fun hHeld => ?_)
  ·exact ⟨by simpa using y0, by simpa using y1, by simpa using y2⟩
  refine t8 (i := 0) (v := .agg #[.int .u64 ((part zs 0 8 : Nat) : Int), .int .u32 ((part zs 8 4 : Nat) : Int), .int .u32 ((part zs 12 4 : Nat) : Int)]) rfl hHeld ?_
  simp only [Act.put, z9]
  refine t8 (i := 1) (v := .pointer (some ⟨N, 0, none⟩)) rfl hHeld ?_
  simp only [Act.put, z9]
  refine t8 (i := 2) (v := .int .u64 ((part zs 0 8 : Nat) : Int)) rfl hHeld ?_
  simp only [Act.put, z9]
  refine t8 (i := 3) (v := .bool false) rfl hHeld ?_
  simp only [Act.put, z9]
  refine t8 (i := 4) (v := .bool false) rfl hHeld ?_
  simp only [Act.put, z9]
  refine t9 (i := 5) rfl hHeld ?_
  simp only [Act.put, z9]
  refine t9 (i := 6) rfl hHeld ?_
  simp only [Act.put, z9]
  refine t9 (i := 7) rfl hHeld ?_
  simp only [Act.put, z9]
  refine t9 (i := 8) rfl hHeld ?_
  simp only [Act.put, z9]
  refine t8 (i := 9) (v := .bool false) rfl hHeld ?_
  simp only [Act.put, z9]
  refine t8 (i := 10) (v := .bool false) rfl hHeld ?_
  simp only [Act.put, z9]
  refine t9 (i := 11) rfl hHeld ?_
  simp only [Act.put, z9]
  refine t9 (i := 12) rfl hHeld ?_
  simp only [Act.put, z9]
  refine t9 (i := 13) rfl hHeld ?_
  simp only [Act.put, z9]
  refine t9 (i := 14) rfl hHeld ?_
  simp only [Act.put, z9]
  refine t9 (i := 15) rfl hHeld ?_
  simp only [Act.put, z9]
  refine t9 (i := 16) rfl hHeld ?_
  simp only [Act.put, z9]
  refine t8 (i := 17) (v := .bool false) rfl hHeld ?_
  simp only [Act.put, z9]
  refine wpAnyH_ready (rs := [18]) (by kernel_rfl) (by simp) ?_
  refine AllReadyH.cons rfl (fun K hK => ?_) AllReadyH.nil
  rw [if_pos (by rfl)]
  refine wp_unit rfl (HST.out) ?_
  refine hK.out _ _ HY3.out (fun hHeld => ?_)
  clear hK K
  simp only [Act.put, z9]
  refine t8 (i := 19) (v := .bool false) rfl hHeld ?_
  simp only [Act.put, z9]
  refine wpAnyH_done (by kernel_rfl) ?_ _
  refine NoPanic.normal ?_
  go_wp2
  have HOK : Hid (rtOk zs = false) := by
   show rtOk zs = _
   unfold rtOk
   simp [he]
  refine bodyPost_ret (results_root rfl _ _ ⟨N, 0, none⟩ HY3.out rfl) rfl ?_
  rw [HOK.out]
  exact ⟨rfl, HO3.out⟩
 by_cases hz : part zs 16 8 = 0
 ·have g1 : (((part zs 0 8 : Nat) : Int) != 0) = true := by simpa using he
  have g2 : (((part zs 16 8 : Nat) : Int) == 0) = true := by simpa using hz
  refine wp_region_noPanic ?_
  refine wp_region_held_drew (S := fun w' => w'.cell? ⟨N, 0, none⟩ = some (.int .u64 ((part zs 0 8 : Nat) : Int)) ∧ w'.cell? ⟨N, 1, none⟩ = some (.int .u32 ((part zs 8 4 : Nat) : Int)) ∧ w'.cell? ⟨N, 2, none⟩ = some (.int .u32 ((part zs 12 4 : Nat) : Int))) (by kernel_rfl) ?_ (fun hHeld => ?_)
  ·exact ⟨by simpa using y0, by simpa using y1, by simpa using y2⟩
  refine t8 (i := 0) (v := .agg #[.int .u64 ((part zs 0 8 : Nat) : Int), .int .u32 ((part zs 8 4 : Nat) : Int), .int .u32 ((part zs 12 4 : Nat) : Int)]) rfl hHeld ?_
  simp only [Act.put, z9]
  refine t8 (i := 1) (v := .pointer (some ⟨N, 0, none⟩)) rfl hHeld ?_
  simp only [Act.put, z9]
  refine t8 (i := 2) (v := .int .u64 ((part zs 0 8 : Nat) : Int)) rfl hHeld ?_
  simp only [Act.put, z9]
  refine t8 (i := 3) (v := .bool true) rfl hHeld ?_
  simp only [Act.put, z9]
  refine t8 (i := 4) (v := .bool true) rfl hHeld ?_
  simp only [Act.put, z9]
  refine t8 (i := 5) (v := .slice (some ⟨N + 1, 0, none⟩) 32 32) rfl hHeld ?_
  simp only [Act.put, z9]
  refine t8 (i := 6) (v := .slice (some ⟨N + 1, 16, none⟩) 8 16) rfl hHeld ?_
  simp only [Act.put, z9]
  refine wpAnyH_ready (rs := [7]) (by kernel_rfl) (by simp) ?_
  refine AllReadyH.cons rfl (fun K hK => ?_) AllReadyH.nil
  rw [if_pos (by rfl)]
  refine wp_call_func #[.tmp 35] #[37] rfl #[.slice (some ⟨N + 1, 16, none⟩) 8 16] (by simp [Act.eval]) (enters_of Tryz.func114 (by kernel_rfl) rfl) (HNM.out _ 16 8 16 OD3.out (by omega) (by omega) (by omega)) (fun e W4 he4 => ?_)
  obtain ⟨rfl, rfl⟩ := he4
  refine ⟨_, rfl, ?_⟩
  refine hK.out _ _ hHeld (fun hHeld => ?_)
  clear hK K
  simp only [Act.put, z9]
  refine t8 (i := 8) (v := .bool true) rfl hHeld ?_
  simp only [Act.put, z9]
  refine t8 (i := 9) (v := .bool true) rfl hHeld ?_
  simp only [Act.put, z9]
  refine t8 (i := 10) (v := .bool true) rfl hHeld ?_
  simp only [Act.put, z9]
  refine t8 (i := 11) (v := .slice (some ⟨N + 1, 0, none⟩) 32 32) rfl hHeld ?_
  simp only [Act.put, z9]
  refine t8 (i := 12) (v := .slice (some ⟨N + 1, 24, none⟩) 8 8) rfl hHeld ?_
  simp only [Act.put, z9]
  refine t8 (i := 14) (v := .pointer (some ⟨N, 0, none⟩)) rfl hHeld ?_
  simp only [Act.put, z9]
  refine t8 (i := 15) (v := .int .u64 ((part zs 0 8 : Nat) : Int)) rfl hHeld ?_
  simp only [Act.put, z9]
  refine wpAnyH_ready (rs := [13]) (by kernel_rfl) (by simp) ?_
  refine AllReadyH.cons rfl (fun K hK => ?_) AllReadyH.nil
  rw [if_pos (by rfl)]
  refine wp_call_func #[.tmp 41] #[37] rfl #[.slice (some ⟨N + 1, 24, none⟩) 8 8] (by simp [Act.eval]) (enters_of Tryz.func114 (by kernel_rfl) rfl) (HNM.out _ 24 8 8 OD3.out (by omega) (by omega) (by omega)) (fun e W4 he4 => ?_)
  obtain ⟨rfl, rfl⟩ := he4
  refine ⟨_, rfl, ?_⟩
  refine hK.out _ _ hHeld (fun hHeld => ?_)
  clear hK K
  simp only [Act.put, z9]
  refine t8 (i := 16) (v := .bool (((part zs 24 8 : Nat) : Int) == ((part zs 0 8 : Nat) : Int))) rfl hHeld ?_
  simp only [Act.put, z9]
  refine t8 (i := 17) (v := .bool (((part zs 24 8 : Nat) : Int) == ((part zs 0 8 : Nat) : Int))) rfl hHeld ?_
  simp only [Act.put, z9]
  refine wpAnyH_ready (rs := [18]) (by kernel_rfl) (by simp) ?_
  refine AllReadyH.cons rfl (fun K hK => ?_) AllReadyH.nil
  rw [if_pos (by rfl)]
  refine wp_unit rfl (HST.out) ?_
  refine hK.out _ _ HY3.out (fun hHeld => ?_)
  clear hK K
  simp only [Act.put, z9]
  refine t8 (i := 19) (v := .bool (((part zs 24 8 : Nat) : Int) == ((part zs 0 8 : Nat) : Int))) rfl hHeld ?_
  simp only [Act.put, z9]
  refine wpAnyH_done (by kernel_rfl) ?_ _
  refine NoPanic.normal ?_
  go_wp2
  have HOK : Hid (rtOk zs = (((part zs 24 8 : Nat) : Int) == ((part zs 0 8 : Nat) : Int))) := by
   show rtOk zs = _
   unfold rtOk
   rw [show (part zs 0 8 != 0) = true by simpa using he, show (part zs 16 8 == 0) = true by simpa using hz, Bool.true_and, Bool.true_and, Bool.eq_iff_iff]; simp; omega
  refine bodyPost_ret (results_root rfl _ _ ⟨N, 0, none⟩ HY3.out rfl) rfl ?_
  rw [HOK.out]
  exact ⟨rfl, HO3.out⟩
 ·have g1 : (((part zs 0 8 : Nat) : Int) != 0) = true := by simpa using he
  have g2 : (((part zs 16 8 : Nat) : Int) == 0) = false := by simpa using hz
  refine wp_region_noPanic ?_
  refine wp_region_held_drew (S := fun w' => w'.cell? ⟨N, 0, none⟩ = some (.int .u64 ((part zs 0 8 : Nat) : Int)) ∧ w'.cell? ⟨N, 1, none⟩ = some (.int .u32 ((part zs 8 4 : Nat) : Int)) ∧ w'.cell? ⟨N, 2, none⟩ = some (.int .u32 ((part zs 12 4 : Nat) : Int))) (by kernel_rfl) ?_ (fun hHeld => ?_)
  ·exact ⟨by simpa using y0, by simpa using y1, by simpa using y2⟩
  refine t8 (i := 0) (v := .agg #[.int .u64 ((part zs 0 8 : Nat) : Int), .int .u32 ((part zs 8 4 : Nat) : Int), .int .u32 ((part zs 12 4 : Nat) : Int)]) rfl hHeld ?_
  simp only [Act.put, z9]
  refine t8 (i := 1) (v := .pointer (some ⟨N, 0, none⟩)) rfl hHeld ?_
  simp only [Act.put, z9]
  refine t8 (i := 2) (v := .int .u64 ((part zs 0 8 : Nat) : Int)) rfl hHeld ?_
  simp only [Act.put, z9]
  refine t8 (i := 3) (v := .bool true) rfl hHeld ?_
  simp only [Act.put, z9]
  refine t8 (i := 4) (v := .bool true) rfl hHeld ?_
  simp only [Act.put, z9]
  refine t8 (i := 5) (v := .slice (some ⟨N + 1, 0, none⟩) 32 32) rfl hHeld ?_
  simp only [Act.put, z9]
  refine t8 (i := 6) (v := .slice (some ⟨N + 1, 16, none⟩) 8 16) rfl hHeld ?_
  simp only [Act.put, z9]
  refine wpAnyH_ready (rs := [7]) (by kernel_rfl) (by simp) ?_
  refine AllReadyH.cons rfl (fun K hK => ?_) AllReadyH.nil
  rw [if_pos (by rfl)]
  refine wp_call_func #[.tmp 35] #[37] rfl #[.slice (some ⟨N + 1, 16, none⟩) 8 16] (by simp [Act.eval]) (enters_of Tryz.func114 (by kernel_rfl) rfl) (HNM.out _ 16 8 16 OD3.out (by omega) (by omega) (by omega)) (fun e W4 he4 => ?_)
  obtain ⟨rfl, rfl⟩ := he4
  refine ⟨_, rfl, ?_⟩
  refine hK.out _ _ hHeld (fun hHeld => ?_)
  clear hK K
  simp only [Act.put, z9]
  refine t8 (i := 8) (v := .bool false) rfl hHeld ?_
  simp only [Act.put, z9]
  refine t8 (i := 9) (v := .bool false) rfl hHeld ?_
  simp only [Act.put, z9]
  refine t8 (i := 10) (v := .bool false) rfl hHeld ?_
  simp only [Act.put, z9]
  refine t9 (i := 11) rfl hHeld ?_
  simp only [Act.put, z9]
  refine t9 (i := 12) rfl hHeld ?_
  simp only [Act.put, z9]
  refine t9 (i := 13) rfl hHeld ?_
  simp only [Act.put, z9]
  refine t9 (i := 14) rfl hHeld ?_
  simp only [Act.put, z9]
  refine t9 (i := 15) rfl hHeld ?_
  simp only [Act.put, z9]
  refine t9 (i := 16) rfl hHeld ?_
  simp only [Act.put, z9]
  refine t8 (i := 17) (v := .bool false) rfl hHeld ?_
  simp only [Act.put, z9]
  refine wpAnyH_ready (rs := [18]) (by kernel_rfl) (by simp) ?_
  refine AllReadyH.cons rfl (fun K hK => ?_) AllReadyH.nil
  rw [if_pos (by rfl)]
  refine wp_unit rfl (HST.out) ?_
  refine hK.out _ _ HY3.out (fun hHeld => ?_)
  clear hK K
  simp only [Act.put, z9]
  refine t8 (i := 19) (v := .bool false) rfl hHeld ?_
  simp only [Act.put, z9]
  refine wpAnyH_done (by kernel_rfl) ?_ _
  refine NoPanic.normal ?_
  go_wp2
  have HOK : Hid (rtOk zs = false) := by
   show rtOk zs = _
   unfold rtOk
   simp [hz]
  refine bodyPost_ret (results_root rfl _ _ ⟨N, 0, none⟩ HY3.out rfl) rfl ?_
  rw [HOK.out]
  exact ⟨rfl, HO3.out⟩
end Go.Proofs.YtlcglapcmdpkfaaGreat
