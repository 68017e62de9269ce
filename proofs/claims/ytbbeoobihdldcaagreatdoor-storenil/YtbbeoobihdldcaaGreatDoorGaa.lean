/-                   -/
import Derived.Shelf.SlIterI.Nil
import Derived.Shelf.SortM.Plain
import Derived.Shelf.SortM.SortNone
import Derived.Test.YtbbeoobihdldcaaGreatDoorProg
import Derived.WalkKit
import Derived.WalkSpells
import Derived.WalkLawsBesides
import Derived.OneCell
import Derived.Deep.MidRow
import Derived.Deep.AppendLies
import Derived.Deep.Upon
import Derived.Deep.WholeRow
import Derived.Deep.RegionHeld3
import Derived.Test.YtbbeoobihdldcaaGreatDoorRows
import Derived.Deep.QuietTactic
import Derived.BigQuiet
import Derived.RangeFuncNested
import Derived.RangeFuncBound
import Derived.RangeFuncCalls
import Derived.RangeFuncLeaves
import Derived.RangeFuncBox
import Derived.Shelf.Abstract
import Derived.Shelf.RegionOpen
import Derived.OwnWalkIn
import Derived.TacticsInMore
import Derived.LoopNIn
import Derived.LoopIn
import Derived.Laws.IdiomRangeMap
import Derived.Maps.AppendAt
import Derived.Deep.RegionWith
import Derived.Deep.RegionLaw
import Derived.Lib.AppendZerosOnto
namespace Go.Proofs
open Go.Shelf
def Tryz.keysA_ren : Go.Shelf.Ren := ⟨fun | 7 => 55 | 10 => 97 | n => n, fun | 23 => 108 | 26 => 3 | 3 => 3 | 28 => 106 | 0 => 0 | 27 => 105 | 33 => 122 | 4 => 4 | n => n, fun | n => n⟩
theorem Tryz.keysA : Go.Proofs.SlLaysZI.n7 Tryz.prog Tryz.keysA_ren := {
 mixed := by kernel_rfl
 f7 := ⟨Tryz.f55.name, by decide, Tryz.func55.trans (congrArg some (by kernel_rfl))⟩
 f10 := ⟨Tryz.f97.name, by decide, Tryz.func97.trans (congrArg some (by kernel_rfl))⟩
 t0 := Tryz.underlying0
 a0 := Tryz.isAgg0
 z0 := Tryz.sizeOf0
 v0 := Tryz.zeroValue0
 t4 := Tryz.underlying4
 a4 := Tryz.isAgg4
 z4 := Tryz.sizeOf4
 v4 := Tryz.zeroValue4
 t23 := Tryz.underlying108
 a23 := Tryz.isAgg108
 z23 := Tryz.sizeOf108
 v23 := Tryz.zeroValue108
 t26 := Tryz.underlying3
 a26 := Tryz.isAgg3
 z26 := Tryz.sizeOf3
 v26 := Tryz.zeroValue3
 t27 := Tryz.underlying105
 a27 := Tryz.isAgg105
 z27 := Tryz.sizeOf105
 v27 := Tryz.zeroValue105
 t28 := Tryz.underlying106
 a28 := Tryz.isAgg106
 z28 := Tryz.sizeOf106
 v28 := Tryz.zeroValue106
 t33 := Tryz.underlying122
 a33 := Tryz.isAgg122
 z33 := Tryz.sizeOf122
 v33 := Tryz.zeroValue122 }
def Tryz.sortedA_ren : Go.Shelf.Ren := ⟨fun | 6 => 54 | 8 => 95 | 9 => 96 | 11 => 59 | 13 => 92 | 12 => 124 | 23 => 121 | 24 => 122 | 14 => 144 | 15 => 145 | 16 => 146 | 17 => 147 | 18 => 148 | 19 => 149 | 20 => 150 | 21 => 151 | 22 => 152 | 25 => 159 | 26 => 139 | 27 => 140 | 28 => 160 | 29 => 161 | 30 => 162 | 31 => 169 | n => n, fun | 26 => 3 | 28 => 106 | 24 => 103 | 0 => 0 | 3 => 3 | 37 => 163 | 48 => 192 | 50 => 70 | 4 => 4 | 40 => 185 | 39 => 184 | 45 => 90 | 5 => 5 | 9 => 9 | 51 => 210 | 55 => 213 | 57 => 226 | 58 => 227 | 33 => 122 | n => n, fun | n => n⟩
theorem Tryz.sortedA : Go.Proofs.SlLaysZI.n6 Tryz.prog Tryz.sortedA_ren := {
 mixed := by kernel_rfl
 f6 := ⟨Tryz.f54.name, by decide, Tryz.func54.trans (congrArg some (by kernel_rfl))⟩
 f8 := ⟨Tryz.f95.name, by decide, Tryz.func95.trans (congrArg some (by kernel_rfl))⟩
 f11 := ⟨Tryz.f59.name, by decide, Tryz.func59.trans (congrArg some (by kernel_rfl))⟩
 t0 := Tryz.underlying0
 a0 := Tryz.isAgg0
 z0 := Tryz.sizeOf0
 v0 := Tryz.zeroValue0
 t24 := Tryz.underlying103
 a24 := Tryz.isAgg103
 z24 := Tryz.sizeOf103
 v24 := Tryz.zeroValue103
 t26 := Tryz.underlying3
 a26 := Tryz.isAgg3
 z26 := Tryz.sizeOf3
 v26 := Tryz.zeroValue3
 t28 := Tryz.underlying106
 a28 := Tryz.isAgg106
 z28 := Tryz.sizeOf106
 v28 := Tryz.zeroValue106
 i26 := by kernel_rfl }
def Tryz.sortA_ren : Go.Shelf.Ren := ⟨fun | 5 => 96 | 8 => 92 | 7 => 124 | 19 => 121 | 20 => 122 | 10 => 144 | 11 => 145 | 12 => 146 | 13 => 147 | 14 => 148 | 15 => 149 | 16 => 150 | 17 => 151 | 18 => 152 | 30 => 159 | 31 => 139 | 32 => 140 | 33 => 160 | 34 => 161 | 35 => 162 | 40 => 169 | n => n, fun | 23 => 103 | 25 => 3 | 3 => 3 | 32 => 163 | 22 => 103 | 0 => 0 | 44 => 192 | 46 => 70 | 4 => 4 | 36 => 185 | 35 => 184 | 41 => 90 | 5 => 5 | 9 => 9 | 53 => 210 | 57 => 213 | 63 => 226 | 64 => 227 | n => n, fun | n => n⟩
theorem Tryz.sortA : Go.Proofs.SlLaysM.n5 Tryz.prog Tryz.sortA_ren := {
 mixed := by kernel_rfl
 f5 := ⟨Tryz.f96.name, by decide, Tryz.func96.trans (congrArg some (by kernel_rfl))⟩
 f7 := ⟨Tryz.f124.name, by decide, Tryz.func124.trans (congrArg some (by kernel_rfl))⟩
 f8 := Tryz.func92.trans (congrArg some (by kernel_rfl))
 f10 := ⟨Tryz.f144.name, by decide, Tryz.func144.trans (congrArg some (by kernel_rfl))⟩
 f11 := ⟨Tryz.f145.name, by decide, Tryz.func145.trans (congrArg some (by kernel_rfl))⟩
 f12 := ⟨Tryz.f146.name, by decide, Tryz.func146.trans (congrArg some (by kernel_rfl))⟩
 f13 := ⟨Tryz.f147.name, by decide, Tryz.func147.trans (congrArg some (by kernel_rfl))⟩
 f14 := ⟨Tryz.f148.name, by decide, Tryz.func148.trans (congrArg some (by kernel_rfl))⟩
 f15 := ⟨Tryz.f149.name, by decide, Tryz.func149.trans (congrArg some (by kernel_rfl))⟩
 f16 := ⟨Tryz.f150.name, by decide, Tryz.func150.trans (congrArg some (by kernel_rfl))⟩
 f17 := ⟨Tryz.f151.name, by decide, Tryz.func151.trans (congrArg some (by kernel_rfl))⟩
 f18 := ⟨Tryz.f152.name, by decide, Tryz.func152.trans (congrArg some (by kernel_rfl))⟩
 f19 := Tryz.func121.trans (congrArg some (by kernel_rfl))
 f20 := Tryz.func122.trans (congrArg some (by kernel_rfl))
 f30 := ⟨Tryz.f159.name, by decide, Tryz.func159.trans (congrArg some (by kernel_rfl))⟩
 f31 := Tryz.func139.trans (congrArg some (by kernel_rfl))
 f32 := Tryz.func140.trans (congrArg some (by kernel_rfl))
 f33 := ⟨Tryz.f160.name, by decide, Tryz.func160.trans (congrArg some (by kernel_rfl))⟩
 f34 := ⟨Tryz.f161.name, by decide, Tryz.func161.trans (congrArg some (by kernel_rfl))⟩
 f35 := ⟨Tryz.f162.name, by decide, Tryz.func162.trans (congrArg some (by kernel_rfl))⟩
 f40 := ⟨Tryz.f169.name, by decide, Tryz.func169.trans (congrArg some (by kernel_rfl))⟩
 t0 := Tryz.underlying0
 a0 := Tryz.isAgg0
 z0 := Tryz.sizeOf0
 v0 := Tryz.zeroValue0
 t3 := Tryz.underlying3
 a3 := Tryz.isAgg3
 z3 := Tryz.sizeOf3
 v3 := Tryz.zeroValue3
 t4 := Tryz.underlying4
 a4 := Tryz.isAgg4
 z4 := Tryz.sizeOf4
 v4 := Tryz.zeroValue4
 t5 := Tryz.underlying5
 a5 := Tryz.isAgg5
 z5 := Tryz.sizeOf5
 v5 := Tryz.zeroValue5
 t9 := Tryz.underlying9
 a9 := Tryz.isAgg9
 z9 := Tryz.sizeOf9
 v9 := Tryz.zeroValue9
 t22 := Tryz.underlying103
 a22 := Tryz.isAgg103
 z22 := Tryz.sizeOf103
 v22 := Tryz.zeroValue103
 t23 := Tryz.underlying103
 a23 := Tryz.isAgg103
 z23 := Tryz.sizeOf103
 v23 := Tryz.zeroValue103
 t25 := Tryz.underlying3
 a25 := Tryz.isAgg3
 z25 := Tryz.sizeOf3
 v25 := Tryz.zeroValue3
 t32 := Tryz.underlying163
 a32 := Tryz.isAgg163
 z32 := Tryz.sizeOf163
 v32 := Tryz.zeroValue163
 t35 := Tryz.underlying184
 a35 := Tryz.isAgg184
 z35 := Tryz.sizeOf184
 v35 := Tryz.zeroValue184
 t36 := Tryz.underlying185
 a36 := Tryz.isAgg185
 z36 := Tryz.sizeOf185
 v36 := Tryz.zeroValue185
 t41 := Tryz.underlying90
 a41 := Tryz.isAgg90
 z41 := Tryz.sizeOf90
 v41 := Tryz.zeroValue90
 t44 := Tryz.underlying192
 a44 := Tryz.isAgg192
 z44 := Tryz.sizeOf192
 v44 := Tryz.zeroValue192
 t46 := Tryz.underlying70
 a46 := Tryz.isAgg70
 z46 := Tryz.sizeOf70
 v46 := Tryz.zeroValue70
 t53 := Tryz.underlying210
 a53 := Tryz.isAgg210
 z53 := Tryz.sizeOf210
 v53 := Tryz.zeroValue210
 t57 := Tryz.underlying213
 a57 := Tryz.isAgg213
 z57 := Tryz.sizeOf213
 v57 := Tryz.zeroValue213
 t63 := Tryz.underlying226
 a63 := Tryz.isAgg226
 z63 := Tryz.sizeOf226
 v63 := Tryz.zeroValue226
 t64 := Tryz.underlying227
 a64 := Tryz.isAgg227
 z64 := Tryz.sizeOf227
 v64 := Tryz.zeroValue227 }
end Go.Proofs
namespace Go.Proofs.YtbbeoobihdldcaaGreatDoor
open Go.RowKit
structure Only (bs : Nat → Prop) (w w' : World) : Prop where
 os : w'.os = w.os
 tape : w'.tape = w.tape
 output : w'.output = w.output
 size : w.heap.size ≤ w'.heap.size
 block : ∀ k, k < w.heap.size → ¬ bs k → w'.heap[k]? = w.heap[k]?
theorem Only.refl (bs : Nat → Prop) (w : World) : Only bs w w := ⟨rfl, rfl, rfl, Nat.le_refl _, fun _ _ _ => rfl⟩
theorem Only.mono {bs bs' : Nat → Prop} {w w' : World} (h : Only bs w w') (hb : ∀ k, k < w.heap.size → bs k → bs' k) : Only bs' w w' :=
 ⟨h.os, h.tape, h.output, h.size, fun k hk hn => h.block k hk (fun e => hn (hb k hk e))⟩
theorem Only.trans {bs bs' : Nat → Prop} {a b c : World} (h : Only bs a b) (k : Only bs' b c) (hb : ∀ i, i < a.heap.size → bs' i → bs i) : Only bs a c :=
 ⟨k.os.trans h.os, k.tape.trans h.tape, k.output.trans h.output, Nat.le_trans h.size k.size,
  fun i hi hn => (k.block i (Nat.lt_of_lt_of_le hi h.size) (fun e => hn (hb i hi e))).trans (h.block i hi hn)⟩
theorem Only.drew {bs : Nat → Prop} {a w : World} (h : Only bs a w) : Only bs a w.drew := ⟨h.os, h.tape, h.output, h.size, h.block⟩
theorem Only.alloc {bs : Nat → Prop} {a w : World} (h : Only bs a w) (o : Obj) : Only bs a (w.alloc o) :=
 ⟨h.os, h.tape, h.output, by have := h.size; simp; omega, fun k hk hn => (Below.heap_alloc _ _ _ (Nat.lt_of_lt_of_le hk h.size)).trans (h.block k hk hn)⟩
theorem Only.setCell {bs : Nat → Prop} {a w : World} (h : Only bs a w) (p : Addr) (u : Value) (hp : p.block < a.heap.size → bs p.block) : Only bs a (w.setCell p u) :=
 ⟨h.os, h.tape, h.output, by have := h.size; simpa [World.setCell] using this, fun k hk hn => (Below.heap_setCell w p u k (fun e => hn (by rw [e]; exact hp (by rw [← e]; exact hk)))).trans (h.block k hk hn)⟩
theorem setCells_same (b : Nat) : ∀ (vs : List Value) (o : Nat) (w : World), (w.setCells b o vs).os = w.os ∧ (w.setCells b o vs).tape = w.tape ∧ (w.setCells b o vs).output = w.output ∧ (w.setCells b o vs).heap.size = w.heap.size
 | [], _, _ => ⟨rfl, rfl, rfl, rfl⟩
 | v :: r, o, w => by
   obtain ⟨h1, h2, h3, h4⟩ := setCells_same b r (o + 1) (w.setCell ⟨b, o, none⟩ v)
   exact ⟨h1, h2, h3, h4.trans (by simp [World.setCell])⟩
theorem Only.setCells {bs : Nat → Prop} {a w : World} (h : Only bs a w) (b o : Nat) (vs : List Value) (hp : b < a.heap.size → bs b) : Only bs a (w.setCells b o vs) := by
 obtain ⟨h1, h2, h3, h4⟩ := setCells_same b vs o w
 exact ⟨h1.trans h.os, h2.trans h.tape, h3.trans h.output, h4 ▸ h.size, fun k hk hn =>
  (World.heap_setCells_other w b o vs (Nat.lt_of_lt_of_le hk h.size) (fun e => hn (e ▸ hp (e ▸ hk)))).trans (h.block k hk hn)⟩
theorem Only.grown {bs : Nat → Prop} {a w w' : World} {row : Option Nat} (h : Only bs a w) (hg : w.grownBy w' row) (hr : ∀ k, row = some k → k < a.heap.size → bs k) : Only bs a w' :=
 ⟨hg.os.trans h.os, hg.tape.trans h.tape, hg.output.trans h.output, Nat.le_trans h.size hg.size,
  fun k hk hn => (hg.block k (Nat.lt_of_lt_of_le hk h.size) (fun e => hn (hr k e.symm hk))).trans (h.block k hk hn)⟩
theorem Only.cell {bs : Nat → Prop} {w w' : World} (h : Only bs w w') {a : Addr} {v : Value} (hc : w.cell? a = some v) (hn : ¬ bs a.block) : w'.cell? a = some v :=
 (World.cell?_of_block (w := w) (h.block a.block (World.block_lt_of_cell? w a hc) hn)).trans hc
theorem Only.frozen {bs : Nat → Prop} {w w' : World} (h : Only bs w w') {a : Addr} (hl : a.block < w.heap.size) (hn : ¬ bs a.block) : w'.frozen? a = w.frozen? a :=
 World.frozen?_of_block (w := w) (h.block a.block hl hn)
theorem Only.range {bs : Nat → Prop} {w w' : World} (h : Only bs w w') {b o : Nat} {cs : List Value} (hc : w.rangeAt b o cs) (hn : ¬ bs b) : w'.rangeAt b o cs :=
 fun j v hv => h.cell (a := ⟨b, o + j, none⟩) (hc j v hv) hn
theorem Only.there {bs : Nat → Prop} {w w' : World} (h : Only bs w w') {b o n : Nat} (hc : w.there b o n) (hn : ¬ bs b) : w'.there b o n := fun j hj => by
 obtain ⟨h1, h2⟩ := hc j hj
 obtain ⟨u, hu⟩ := Option.isSome_iff_exists.1 h1
 exact ⟨by rw [h.cell hu hn]; rfl, by rw [h.frozen (World.block_lt_of_cell? w _ hu) hn]; exact h2⟩
theorem Only.owns {bs : Nat → Prop} {w w' : World} (h : Only bs w w') {B e size n : Nat} {v : Value} {xs : List Value} (ho : w.ownsRow B e size v n xs) (hn : ∀ k, v.ownBlock = some k → ¬ bs k) : w'.ownsRow B e size v n xs := by
 refine ⟨ho.1, ?_⟩
 rcases ho.2 with hz | ⟨g, cap, cur, hv, hb, hg, rest⟩
 ·exact .inl hz
 ·refine .inr ⟨g, cap, cur, hv, hb, ?_, rest⟩
  have hl : g < w.heap.size := by
   rcases Nat.lt_or_ge g w.heap.size with hlt | hge
   ·exact hlt
   ·simp [Array.getElem?_eq_none hge] at hg
  rw [h.block g hl (hn g (by rw [hv]; rfl))]; exact hg
theorem ownsRow_slice {w : World} {B e size n : Nat} {v : Value} {xs : List Value} (h : w.ownsRow B e size v n xs) : ∃ a c, v = .slice a n c := by
 rcases h.2 with ⟨h1, h2⟩ | ⟨g, cap, cur, h1, _⟩
 ·exact ⟨none, 0, by rw [h1, h2]⟩
 ·exact ⟨_, _, h1⟩
end Go.Proofs.YtbbeoobihdldcaaGreatDoor
namespace Go.Proofs.YtbbeoobihdldcaaGreatDoor
open Go.RowKit
theorem z9 {α : Type} : (∀ (l : List α) (i : Nat) (a : α), l.toArray.setIfInBounds i a = (l.set i a).toArray) ∧ (∀ (a b : α) (l : List α), (a :: l).set 0 b = b :: l) ∧ (∀ (a b : α) (n : Nat) (l : List α), (a :: l).set (n + 1) b = a :: l.set n b) ∧ (∀ (l : List α) (i : Nat) (h : i < l.toArray.size), l.toArray[i] = l[i]'(by simpa using h)) ∧ (∀ (a : α) (l : List α) (h : 0 < (a :: l).length), (a :: l)[0] = a) ∧ (∀ (a : α) (l : List α) (i : Nat) (h : i + 1 < (a :: l).length), (a :: l)[i + 1] = l[i]'(by simpa using h)) := ⟨fun _ _ _ => by simp, fun _ _ _ => rfl, fun _ _ _ _ => rfl, fun _ _ _ => by simp, fun _ _ _ => rfl, fun _ _ _ _ => rfl⟩
section
variable {P : Program} {ops : Array Oper} {S : World → Prop} {md : Region.Mode} {Q : Exit → Act → World → Prop}
theorem t8 {i : Nat} {oi : Oper} {v : Value} {fuel : Nat} {listed : Array Bool} {a : Act} {w : World} (hi : ops[i]? = some oi)
 (hS : S w) (h : wpAnyH P md ops Q S fuel (listed.setIfInBounds i true) (a.put oi.dst v) w)
 (hy : YieldsIf P ops S oi v a := by exact Or.inl ⟨by rfl, fun wx hSw => by go_simp⟩)
 (hc : (Region.noSelect ops && Region.free md ops listed i && (Region.ready md ops listed).contains i) = true := by kernel_rfl)
 (hQ : ∀ c a w, Q (.panic c) (a.put oi.dst v) w → Q (.panic c) a w := by exact fun _ _ _ h => h) : wpAnyH P md ops Q S (fuel + 1) listed a w := by
 simp only [Bool.and_eq_true] at hc
 exact wpAnyH_take hi hc.1.1 hc.1.2 hc.2 hQ hy hS h
theorem t9 {i : Nat} {oi : Oper} {fuel : Nat} {listed : Array Bool} {a : Act} {w : World} (hi : ops[i]? = some oi)
 (hS : S w) (h : wpAnyH P md ops Q S fuel (listed.setIfInBounds i true) (a.put oi.dst undef) w)
 (hy : YieldsIf P ops S oi undef a := by exact Or.inr ⟨by rfl, rfl⟩)
 (hc : (Region.noSelect ops && Region.free md ops listed i && (Region.ready md ops listed).contains i) = true := by kernel_rfl)
 (hQ : ∀ c a w, Q (.panic c) (a.put oi.dst undef) w → Q (.panic c) a w := by exact fun _ _ _ h => h) : wpAnyH P md ops Q S (fuel + 1) listed a w := by
 simp only [Bool.and_eq_true] at hc
 exact wpAnyH_take hi hc.1.1 hc.1.2 hc.2 hQ hy hS h
end
end Go.Proofs.YtbbeoobihdldcaaGreatDoor
namespace Go.Proofs.YtbbeoobihdldcaaGreatDoor
open Go.RowKit
set_option linter.unusedSimpArgs false
set_option linter.unusedVariables false
theorem results_four {fn : Func} {a b c d : Tmp} (h : fn.results = #[.tmp a, .tmp b, .tmp c, .tmp d]) (tmps : Array Value) (w : World) : (results fn tmps).run Tryz.prog w = .ok (.tuple #[tmps.getD a undef, tmps.getD b undef, tmps.getD c undef, tmps.getD d undef]) w := by
 simp [results, h, go_sem]
end Go.Proofs.YtbbeoobihdldcaaGreatDoor
namespace Go.Proofs.YtbbeoobihdldcaaGreatDoor
open Go.RowKit
set_option linter.unusedSimpArgs false
set_option linter.unusedVariables false
structure HpE (w : World) (h m : Nat) (ov yv rv : Value) : Prop where
 hb : w.heap[h]? = some (.cells #[ov, yv, .map (some m), .int .i64 9, rv] 68)
 mb : ∃ c, w.heap[m]? = some (.map #[] c)
 ne : h ≠ m
theorem hb_cell {w : World} {b : Nat} {c : Array Value} {T : TypeId} (h : w.heap[b]? = some (.cells c T)) (j : Nat) : w.cell? ⟨b, j, none⟩ = c[j]? := by
 simp [World.cell?, h]
theorem hb_froz {w : World} {b : Nat} {c : Array Value} {T : TypeId} (h : w.heap[b]? = some (.cells c T)) (j : Nat) : w.frozen? ⟨b, j, none⟩ = false := by
 simp [World.frozen?, h]
theorem HpE.cells {w : World} {h m : Nat} {ov yv rv : Value} (g : HpE w h m ov yv rv) : w.cell? ⟨h, 0, none⟩ = some ov ∧ w.cell? ⟨h, 1, none⟩ = some yv ∧ w.cell? ⟨h, 2, none⟩ = some (.map (some m)) ∧ w.cell? ⟨h, 3, none⟩ = some (.int .i64 9) ∧ w.cell? ⟨h, 4, none⟩ = some rv :=
 ⟨hb_cell g.hb 0, hb_cell g.hb 1, hb_cell g.hb 2, hb_cell g.hb 3, hb_cell g.hb 4⟩
theorem HpE.only {w w' : World} {h m : Nat} {ov yv rv : Value} (g : HpE w h m ov yv rv) (o : Only (fun _ => False) w w') : HpE w' h m ov yv rv := by
 refine ⟨(o.block h (Array.getElem?_eq_some_iff.1 g.hb).1 (fun g => g)).trans g.hb, ?_, g.ne⟩
 obtain ⟨c, hc⟩ := g.mb
 exact ⟨c, (o.block m (Array.getElem?_eq_some_iff.1 hc).1 (fun g => g)).trans hc⟩
theorem results_sp {fn : Func} {u : Tmp} (h : fn.results = #[.cell u 66]) (tmps : Array Value) (w : World) (B : Nat) {x y z : Value} (h0 : w.cell? ⟨B, 0, none⟩ = some x) (h1 : w.cell? ⟨B, 1, none⟩ = some y) (h2 : w.cell? ⟨B, 2, none⟩ = some z) (ha : tmps.getD u undef = .pointer (some ⟨B, 0, none⟩)) :
  (results fn tmps).run Tryz.prog w = .ok (.agg #[x, y, z]) w := by
 have ha' : tmps[u]?.getD undef = .pointer (some ⟨B, 0, none⟩) := by simpa using ha
 simp [results, h, ha', asAddr, go_sem, loadVar, isAgg, Tryz.underlying66, h0, h1, h2]
theorem alloc_at (W : World) (o : Obj) (n : Nat) (h : n = W.heap.size) : (W.alloc o).heap[n]? = some o := by
 subst h
 exact Array.getElem?_push_size ..
theorem Only.at {w w1 : World} {B : Nat} {o : Obj} (h : Only (fun _ => False) w w1) (g : w.heap[B]? = some o) : w1.heap[B]? = some o :=
 (h.block B (Array.getElem?_eq_some_iff.1 g).1 (fun g => g)).trans g
theorem mkm (W : World) : (Instr.makeMap 64 none).run Tryz.prog W = .ok (.map (some W.heap.size)) (W.alloc (.map #[] 0)) := by kernel_rfl
theorem mkm2 (W : World) : (Instr.makeMap 94 none).run Tryz.prog W = .ok (.map (some W.heap.size)) (W.alloc (.map #[] 0)) := by kernel_rfl
theorem newspaces (w : World) : Calls Tryz.prog 106 #[] w fun e w' => ∃ m c, e = .returned (.agg #[.slice none 0 0, .slice none 0 0, .map (some m)]) ∧ w'.heap[m]? = some (.map #[] c) ∧ w.heap.size ≤ m ∧ Only (fun _ => False) w w' := by
 have hm := mkm
 go_enter Tryz.func106, Tryz.ntmps106
 go_wp2
 refine bodyPost_ret (results_sp rfl _ _ w.heap.size (x := .slice none 0 0) (y := .slice none 0 0) (z := .map (some (w.heap.size + 1))) ?_ ?_ ?_ rfl) rfl ?_
 ·simp [go_sem]
 ·simp [go_sem]
 ·simp [go_sem]
 ·exact ⟨_, 0, rfl, alloc_at _ _ _ (by simp), by omega, ((Only.refl _ w).alloc _).alloc _⟩
theorem Only.drewN {bs : Nat → Prop} {a w : World} (h : Only bs a w) : ∀ n : Nat, Only bs a (w.drewN n) := fun n => ⟨h.os, h.tape, h.output, h.size, h.block⟩
theorem used_any (h : Nat) (a b : Option Addr) (n m c d : Nat) (hn : n ≤ 1000000) (hm : m ≤ 1000000) (w : World) (h0 : w.cell? ⟨h, 0, none⟩ = some (.slice a n c)) (h1 : w.cell? ⟨h, 1, none⟩ = some (.slice b m d)) : Calls Tryz.prog 89 #[.pointer (some ⟨h, 0, none⟩)] w fun e w' => e = .returned (.int .i64 ((n : Int) + m)) ∧ Only (fun _ => False) w w' := by
 go_enter Tryz.func89, Tryz.ntmps89
 go_wp2
 go_quiet (fail)
 go_wp2
 go_ret
 exact ⟨rfl, (Only.refl _ w).drewN _⟩
theorem yfrom_any (h : Nat) (a : Option Addr) (n c : Nat) (hn : n ≤ 1000000) (w : World) (h0 : w.cell? ⟨h, 0, none⟩ = some (.slice a n c)) : Calls Tryz.prog 87 #[.pointer (some ⟨h, 0, none⟩)] w fun e w' => e = .returned (.int .u64 (n : Int)) ∧ w' = w := by
 have hb : IntKind.u64.wrap (n : Int) = (n : Int) := by
  rw [IntKind.wrap_u64]; omega
 go_enter Tryz.func87, Tryz.ntmps87
 go_wp2
 go_ret
 exact ⟨rfl, rfl⟩
theorem atmax_any (h : Nat) (a : Option Addr) (n c : Nat) (hn : n < 65536) (w : World) (h0 : w.cell? ⟨h, 4, none⟩ = some (.slice a n c)) : Calls Tryz.prog 105 #[.pointer (some ⟨h, 0, none⟩)] w fun e w' => e = .returned (.bool false) ∧ w' = w := by
 go_enter Tryz.func105, Tryz.ntmps105
 go_wp2
 go_ret
 exact ⟨by simp; omega, rfl⟩
theorem roots_any (h : Nat) (a : Option Addr) (n c : Nat) (w : World) (h0 : w.cell? ⟨h, 4, none⟩ = some (.slice a n c)) : Calls Tryz.prog 35 #[.pointer (some ⟨h, 0, none⟩)] w fun e w' => e = .returned (.int .i64 (n : Int)) ∧ w' = w := by
 go_enter Tryz.func35, Tryz.ntmps35
 go_wp2
 go_ret
 exact ⟨rfl, rfl⟩
end Go.Proofs.YtbbeoobihdldcaaGreatDoor
namespace Go.Proofs.YtbbeoobihdldcaaGreatDoor
open Go.RowKit
set_option linter.unusedSimpArgs false
set_option linter.unusedVariables false
attribute [local go_sem] Oper.semAt_some
end Go.Proofs.YtbbeoobihdldcaaGreatDoor
namespace Go.Proofs.YtbbeoobihdldcaaGreatDoor
open Go.RowKit
set_option linter.unusedSimpArgs false
set_option linter.unusedVariables false
def uOH : Value → Nat
 | .int _ m => m.toNat
 | _ => 0
def Nums (w : World) (ao : Option Addr) (n : Nat) : Prop := ∀ j, j < n → ∃ g k x, ao = some ⟨g, k, none⟩ ∧ w.cell? ⟨g, k + j * 2, none⟩ = some (.bool false) ∧ w.cell? ⟨g, k + j * 2 + 1, none⟩ = some (.int .u64 x)
set_option maxRecDepth 100000 in
set_option maxHeartbeats 4000000 in
theorem name0 (ao : Option Addr) (n c L M O : Nat) (w : World) (hn : n ≤ 100) (hf : Nums w ao n) : Calls Tryz.prog 90 #[.slice ao n c, .pointer (some ⟨L, 0, none⟩), .pointer (some ⟨M, 0, none⟩), .pointer (some ⟨O, 0, none⟩)] w fun e w' => e = .returned (.tuple #[]) ∧ Only (fun _ => False) w w' := by
 have HF : Hid _ := hf
 clear hf
 go_enter Tryz.func90, Tryz.ntmps90
 go_wp2
 go_loopw [9] (fun r wr => ∃ i : Nat, r = .int .i64 (i : Int) ∧ i ≤ n ∧ Hid (Only (fun _ => False) w wr)) (fun r _ => n - uOH r)
 case atStart => exact ⟨0, rfl, Nat.zero_le _, Only.refl _ _⟩
 case round =>
  obtain ⟨i, rfl, hi, HI⟩ := hrel
  obtain ⟨w1, rfl⟩ : ∃ w1, w1 = wr := ⟨_, rfl⟩
  by_cases hin : i < n
  ·obtain ⟨g, k, x, rfl, c0, c1⟩ := HF.out i hin
   have c0 := HI.out.cell c0 (fun g => g)
   have c1 := HI.out.cell c1 (fun g => g)
   have HB : Hid (i < n) := hin
   have i1 : (i : Int) < (n : Int) := by omega
   have i0 : (0 : Int) ≤ (i : Int) := by omega
   have HO : Hid (Only (fun _ => False) w (w1.alloc (.cells #[.bool false, .int .u64 x] 72))) := HI.out.alloc _
   clear HI
   go_wp2
   go_roundw
   case rel => exact ⟨i + 1, by go_num, by have := HB.out; omega, HO⟩
   case measure => simp only [uOH]; have := HB.out; omega
  ·obtain rfl : i = n := by omega
   have i1 : ¬ (i : Int) < (i : Int) := by omega
   go_wp2
   go_end0
   exact ⟨rfl, HI.out⟩
theorem addr_ad (g k : Nat) : (⟨g, 0, none⟩ : Addr).add k = ⟨g, k, none⟩ := by
 show (if k = 0 then _ else _) = _
 split
 ·rename_i h; rw [h]
 ·simp
theorem info_parts {t : TypeId} {z : Value} {s b : Nat} (h : (Tryz.prog.info? t).map (fun i => (i.zero, i.size, i.bytes)) = some (some z, s, b)) : ∃ i, Tryz.prog.info? t = some i ∧ i.zero = some z ∧ i.size = s ∧ i.bytes = b := by
 cases hi : Tryz.prog.info? t with
 | none => rw [hi] at h; simp at h
 | some i => rw [hi] at h; simp at h; exact ⟨i, rfl, h.1, h.2.1, h.2.2⟩
section
variable {P : Program} {op : Oper} {a : Act} {w w' : World} {K : Act → World → Prop} {Q : Exit → Act → World → Prop}
theorem wp_append_run (s x : Operand) (t : TypeId) (ho : op.op = .call { callee := .builtin .append, args := #[s, x], argTypes := #[t, t] }) (v1 v2 v' : Value) (hs : a.eval s = v1) (hx : a.eval x = v2)
  (hr : (Builtin.append_ #[t, t] op.type #[v1, v2]).run P w = .ok v' w') (h : K (a.put op.dst v') w') : op.wp P a w K Q := by
 unfold Oper.wp
 simp [execOp, ho, resolve, invoke, builtin, hs, hx, hr, Result.andThen]
 exact h
theorem step_append_run {ops : Array Oper} {E : Prop} (hgd : op.guard = none) (s x : Operand) (t : TypeId) (ho : op.op = .call { callee := .builtin .append, args := #[s, x], argTypes := #[t, t] }) (v1 v2 v' : Value) (hs : a.eval s = v1) (hx : a.eval x = v2)
  (hr : ∀ ty, (Builtin.append_ #[t, t] ty #[v1, v2]).run P w = .ok v' w') (h : K (a.put op.dst v') w') : if Region.wanted op (yielded ops a.tmps) = true then Oper.wp P op a w K Q else E := by
 have hw : Region.wanted op (yielded ops a.tmps) = true := by simp [Region.wanted, hgd]
 rw [if_pos hw]
 exact wp_append_run s x t ho v1 v2 v' hs hx (hr _) h
theorem wpList_append_run {ops : Array Oper} {rest : List Oper} (hgd : op.guard = none) (s x : Operand) (t : TypeId) (ho : op.op = .call { callee := .builtin .append, args := #[s, x], argTypes := #[t, t] }) (v1 v2 v' : Value) (hs : a.eval s = v1) (hx : a.eval x = v2)
  (hr : ∀ ty, (Builtin.append_ #[t, t] ty #[v1, v2]).run P w = .ok v' w') (h : wpList P ops Q rest (a.put op.dst v') w') : wpList P ops Q (op :: rest) a w :=
 wpList_plain hgd fun _ hK => wp_append_run s x t ho v1 v2 v' hs hx (hr _) (hK _ _ h)
end
theorem ownsRow_base {w : World} {B B' e size n : Nat} {v : Value} {xs : List Value} (h : w.ownsRow B e size v n xs) (hb : B' ≤ B) : w.ownsRow B' e size v n xs := by
 refine ⟨h.1, h.2.imp id ?_⟩
 rintro ⟨g, cap, cur, h1, h2, rest⟩
 exact ⟨g, cap, cur, h1, by omega, rest⟩
theorem infoU : (Tryz.prog.info? 70).map (fun i => (i.zero, i.size, i.bytes)) = some (some (.int .u64 0), 1, 8) := by kernel_rfl
theorem infoF : (Tryz.prog.info? 72).map (fun i => (i.zero, i.size, i.bytes)) = some (some (.agg #[.bool false, .int .u64 0]), 2, 16) := by kernel_rfl
theorem app_u {w : World} {B n : Nat} {v : Value} {us : List Value} (ho : w.ownsRow B 70 1 v n us) (hB : B ≤ w.heap.size) (x : Int) (hl : n ≤ 1000000) :
  ∃ a c w', (∀ ty, (Builtin.append_ #[95, 95] ty #[v, .slice (some ⟨w.heap.size, 0, none⟩) 1 1]).run Tryz.prog (w.alloc (.cells #[.int .u64 x] 70)) = .ok (.slice a (n + 1) c) w') ∧ w'.ownsRow B 70 1 (.slice a (n + 1) c) (n + 1) (us ++ [.int .u64 x]) ∧ Only (fun k => v.ownBlock = some k) w w' := by
 obtain ⟨i0, hi, hz0, hz1, hz2⟩ := info_parts infoU
 obtain ⟨W, hW⟩ : ∃ W, W = w.alloc (.cells #[.int .u64 x] 70) := ⟨_, rfl⟩
 have oo : Only (fun _ => False) w W := by rw [hW]; exact (Only.refl _ w).alloc _
 have ho2 := oo.owns ho (fun _ _ g => g)
 have hblk : W.heap[w.heap.size]? = some (.cells #[.int .u64 x] 70) := by rw [hW]; exact alloc_at _ _ _ rfl
 have key := fun ty => run_append_own_at (P := Tryz.prog) W B 95 ty 70 i0 (.int .u64 0) 1 8 Tryz.underlying95 hi hz0 hz1 hz2 rfl (by omega) v n us ho2 ⟨w.heap.size, 0, none⟩ 1 1 [.int .u64 x] rfl (by
   intro j u hj
   rw [addr_ad, hb_cell hblk]
   simpa using hj) (by
   intro u hu
   simp only [List.mem_cons, List.not_mem_nil, or_false] at hu
   subst hu
   rfl) (by unfold maxLen; omega) (by omega) (by have := oo.size; omega)
 obtain ⟨v', w', hr, own', hg, _, hat⟩ := key 0
 obtain ⟨a, c, rfl⟩ := ownsRow_slice own'
 refine ⟨a, c, w', fun ty => ?_, own', (oo.mono (bs' := fun k => v.ownBlock = some k) (fun _ _ h => h.elim)).trans ((Only.refl (fun k => v.ownBlock = some k) W).grown hg (fun k e _ => e)) (fun k hk e => e)⟩
 rw [← hW, ← hr]
 rfl
end Go.Proofs.YtbbeoobihdldcaaGreatDoor
namespace Go.Proofs.YtbbeoobihdldcaaGreatDoor
open Go.RowKit
set_option linter.unusedSimpArgs false
set_option linter.unusedVariables false
def Nm1 (w : World) (G O : Nat) (w' : World) : Prop := Only (fun b => b = G ∨ b = O) w w' ∧ ∃ a c, w'.cell? ⟨O, 0, none⟩ = some (.slice a 1 c) ∧ w'.ownsRow w.heap.size 70 1 (.slice a 1 c) 1 [.int .u64 0]
set_option maxRecDepth 100000 in
set_option maxHeartbeats 8000000 in
theorem name1 (g k c L M G O : Nat) (w : World) (c0 : w.cell? ⟨g, k, none⟩ = some (.bool true)) (c1 : w.cell? ⟨g, k + 1, none⟩ = some (.int .u64 0)) (hL : w.cell? ⟨L, 0, none⟩ = some (.int .u64 0)) (hM : w.cell? ⟨M, 0, none⟩ = some (.slice (some ⟨G, 0, none⟩) 3 3)) (hG : w.cell? ⟨G, 0, none⟩ = some (.bool false)) (fG : w.frozen? ⟨G, 0, none⟩ = false) (hO : w.cell? ⟨O, 0, none⟩ = some (.slice none 0 0)) (fO : w.frozen? ⟨O, 0, none⟩ = false) (hGO : G ≠ O) (hLO : L ≠ O) (hLG : L ≠ G) (hMO : M ≠ O) (hMG : M ≠ G) :
  Calls Tryz.prog 90 #[.slice (some ⟨g, k, none⟩) 1 c, .pointer (some ⟨L, 0, none⟩), .pointer (some ⟨M, 0, none⟩), .pointer (some ⟨O, 0, none⟩)] w fun e w' => e = .returned (.tuple #[]) ∧ Nm1 w G O w' := by
 obtain ⟨w0, hw0⟩ : ∃ w0, w0 = w.alloc (.cells #[.bool true, .int .u64 0] 72) := ⟨_, rfl⟩
 have o0 : Only (fun _ => False) w w0 := by rw [hw0]; exact (Only.refl _ w).alloc _
 have hb0 : w0.heap[w.heap.size]? = some (.cells #[.bool true, .int .u64 0] 72) := by rw [hw0]; exact alloc_at _ _ _ rfl
 obtain ⟨w1, hw1⟩ : ∃ w1, w1 = w0.setCell ⟨G, 0, none⟩ (.bool true) := ⟨_, rfl⟩
 have lG := World.block_lt_of_cell? w _ hG
 have lO := World.block_lt_of_cell? w _ hO
 simp only at lG lO
 have o1 : Only (fun b => b = G) w0 w1 := by rw [hw1]; exact (Only.refl _ w0).setCell _ _ (fun _ => rfl)
 have s1 := o1.size
 have s0 := o0.size
 obtain ⟨a, c', w2, hap, hown, oo⟩ := app_u (w := w1) (B := w.heap.size) (n := 0) (v := .slice none 0 0) (us := []) (World.ownsRow_nil _ _ _ _) (by omega) 0 (by omega)
 have oo : Only (fun _ => False) w1 w2 := oo.mono (fun k _ e => by cases e)
 have q0 : w0.cell? ⟨w.heap.size, 0, none⟩ = some (.bool true) := hb_cell hb0 0
 have q1 : w0.cell? ⟨w.heap.size, 1, none⟩ = some (.int .u64 0) := hb_cell hb0 1
 have qL := o0.cell hL (fun g => g)
 have qM := o0.cell hM (fun g => g)
 have qG := o0.cell hG (fun g => g)
 have qF : w0.frozen? ⟨G, 0, none⟩ = false := by rw [o0.frozen lG (fun g => g)]; exact fG
 have r1 : w1.cell? ⟨w.heap.size, 1, none⟩ = some (.int .u64 0) := o1.cell q1 (by simp only; omega)
 have rO : w1.cell? ⟨O, 0, none⟩ = some (.slice none 0 0) := o1.cell (o0.cell hO (fun g => g)) (by simp only; omega)
 have fO2 : w2.frozen? ⟨O, 0, none⟩ = false := by
  have l1 : O < w1.heap.size := by omega
  rw [oo.frozen l1 (fun g => g), o1.frozen (a := ⟨O, 0, none⟩) (by simp only; omega) (by simp only; omega), o0.frozen lO (fun g => g)]
  exact fO
 have hO2 : w2.cell? ⟨O, 0, none⟩ = some (.slice none 0 0) := oo.cell rO (fun g => g)
 have HF : Hid (Nm1 w G O (w2.setCell ⟨O, 0, none⟩ (.slice a 1 c'))) := by
  refine ⟨?_, a, c', World.cell?_setCell_same' _ _ _ (by rw [hO2]; rfl), ?_⟩
  ·refine Only.setCell ?_ _ _ (fun _ => .inr rfl)
   exact ((o0.mono (fun _ _ e => e.elim)).trans (o1.mono (fun _ _ e => .inl e)) (fun _ _ e => e)).trans (oo.mono (fun _ _ e => e.elim)) (fun _ _ e => e)
  ·refine ((Only.refl (fun b => b = O) w2).setCell ⟨O, 0, none⟩ _ (fun _ => rfl)).owns hown (fun k hk e => ?_)
   have := (hown.lt k hk).1
   omega
 have hsz : w1.heap.size = w.heap.size + 1 := by rw [hw1, hw0]; simp [World.setCell]
 rw [hsz] at hap
 rw [hw1, hw0] at hap
 rw [hw1, hw0] at r1 rO
 rw [hw0] at q0 q1 qL qM qG qF
 have HA : Hid (∀ ty, (Builtin.append_ #[95, 95] ty #[.slice none 0 0, .slice (some ⟨w.heap.size + 1, 0, none⟩) 1 1]).run Tryz.prog (((w.alloc (.cells #[.bool true, .int .u64 0] 72)).setCell ⟨G, 0, none⟩ (.bool true)).alloc (.cells #[.int .u64 0] 70)) = .ok (.slice a 1 c') w2) := hap
 clear hG fG hO fO hGO hLO hLG hMO hMG lG lO s1 s0 o0 o1 hb0 hown oo hL hM hap hsz hw1 hw0
 go_enter Tryz.func90, Tryz.ntmps90
 go_wp2
 go_loopw [9] (fun r wr => ∃ i : Int, r = .int .i64 i ∧ ((i = 0 ∧ wr = w) ∨ (i = 1 ∧ Hid (Nm1 w G O wr)))) (fun r _ => 1 - uOH r)
 case atStart => exact ⟨0, rfl, .inl ⟨rfl, rfl⟩⟩
 case round =>
  obtain ⟨i, rfl, ⟨rfl, hwr⟩ | ⟨rfl, H1⟩⟩ := hrel
  ·obtain rfl := hwr.symm
   go_wp2_with (at_builtin; refine wpList_append_run rfl _ _ 95 rfl _ _ _ rfl rfl HA.out ?_)
   go_roundw
   case rel => exact ⟨1, rfl, .inr ⟨rfl, HF⟩⟩
   case measure => decide
  ·clear HA HF
   go_wp2
   go_end0
   exact ⟨rfl, H1.out⟩
end Go.Proofs.YtbbeoobihdldcaaGreatDoor
namespace Go.Proofs.YtbbeoobihdldcaaGreatDoor
open Go.RowKit
set_option linter.unusedSimpArgs false
set_option linter.unusedVariables false
theorem then_at {K : Act → World → Prop} {Q : Exit → Act → World → Prop} {a : Act} {W : World} (h : ∀ X, X = W → Exit.then K Q .normal a X) : Exit.then K Q .normal a W := h W rfl
end Go.Proofs.YtbbeoobihdldcaaGreatDoor
namespace Go.Proofs.YtbbeoobihdldcaaGreatDoor
open Go.RowKit
set_option linter.unusedSimpArgs false
set_option linter.unusedVariables false
end Go.Proofs.YtbbeoobihdldcaaGreatDoor
namespace Go.Proofs.YtbbeoobihdldcaaGreatDoor
open Go.RowKit
set_option linter.unusedSimpArgs false
set_option linter.unusedVariables false
theorem set_blk {w : World} {b : Nat} {c : Array Value} {t : TypeId} (h : w.heap[b]? = some (.cells c t)) (j : Nat) (v : Value) : (w.setCell ⟨b, j, none⟩ v).heap[b]? = some (.cells (c.setIfInBounds j v) t) := by
 simp only [World.setCell, Array.getElem?_modify, h]
 simp
end Go.Proofs.YtbbeoobihdldcaaGreatDoor
namespace Go.Proofs.YtbbeoobihdldcaaGreatDoor
open Go.RowKit
set_option linter.unusedSimpArgs false
set_option linter.unusedVariables false
end Go.Proofs.YtbbeoobihdldcaaGreatDoor
namespace Go.Proofs.YtbbeoobihdldcaaGreatDoor
open Go.RowKit
set_option linter.unusedSimpArgs false
set_option linter.unusedVariables false
def zF (k : Nat) : List Value := (Builtin.zeroCells #[.bool false, .int .u64 0] k).toList
theorem zF_len (k : Nat) : (zF k).length = k * 2 := by simp [zF, size_zeroCells]
theorem zF_one (k : Nat) : ∀ u ∈ zF k, u.oneCell' = true := by
 intro u hu
 simp only [zF, Builtin.zeroCells, Array.toList_map, List.mem_map] at hu
 obtain ⟨j, _, rfl⟩ := hu
 have : j % 2 = 0 ∨ j % 2 = 1 := by omega
 rcases this with h | h <;> simp [h, Value.oneCell']
end Go.Proofs.YtbbeoobihdldcaaGreatDoor
namespace Go.Proofs.YtbbeoobihdldcaaGreatDoor
open Go.RowKit
set_option linter.unusedSimpArgs false
set_option linter.unusedVariables false
theorem results_fd {fn : Func} {u : Tmp} (h : fn.results = #[.cell u 72]) (tmps : Array Value) (w : World) (B : Nat) {x y : Value} (h0 : w.cell? ⟨B, 0, none⟩ = some x) (h1 : w.cell? ⟨B, 1, none⟩ = some y) (ha : tmps.getD u undef = .pointer (some ⟨B, 0, none⟩)) :
  (results fn tmps).run Tryz.prog w = .ok (.agg #[x, y]) w := by
 have ha' : tmps[u]?.getD undef = .pointer (some ⟨B, 0, none⟩) := by simpa using ha
 simp [results, h, ha', asAddr, go_sem, loadVar, isAgg, Tryz.underlying72, h0, h1]
end Go.Proofs.YtbbeoobihdldcaaGreatDoor
namespace Go.Proofs.YtbbeoobihdldcaaGreatDoor
open Go.RowKit
set_option linter.unusedSimpArgs false
set_option linter.unusedVariables false
structure HpO (w : World) (h m B : Nat) (a : Option Addr) (c R K : Nat) : Prop where
 hp : HpE w h m (.slice none 0 0) (.slice a 3 c) (.slice (some ⟨R, 0, none⟩) 1 K)
 row : w.ownsRow B 72 2 (.slice a 3 c) 3 ([.bool false, .int .u64 1025] ++ zF 2)
 r0 : w.cell? ⟨R, 0, none⟩ = some (.bool true)
 r1 : w.cell? ⟨R, 1, none⟩ = some (.int .u64 0)
theorem HpO.only {w w' : World} {h m B : Nat} {a : Option Addr} {c R K : Nat} (g : HpO w h m B a c R K) (o : Only (fun _ => False) w w') : HpO w' h m B a c R K :=
 ⟨g.hp.only o, o.owns g.row (fun _ _ g => g), o.cell g.r0 (fun g => g), o.cell g.r1 (fun g => g)⟩
end Go.Proofs.YtbbeoobihdldcaaGreatDoor
namespace Go.Proofs.YtbbeoobihdldcaaGreatDoor
open Go.RowKit
set_option linter.unusedSimpArgs false
set_option linter.unusedVariables false
def fl : List (Bool × Nat) → List Value
 | [] => []
 | p :: l => .bool p.1 :: .int .u64 (p.2 : Int) :: fl l
theorem fl_app : ∀ a b : List (Bool × Nat), fl (a ++ b) = fl a ++ fl b
 | [], _ => rfl
 | p :: l, b => by simp [fl, fl_app l b]
theorem fl_len : ∀ l : List (Bool × Nat), (fl l).length = l.length * 2
 | [] => rfl
 | p :: l => by simp [fl, fl_len l]; omega
theorem fl_get : ∀ (l : List (Bool × Nat)) (i : Nat) (p : Bool × Nat), l[i]? = some p → (fl l)[i * 2]? = some (.bool p.1) ∧ (fl l)[i * 2 + 1]? = some (.int .u64 (p.2 : Int))
 | [], i, p, h => by simp at h
 | q :: l, 0, p, h => by
   obtain rfl : q = p := by simpa using h
   exact ⟨rfl, rfl⟩
 | q :: l, i + 1, p, h => by
   obtain ⟨a, b⟩ := fl_get l i p (by simpa using h)
   have e1 : (i + 1) * 2 = i * 2 + 2 := by omega
   rw [e1]
   exact ⟨a, b⟩
theorem fl_set : ∀ (l : List (Bool × Nat)) (i : Nat) (p : Bool × Nat), fl (l.set i p) = ((fl l).set (i * 2) (.bool p.1)).set (i * 2 + 1) (.int .u64 (p.2 : Int))
 | [], i, p => by simp [fl]
 | q :: l, 0, p => rfl
 | q :: l, i + 1, p => by
   have e1 : (i + 1) * 2 = i * 2 + 2 := by omega
   rw [e1]
   simp [fl, fl_set l i p]
theorem own_set {w : World} {B e size n g c : Nat} {xs : List Value} (h : w.ownsRow B e size (.slice (some ⟨g, 0, none⟩) n c) n xs) (j : Nat) (hj : j < n * size) (u : Value) : (w.setCell ⟨g, j, none⟩ u).ownsRow B e size (.slice (some ⟨g, 0, none⟩) n c) n (xs.set j u) := by
 refine ⟨by rw [List.length_set]; exact h.1, ?_⟩
 rcases h.2 with ⟨hv, _⟩ | ⟨g', cap, cur, hv, hb, hg, hc, hcm, hcs, ht⟩
 ·cases hv
 ·simp only [Value.slice.injEq, Option.some.injEq, Addr.mk.injEq, and_true, true_and] at hv
  obtain ⟨rfl, rfl⟩ := hv
  refine .inr ⟨g, c, _, rfl, hb, heap_setCell_same w g j _ _ u hg, hc, hcm, ?_, ?_⟩
  ·simpa using hcs
  ·rw [← ht]
   apply List.ext_getElem?
   intro q
   simp only [List.getElem?_take, List.getElem?_set, Array.getElem?_toList, Array.getElem?_set, Array.getElem?_setIfInBounds, List.length_take, Array.length_toList]
   have hm : n * size ≤ c * size := Nat.mul_le_mul_right _ hc
   by_cases e : j = q
   ·subst e
    simp only [hj, if_true, hcs]
    rw [if_pos (by omega), if_pos (by omega)]
   ·simp [e]
theorem own_ne {w : World} {B n : Nat} {v : Value} {xs : List Value} (ho : w.ownsRow B 72 2 v n xs) {h : Nat} {o : Obj} (hb : w.heap[h]? = some o) (hT : ∀ c, o ≠ .cells c 72) : v.ownBlock ≠ some h := by
 rcases ho.2 with ⟨rfl, _⟩ | ⟨g, cap, cur, rfl, _, hg, _⟩
 ·simp [Value.ownBlock]
 ·intro e
  simp [Value.ownBlock] at e
  subst e
  rw [hg] at hb
  exact hT cur (by simpa using hb.symm)
theorem own_lt {w : World} {B n : Nat} {v : Value} {xs : List Value} (ho : w.ownsRow B 72 2 v n xs) {k : Nat} (hk : v.ownBlock = some k) : k < w.heap.size := (ho.lt k hk).2
structure Hs (w : World) (h m : Nat) (cap : Int) (yv rv : Value) (y r : List (Bool × Nat)) : Prop where
 hb : w.heap[h]? = some (.cells #[.slice none 0 0, yv, .map (some m), .int .i64 cap, rv] 68)
 mb : ∃ c, w.heap[m]? = some (.map #[] c)
 ry : w.ownsRow 0 72 2 yv y.length (fl y)
 rr : w.ownsRow 0 72 2 rv r.length (fl r)
 ds : ∀ k, yv.ownBlock = some k → rv.ownBlock ≠ some k
theorem Hs.cells {w : World} {h m : Nat} {cap : Int} {yv rv : Value} {y r : List (Bool × Nat)} (g : Hs w h m cap yv rv y r) : w.cell? ⟨h, 0, none⟩ = some (.slice none 0 0) ∧ w.cell? ⟨h, 1, none⟩ = some yv ∧ w.cell? ⟨h, 2, none⟩ = some (.map (some m)) ∧ w.cell? ⟨h, 3, none⟩ = some (.int .i64 cap) ∧ w.cell? ⟨h, 4, none⟩ = some rv :=
 ⟨hb_cell g.hb 0, hb_cell g.hb 1, hb_cell g.hb 2, hb_cell g.hb 3, hb_cell g.hb 4⟩
theorem Hs.lt {w : World} {h m : Nat} {cap : Int} {yv rv : Value} {y r : List (Bool × Nat)} (g : Hs w h m cap yv rv y r) : h < w.heap.size ∧ m < w.heap.size := by
 obtain ⟨c, hc⟩ := g.mb
 exact ⟨(Array.getElem?_eq_some_iff.1 g.hb).1, (Array.getElem?_eq_some_iff.1 hc).1⟩
theorem Hs.ne {w : World} {h m : Nat} {cap : Int} {yv rv : Value} {y r : List (Bool × Nat)} (g : Hs w h m cap yv rv y r) : h ≠ m := by
 intro e
 obtain ⟨c, hc⟩ := g.mb
 have := g.hb
 rw [e, hc] at this
 simp at this
theorem Hs.ynh {w : World} {h m : Nat} {cap : Int} {yv rv : Value} {y r : List (Bool × Nat)} (g : Hs w h m cap yv rv y r) : yv.ownBlock ≠ some h ∧ yv.ownBlock ≠ some m ∧ rv.ownBlock ≠ some h ∧ rv.ownBlock ≠ some m := by
 obtain ⟨c, hc⟩ := g.mb
 exact ⟨own_ne g.ry g.hb (by simp), own_ne g.ry hc (by simp), own_ne g.rr g.hb (by simp), own_ne g.rr hc (by simp)⟩
theorem Hs.keep {w w' : World} {bs : Nat → Prop} {h m : Nat} {cap : Int} {yv rv : Value} {y r : List (Bool × Nat)} (g : Hs w h m cap yv rv y r) (o : Only bs w w') (b1 : ¬ bs h) (b2 : ¬ bs m) (b3 : ∀ k, yv.ownBlock = some k → ¬ bs k) (b4 : ∀ k, rv.ownBlock = some k → ¬ bs k) : Hs w' h m cap yv rv y r := by
 obtain ⟨c, hc⟩ := g.mb
 exact ⟨(o.block h g.lt.1 b1).trans g.hb, ⟨c, (o.block m g.lt.2 b2).trans hc⟩, o.owns g.ry b3, o.owns g.rr b4, g.ds⟩
theorem Hs.only {w w' : World} {h m : Nat} {cap : Int} {yv rv : Value} {y r : List (Bool × Nat)} (g : Hs w h m cap yv rv y r) (o : Only (fun _ => False) w w') : Hs w' h m cap yv rv y r :=
 g.keep o (fun g => g) (fun g => g) (fun _ _ g => g) (fun _ _ g => g)
theorem Hs.sl {w : World} {h m : Nat} {cap : Int} {yv rv : Value} {y r : List (Bool × Nat)} (g : Hs w h m cap yv rv y r) : (∃ a c, yv = .slice a y.length c) ∧ ∃ a c, rv = .slice a r.length c :=
 ⟨ownsRow_slice g.ry, ownsRow_slice g.rr⟩
theorem app_f2 {w : World} {B n : Nat} {v : Value} {us : List Value} (ho : w.ownsRow B 72 2 v n us) (hB : B ≤ w.heap.size) (r : Bool) (x : Int) (hl : n ≤ 1000000) :
  ∃ a c w', (∀ ty, (Builtin.append_ #[63, 63] ty #[v, .slice (some ⟨w.heap.size, 0, none⟩) 1 1]).run Tryz.prog (w.alloc (.cells #[.bool r, .int .u64 x] 72)) = .ok (.slice a (n + 1) c) w') ∧ w'.ownsRow B 72 2 (.slice a (n + 1) c) (n + 1) (us ++ [.bool r, .int .u64 x]) ∧ Only (fun k => v.ownBlock = some k) w w' ∧ ∀ k, (Value.slice a (n + 1) c).ownBlock = some k → v.ownBlock = some k ∨ w.heap.size ≤ k := by
 obtain ⟨i0, hi, hz0, hz1, hz2⟩ := info_parts infoF
 obtain ⟨W, hW⟩ : ∃ W, W = w.alloc (.cells #[.bool r, .int .u64 x] 72) := ⟨_, rfl⟩
 have oo : Only (fun _ => False) w W := by rw [hW]; exact (Only.refl _ w).alloc _
 have ho2 := oo.owns ho (fun _ _ g => g)
 have hblk : W.heap[w.heap.size]? = some (.cells #[.bool r, .int .u64 x] 72) := by rw [hW]; exact alloc_at _ _ _ rfl
 have key := fun ty => run_append_own_at (P := Tryz.prog) W B 63 ty 72 i0 (.agg #[.bool false, .int .u64 0]) 2 16 Tryz.underlying63 hi hz0 hz1 hz2 rfl (by omega) v n us ho2 ⟨w.heap.size, 0, none⟩ 1 1 [.bool r, .int .u64 x] rfl (by
   intro j u hj
   rw [addr_ad, hb_cell hblk]
   simpa using hj) (by
   intro u hu
   simp only [List.mem_cons, List.not_mem_nil, or_false] at hu
   rcases hu with rfl | rfl <;> rfl) (by unfold maxLen; omega) (by omega) (by have := oo.size; omega)
 obtain ⟨v', w', hr, own', hg, _, hat⟩ := key 0
 obtain ⟨a, c, rfl⟩ := ownsRow_slice own'
 refine ⟨a, c, w', fun ty => ?_, own', (oo.mono (bs' := fun k => v.ownBlock = some k) (fun _ _ h => h.elim)).trans ((Only.refl (fun k => v.ownBlock = some k) W).grown hg (fun k e _ => e)) (fun k hk e => e), fun k hk => ?_⟩
 ·rw [← hW, ← hr]
  rfl
 ·rcases hat with e | e
  ·exact .inl (e ▸ hk)
  ·rw [e] at hk
   have := oo.size
   simp only [Option.some.injEq] at hk
   exact .inr (by omega)
def PuP (w w' : World) (h m : Nat) (cap : Int) (yv rv : Value) (y r : List (Bool × Nat)) : Prop := ∃ rv', Hs w' h m cap yv rv' y r ∧ (∀ k, rv'.ownBlock = some k → rv.ownBlock = some k ∨ w.heap.size ≤ k) ∧ Only (fun k => k = h ∨ rv.ownBlock = some k) w w'
set_option maxRecDepth 100000 in
set_option maxHeartbeats 8000000 in
theorem push_any (h m : Nat) (cap : Int) (yv rv : Value) (y r : List (Bool × Nat)) (b : Bool) (x : Nat) (w : World) (hE : Hs w h m cap yv rv y r) (hr : r.length < 65536) :
  Calls Tryz.prog 68 #[.pointer (some ⟨h, 0, none⟩), .agg #[.bool b, .int .u64 (x : Int)]] w fun e w' => e = .returned (.int .i64 0) ∧ PuP w w' h m cap yv rv y (r ++ [(b, x)]) := by
 obtain ⟨z, hz⟩ : ∃ z : Int, z = (x : Int) := ⟨_, rfl⟩
 obtain ⟨_, ⟨a0, k0, hrv⟩⟩ := hE.sl
 have HE : Hid (Hs w h m cap yv rv y r) := hE
 obtain ⟨W, hW⟩ : ∃ W, W = w.alloc (.cells #[.bool b, .int .u64 z] 72) := ⟨_, rfl⟩
 obtain ⟨N, hN⟩ : ∃ N, N = w.heap.size := ⟨_, rfl⟩
 have oW : Only (fun _ => False) w W := by rw [hW]; exact (Only.refl _ w).alloc _
 have sW : W.heap.size = N + 1 := by rw [hW, hN]; simp
 have bW : W.heap[N]? = some (.cells #[.bool b, .int .u64 z] 72) := by rw [hW]; exact alloc_at _ _ _ hN
 have d4 := oW.cell hE.cells.2.2.2.2 (fun g => g)
 have HM : Hid _ := atmax_any h a0 r.length k0 hr W (hrv ▸ d4)
 have b0 : W.cell? ⟨N, 0, none⟩ = some (.bool b) := hb_cell bW 0
 have b1 : W.cell? ⟨N, 1, none⟩ = some (.int .u64 z) := hb_cell bW 1
 have eW := hE.only oW
 have eD : Hs W.drew h m cap yv rv y r := eW.only ((Only.refl (fun _ => False) W).drew)
 obtain ⟨a1, k1, w3, hr1, hown, oo, hat⟩ := app_f2 (w := W.drew) eD.rr (Nat.zero_le _) b z (by omega)
 have o3 : Only (fun k => rv.ownBlock = some k) w w3 := ((oW.mono (bs' := fun k => rv.ownBlock = some k) (fun _ _ g => g.elim)).trans ((Only.refl (fun k => rv.ownBlock = some k) W).drew) (fun _ _ g => g)).trans oo (fun _ _ g => g)
 have nh := hE.ynh
 have b3 := (o3.block h hE.lt.1 nh.2.2.1).trans HE.out.hb
 have e4 : w3.cell? ⟨h, 4, none⟩ = some rv := hb_cell b3 4
 have g4 : w3.frozen? ⟨h, 4, none⟩ = false := hb_froz b3 4
 have HR : Hid (∀ ty, (Builtin.append_ #[63, 63] ty #[rv, .slice (some ⟨W.heap.size, 0, none⟩) 1 1]).run Tryz.prog ((W.alloc (.cells #[.bool b, .int .u64 z] 72)).drew) = .ok (.slice a1 (r.length + 1) k1) w3) := hr1
 have HF : Hid (PuP w (w3.setCell ⟨h, 4, none⟩ (.slice a1 (r.length + 1) k1)) h m cap yv rv y (r ++ [(b, x)])) := by
  refine ⟨.slice a1 (r.length + 1) k1, ?_, ?_, ?_⟩
  ·obtain ⟨c, hc⟩ := HE.out.mb
   have nw : ∀ k, (Value.slice a1 (r.length + 1) k1).ownBlock = some k → k ≠ h ∧ k ≠ m ∧ yv.ownBlock ≠ some k := fun k hk => by
    rcases hat k hk with e | e
    ·exact ⟨fun q => nh.2.2.1 (q ▸ e), fun q => nh.2.2.2 (q ▸ e), fun q => hE.ds k q e⟩
    ·have h1 := hE.lt
     have h2 : W.drew.heap.size = W.heap.size := rfl
     rw [h2, sW, hN] at e
     exact ⟨by omega, by omega, fun q => by have := own_lt hE.ry q; omega⟩
   have os : Only (fun k => k = h) w3 (w3.setCell ⟨h, 4, none⟩ (.slice a1 (r.length + 1) k1)) := (Only.refl _ w3).setCell _ _ (fun _ => rfl)
   refine ⟨set_blk b3 4 _, ⟨c, (Below.heap_setCell _ _ _ _ (fun e => HE.out.ne e.symm)).trans ((o3.block m hE.lt.2 nh.2.2.2).trans hc)⟩, ?_, ?_, ?_⟩
   ·exact os.owns (o3.owns hE.ry (fun k hk => hE.ds k hk)) (fun k hk e => nh.1 (e ▸ hk))
   ·rw [List.length_append, fl_app]
    exact os.owns (by subst hz; exact hown) (fun k hk e => (nw k hk).1 e)
   ·exact fun k hk q => (nw k q).2.2 hk
  ·intro k hk
   rcases hat k hk with e | e
   ·exact .inl e
   ·have h2 : W.drew.heap.size = W.heap.size := rfl
    rw [h2, sW, hN] at e
    exact .inr (by omega)
  ·exact (o3.mono (bs' := fun k => k = h ∨ rv.ownBlock = some k) (fun _ _ g => .inr g)).setCell _ _ (fun _ => .inl rfl)
 have d4A : ∀ x, (W.alloc x).cell? ⟨h, 4, none⟩ = some rv := fun x => ((Only.refl (fun _ => False) W).alloc x).cell d4 (fun g => g)
 have d4B : ∀ x y, ((W.alloc x).alloc y).cell? ⟨h, 4, none⟩ = some rv := fun x y => (((Only.refl (fun _ => False) W).alloc x).alloc y).cell d4 (fun g => g)
 have f4B : ∀ x y, ((W.alloc x).alloc y).frozen? ⟨h, 4, none⟩ = false := fun x y => hb_froz (((oW.alloc x).alloc y).at HE.out.hb) 4
 rw [← hz]
 clear hE oW sW bW hr1 hown oo o3 b3 eW eD hat nh hrv hr hz
 go_enter Tryz.func68, Tryz.ntmps68
 go_wp2_with fail
 rw [← hW, ← hN]
 clear hW hN
 refine (show Calls Tryz.prog 105 _ _ _ from HM.out).mono ?_
 rintro e w1 ⟨rfl, hq⟩
 rw [hq]
 clear hq HM w1
 go_wp2_with fail
 go_region_law (refine step_append_run (by rfl) _ _ 63 (by rfl) _ _ (.slice a1 (r.length + 1) k1) (by rfl) (by rfl) HR.out ?_)
 all_goals
  clear d4 b0 b1 d4A d4B f4B e4 g4 HR
  go_wp2
  go_ret
  exact ⟨rfl, HF.out⟩
end Go.Proofs.YtbbeoobihdldcaaGreatDoor
namespace Go.Proofs.YtbbeoobihdldcaaGreatDoor
open Go.RowKit
set_option linter.unusedSimpArgs false
set_option linter.unusedVariables false
theorem row_at {w : World} {n : Nat} {v : Value} {l : List (Bool × Nat)} (ho : w.ownsRow 0 72 2 v n (fl l)) {i : Nat} {p : Bool × Nat} (hi : l[i]? = some p) : ∃ g c, v = .slice (some ⟨g, 0, none⟩) n c ∧ v.ownBlock = some g ∧ w.cell? ⟨g, i * 2, none⟩ = some (.bool p.1) ∧ w.cell? ⟨g, i * 2 + 1, none⟩ = some (.int .u64 (p.2 : Int)) ∧ (∀ q, w.frozen? ⟨g, q, none⟩ = false) ∧ i < n := by
 have hl := ho.1
 rw [fl_len] at hl
 have hi2 : i < l.length := (List.getElem?_eq_some_iff.1 hi).1
 obtain ⟨f1, f2⟩ := fl_get l i p hi
 rcases ho.2 with ⟨rfl, hn⟩ | ⟨g, cap, cur, rfl, _, hg, _⟩
 ·omega
 ·have c := ho.cells (g := g) rfl
  have c1 := c _ _ f1
  have c2 := c _ _ f2
  rw [addr_ad] at c1 c2
  exact ⟨g, cap, rfl, rfl, c1, c2, fun q => by simp [World.frozen?, hg], by omega⟩
theorem has_yes (h : Nat) (a : Option Addr) (n c i : Nat) (w : World) (h0 : w.cell? ⟨h, 4, none⟩ = some (.slice a n c)) (hi : i < n) : Calls Tryz.prog 67 #[.pointer (some ⟨h, 0, none⟩), .int .i64 (i : Int)] w fun e w' => e = .returned (.bool true) ∧ w' = w := by
 have e1 : decide ((0 : Int) ≤ (i : Int)) = true := by simp
 have e2 : decide ((i : Int) < (n : Int)) = true := by simp; omega
 have e3 : (0 : Int) ≤ (i : Int) := by omega
 have e4 : (i : Int) < (n : Int) := by omega
 go_enter Tryz.func67, Tryz.ntmps67
 go_wp2
 go_ret
 exact ⟨rfl, rfl⟩
theorem num_any (h m : Nat) (cap : Int) (yv rv : Value) (y r : List (Bool × Nat)) (x : Nat) (w : World) (hE : Hs w h m cap yv rv y r) (hr : r.length < 65536) :
  Calls Tryz.prog 66 #[.pointer (some ⟨h, 0, none⟩), .int .u64 (x : Int)] w fun e w' => e = .returned (.int .i64 0) ∧ PuP w w' h m cap yv rv y (r ++ [(false, x)]) := by
 have HP : Hid _ := push_any h m cap yv rv y r false x w hE hr
 clear hE
 go_enter Tryz.func66, Tryz.ntmps66
 go_wp2_with fail
 refine (show Calls Tryz.prog 68 _ _ _ from HP.out).mono ?_
 rintro e w1 ⟨rfl, h1⟩
 have H1 : Hid (PuP w w1 h m cap yv rv y (r ++ [(false, x)])) := h1
 clear HP h1
 go_wp2
 go_ret
 exact ⟨rfl, H1.out⟩
set_option maxRecDepth 100000 in
theorem dup_any (h m : Nat) (cap : Int) (yv rv : Value) (y r : List (Bool × Nat)) (i : Nat) (p : Bool × Nat) (w : World) (hE : Hs w h m cap yv rv y r) (hr : r.length < 65536) (hi : r[i]? = some p) :
  Calls Tryz.prog 30 #[.pointer (some ⟨h, 0, none⟩), .int .i64 (i : Int)] w fun e w' => e = .returned (.int .i64 0) ∧ PuP w w' h m cap yv rv y (r ++ [p]) := by
 obtain ⟨R, c, rfl, _, c0, c1, _, hn⟩ := row_at hE.rr hi
 obtain ⟨b, x⟩ := p
 have HP : Hid _ := push_any h m cap yv _ y r b x w hE hr
 have HH : Hid _ := has_yes h (some ⟨R, 0, none⟩) r.length c i w hE.cells.2.2.2.2 hn
 have d4 := hE.cells.2.2.2.2
 have e3 : (0 : Int) ≤ (i : Int) := by omega
 have e4 : (i : Int) < (r.length : Int) := by omega
 clear hE hi
 go_enter Tryz.func30, Tryz.ntmps30
 go_wp2_with fail
 refine (show Calls Tryz.prog 67 _ _ _ from HH.out).mono ?_
 rintro e w1 ⟨rfl, hq⟩
 rw [hq]
 clear hq HH w1
 go_wp2_with fail
 refine (show Calls Tryz.prog 68 _ _ _ from HP.out).mono ?_
 rintro e w1 ⟨rfl, h1⟩
 have H1 : Hid (PuP w w1 h m cap yv _ y (r ++ [(b, x)])) := h1
 clear HP h1
 go_wp2
 go_ret
 exact ⟨rfl, H1.out⟩
theorem word_any (h m : Nat) (cap : Int) (yv rv : Value) (y r : List (Bool × Nat)) (i : Nat) (x : Nat) (w : World) (hE : Hs w h m cap yv rv y r) (hi : r[i]? = some (false, x)) :
  Calls Tryz.prog 81 #[.pointer (some ⟨h, 0, none⟩), .int .i64 (i : Int)] w fun e w' => e = .returned (.tuple #[.int .u64 (x : Int), .int .i64 0]) ∧ w' = w := by
 obtain ⟨R, c, rfl, _, c0, c1, _, hn⟩ := row_at hE.rr hi
 have HH : Hid _ := has_yes h (some ⟨R, 0, none⟩) r.length c i w hE.cells.2.2.2.2 hn
 have d4 := hE.cells.2.2.2.2
 have e3 : (0 : Int) ≤ (i : Int) := by omega
 have e4 : (i : Int) < (r.length : Int) := by omega
 clear hE hi
 go_enter Tryz.func81, Tryz.ntmps81
 go_wp2_with fail
 refine (show Calls Tryz.prog 67 _ _ _ from HH.out).mono ?_
 rintro e w1 ⟨rfl, hq⟩
 rw [hq]
 clear hq HH w1
 go_wp2
 go_ret2
 exact ⟨rfl, rfl⟩
end Go.Proofs.YtbbeoobihdldcaaGreatDoor
namespace Go.Proofs.YtbbeoobihdldcaaGreatDoor
open Go.RowKit
set_option linter.unusedSimpArgs false
set_option linter.unusedVariables false
theorem sl_fr (T : TypeId) (hT : T = 63 ∨ T = 97) (k : IntKind) (g o L c a : Nat) (ha : a < L) (hc : L ≤ c) : ∀ w, (Instr.slice T (.slice (some ⟨g, o, none⟩) L c) (some (.int k (a : Int))) none none).run Tryz.prog w = .ok (.slice (some ⟨g, o + a * 2, none⟩) (L - a) (c - a)) w := by
 intro w
 have k0 : (0 : Int) ≤ (a : Int) := by omega
 have k1 : (a : Int) ≤ (L : Int) := by omega
 have k2 : (L : Int) ≤ (c : Int) := by omega
 have e1 : ((L : Int) - (a : Int)).toNat = L - a := by omega
 have e2 : ((c : Int) - (a : Int)).toNat = c - a := by omega
 have e3 : ¬ c - a = 0 := by omega
 by_cases hz : a = 0
 ·subst hz
  rcases hT with rfl | rfl <;> go_simp
 ·rcases hT with rfl | rfl <;> go_simp <;> omega
theorem sl_to (k : IntKind) (g o L c b : Nat) (hb : b ≤ L) (hc : L ≤ c) (hc0 : 0 < c) : ∀ w, (Instr.slice 63 (.slice (some ⟨g, o, none⟩) L c) none (some (.int k (b : Int))) none).run Tryz.prog w = .ok (.slice (some ⟨g, o, none⟩) b c) w := by
 intro w
 have k0 : (0 : Int) ≤ (b : Int) := by omega
 have k1 : (b : Int) ≤ (c : Int) := by omega
 have k2 : (L : Int) ≤ (c : Int) := by omega
 have e3 : ¬ c = 0 := by omega
 go_simp
def SzC (hd sz : Nat) : Prop := ∀ w, Calls Tryz.prog 88 #[.agg #[.bool false, .int .u64 (hd : Int)]] w fun e w' => e = .returned (.int .i64 (sz : Int)) ∧ Only (fun _ => False) w w'
structure ObA (y : List (Bool × Nat)) (a hd sz : Nat) : Prop where
 at_ : y[a]? = some (false, hd)
 siz : SzC hd sz
 le : a + sz ≤ y.length
 ge : 1 ≤ sz
set_option maxRecDepth 100000 in
set_option maxHeartbeats 8000000 in
theorem at_any (h m : Nat) (cap : Int) (yv rv : Value) (y r : List (Bool × Nat)) (a hd sz : Nat) (w : World) (hE : Hs w h m cap yv rv y r) (hO : ObA y a hd sz) (hy : y.length ≤ 100000) :
  Calls Tryz.prog 48 #[.pointer (some ⟨h, 0, none⟩), .int .u64 (a : Int)] w fun e w' => ∃ Y c, Hid (yv.ownBlock = some Y ∧ sz ≤ c) ∧ e = .returned (.slice (some ⟨Y, a * 2, none⟩) sz c) ∧ Only (fun _ => False) w w' := by
 obtain ⟨Y, c, rfl, hob, c0, c1, _, hn⟩ := row_at hE.ry hO.at_
 have hcn : y.length ≤ c := by
  rcases hE.ry.2 with ⟨e, _⟩ | ⟨g, cap', cur, e, _, _, h1, _⟩
  ·cases e
  ·cases e
   exact h1
 obtain ⟨d0, d1, _, _, _⟩ := hE.cells
 have HY := yfrom_any h none 0 0 (by omega) w d0
 have HZ : Hid (∀ w, Calls Tryz.prog 88 #[.agg #[.bool false, .int .u64 (hd : Int)]] w fun e w' => e = .returned (.int .i64 (sz : Int)) ∧ Only (fun _ => False) w w') := hO.siz
 have hle := hO.le
 have hge := hO.ge
 have hw0 : IntKind.u64.wrap ((a : Int) - 0) = (a : Int) := by rw [IntKind.wrap_u64]; omega
 have hw1 : IntKind.u64.wrap (a : Int) = (a : Int) := by rw [IntKind.wrap_u64]; omega
 have ga : (0 : Int) ≤ (a : Int) := by omega
 have ga2 : (a : Int) < (y.length : Int) := by omega
 have s1 := sl_fr 63 (.inl rfl) .u64 Y 0 y.length c a hn hcn
 have s2 := sl_to .i64 Y (0 + a * 2) (y.length - a) (c - a) sz (by omega) (by omega) (by omega)
 rw [Nat.zero_add] at s1 s2
 have HQ : Hid (sz ≤ c - a) := by show sz ≤ c - a; omega
 have HB : Hid ((Value.slice (some ⟨Y, 0, none⟩) y.length c).ownBlock = some Y) := hob
 clear hE hO hob hle hge hcn hn
 go_enter Tryz.func48, Tryz.ntmps48
 go_wp2_with (go_at_call 87; refine HY.mono ?_; rintro e w1 ⟨rfl, hq⟩; rw [hq]; clear hq)
 go_region_with (go_at_call 88; refine (show Calls Tryz.prog 88 _ _ _ from HZ.out _).mono ?_; rintro e w2 ⟨rfl, o2⟩; have O2 : Hid (Only (fun _ => False) w w2) := (Only.trans (show Only (fun _ => False) w _ by repeat' first | exact Only.refl _ _ | apply Only.alloc | apply Only.drew) o2 (fun _ _ g => g)))
 all_goals
  go_wp2
  go_ret
  exact ⟨Y, c - a, ⟨HB.out, HQ.out⟩, rfl, O2.out⟩
end Go.Proofs.YtbbeoobihdldcaaGreatDoor
