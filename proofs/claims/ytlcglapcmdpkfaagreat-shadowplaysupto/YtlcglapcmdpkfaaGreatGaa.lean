/-              -/
import Derived.WalkKit
import Derived.WalkSpells
import Derived.WalkLawsBesides
import Derived.OneCell
import Derived.Deep.MidRow
import Derived.Deep.AppendLies
import Derived.Deep.Upon
import Derived.Deep.WholeRow
import Derived.Deep.RegionHeld3
import Derived.Test.YtlcglapcmdpkfaaGreatRows
import Derived.Laws.BitsLemmas
import Derived.Deep.DrawnRows
import Derived.ProofKit
import Derived.SizedLaws
import Derived.Deep.Slices
import Derived.Deep.Grids
import Derived.ArgAppend
import Derived.Laws.CopyOwn
import Derived.Laws.Bits64b
namespace Go.Proofs.YtlcglapcmdpkfaaGreat
open Go.RowKit
set_option linter.unusedSimpArgs false
set_option linter.unusedVariables false
set_option maxRecDepth 100000
set_option maxHeartbeats 16000000
structure Only (bs : Nat → Prop) (w w' : World) : Prop where
 os : w'.os = w.os
 tape : w'.tape = w.tape
 output : w'.output = w.output
 size : w.heap.size ≤ w'.heap.size
 block : ∀ k, k < w.heap.size → ¬ bs k → w'.heap[k]? = w.heap[k]?
theorem Only.refl (bs : Nat → Prop) (w : World) : Only bs w w := ⟨rfl, rfl, rfl, Nat.le_refl _, fun _ _ _ => rfl⟩
theorem Only.mono {bs bs' : Nat → Prop} {w w' : World} (h : Only bs w w') (hb : ∀ k, k < w.heap.size → bs k → bs' k) : Only bs' w w' :=
 ⟨h.os, h.tape, h.output, h.size, fun k hk hn => h.block k hk (fun e => hn (hb k hk e))⟩
theorem Only.trans {bs bs' : Nat → Prop} {a b c : World} (h : Only bs a b) (k : Only bs' b c) (hb : ∀ i, i < a.heap.size → bs' i → bs i) : Only bs a c :=
 ⟨k.os.trans h.os, k.tape.trans h.tape, k.output.trans h.output, Nat.le_trans h.size k.size,
  fun i hi hn => (k.block i (Nat.lt_of_lt_of_le hi h.size) (fun e => hn (hb i hi e))).trans (h.block i hi hn)⟩
theorem Only.drew {bs : Nat → Prop} {a w : World} (h : Only bs a w) : Only bs a w.drew := ⟨h.os, h.tape, h.output, h.size, h.block⟩
theorem Only.alloc {bs : Nat → Prop} {a w : World} (h : Only bs a w) (o : Obj) : Only bs a (w.alloc o) :=
 ⟨h.os, h.tape, h.output, by have := h.size; simp; omega, fun k hk hn => (Below.heap_alloc _ _ _ (Nat.lt_of_lt_of_le hk h.size)).trans (h.block k hk hn)⟩
theorem Only.setCell {bs : Nat → Prop} {a w : World} (h : Only bs a w) (p : Addr) (u : Value) (hp : p.block < a.heap.size → bs p.block) : Only bs a (w.setCell p u) :=
 ⟨h.os, h.tape, h.output, by have := h.size; simpa [World.setCell] using this, fun k hk hn => (Below.heap_setCell w p u k (fun e => hn (by rw [e]; exact hp (by rw [← e]; exact hk)))).trans (h.block k hk hn)⟩
theorem setCells_same (b : Nat) : ∀ (vs : List Value) (o : Nat) (w : World), (w.setCells b o vs).os = w.os ∧ (w.setCells b o vs).tape = w.tape ∧ (w.setCells b o vs).output = w.output ∧ (w.setCells b o vs).heap.size = w.heap.size
 | [], _, _ => ⟨rfl, rfl, rfl, rfl⟩
 | v :: r, o, w => by
   obtain ⟨h1, h2, h3, h4⟩ := setCells_same b r (o + 1) (w.setCell ⟨b, o, none⟩ v)
   exact ⟨h1, h2, h3, h4.trans (by simp [World.setCell])⟩
theorem Only.setCells {bs : Nat → Prop} {a w : World} (h : Only bs a w) (b o : Nat) (vs : List Value) (hp : b < a.heap.size → bs b) : Only bs a (w.setCells b o vs) := by
 obtain ⟨h1, h2, h3, h4⟩ := setCells_same b vs o w
 exact ⟨h1.trans h.os, h2.trans h.tape, h3.trans h.output, h4 ▸ h.size, fun k hk hn =>
  (World.heap_setCells_other w b o vs (Nat.lt_of_lt_of_le hk h.size) (fun e => hn (e ▸ hp (e ▸ hk)))).trans (h.block k hk hn)⟩
theorem Only.grown {bs : Nat → Prop} {a w w' : World} {row : Option Nat} (h : Only bs a w) (hg : w.grownBy w' row) (hr : ∀ k, row = some k → k < a.heap.size → bs k) : Only bs a w' :=
 ⟨hg.os.trans h.os, hg.tape.trans h.tape, hg.output.trans h.output, Nat.le_trans h.size hg.size,
  fun k hk hn => (hg.block k (Nat.lt_of_lt_of_le hk h.size) (fun e => hn (hr k e.symm hk))).trans (h.block k hk hn)⟩
theorem Only.below {bs : Nat → Prop} {w w' : World} {B : Nat} (h : Only bs w w') (hb : ∀ k, bs k → B ≤ k) (hB : B ≤ w.heap.size) : Below B w w' :=
 ⟨h.os, h.tape, h.output, h.size, fun k hk => h.block k (by omega) (fun e => by have := hb k e; omega)⟩
theorem Only.cell {bs : Nat → Prop} {w w' : World} (h : Only bs w w') {a : Addr} {v : Value} (hc : w.cell? a = some v) (hn : ¬ bs a.block) : w'.cell? a = some v :=
 (World.cell?_of_block (w := w) (h.block a.block (World.block_lt_of_cell? w a hc) hn)).trans hc
theorem Only.frozen {bs : Nat → Prop} {w w' : World} (h : Only bs w w') {a : Addr} (hl : a.block < w.heap.size) (hn : ¬ bs a.block) : w'.frozen? a = w.frozen? a :=
 World.frozen?_of_block (w := w) (h.block a.block hl hn)
theorem Only.range {bs : Nat → Prop} {w w' : World} (h : Only bs w w') {b o : Nat} {cs : List Value} (hc : w.rangeAt b o cs) (hn : ¬ bs b) : w'.rangeAt b o cs :=
 fun j v hv => h.cell (a := ⟨b, o + j, none⟩) (hc j v hv) hn
theorem Only.there {bs : Nat → Prop} {w w' : World} (h : Only bs w w') {b o n : Nat} (hc : w.there b o n) (hn : ¬ bs b) : w'.there b o n := fun j hj => by
 obtain ⟨h1, h2⟩ := hc j hj
 obtain ⟨u, hu⟩ := Option.isSome_iff_exists.1 h1
 exact ⟨by rw [h.cell hu hn]; rfl, by rw [h.frozen (World.block_lt_of_cell? w _ hu) hn]; exact h2⟩
theorem Only.owns {bs : Nat → Prop} {w w' : World} (h : Only bs w w') {B e size n : Nat} {v : Value} {xs : List Value} (ho : w.ownsRow B e size v n xs) (hn : ∀ k, v.ownBlock = some k → ¬ bs k) : w'.ownsRow B e size v n xs := by
 refine ⟨ho.1, ?_⟩
 rcases ho.2 with hz | ⟨g, cap, cur, hv, hb, hg, rest⟩
 ·exact .inl hz
 ·refine .inr ⟨g, cap, cur, hv, hb, ?_, rest⟩
  have hl : g < w.heap.size := by
   rcases Nat.lt_or_ge g w.heap.size with hlt | hge
   ·exact hlt
   ·simp [Array.getElem?_eq_none hge] at hg
  rw [h.block g hl (hn g (by rw [hv]; rfl))]; exact hg
theorem ownsRow_slice {w : World} {B e size n : Nat} {v : Value} {xs : List Value} (h : w.ownsRow B e size v n xs) : ∃ a c, v = .slice a n c := by
 rcases h.2 with ⟨h1, h2⟩ | ⟨g, cap, cur, h1, _⟩
 ·exact ⟨none, 0, by rw [h1, h2]⟩
 ·exact ⟨_, _, h1⟩
theorem z9 {α : Type} : (∀ (l : List α) (i : Nat) (a : α), l.toArray.setIfInBounds i a = (l.set i a).toArray) ∧ (∀ (a b : α) (l : List α), (a :: l).set 0 b = b :: l) ∧ (∀ (a b : α) (n : Nat) (l : List α), (a :: l).set (n + 1) b = a :: l.set n b) ∧ (∀ (l : List α) (i : Nat) (h : i < l.toArray.size), l.toArray[i] = l[i]'(by simpa using h)) ∧ (∀ (a : α) (l : List α) (h : 0 < (a :: l).length), (a :: l)[0] = a) ∧ (∀ (a : α) (l : List α) (i : Nat) (h : i + 1 < (a :: l).length), (a :: l)[i + 1] = l[i]'(by simpa using h)) := ⟨fun _ _ _ => by simp, fun _ _ _ => rfl, fun _ _ _ _ => rfl, fun _ _ _ => by simp, fun _ _ _ => rfl, fun _ _ _ _ => rfl⟩
section
variable {P : Program} {ops : Array Oper} {S : World → Prop} {md : Region.Mode} {Q : Exit → Act → World → Prop}
theorem t8 {i : Nat} {oi : Oper} {v : Value} {fuel : Nat} {listed : Array Bool} {a : Act} {w : World} (hi : ops[i]? = some oi)
 (hS : S w) (h : wpAnyH P md ops Q S fuel (listed.setIfInBounds i true) (a.put oi.dst v) w)
 (hy : YieldsIf P ops S oi v a := by exact Or.inl ⟨by rfl, fun wx hSw => by go_simp⟩)
 (hc : (Region.noSelect ops && Region.free md ops listed i && (Region.ready md ops listed).contains i) = true := by kernel_rfl)
 (hQ : ∀ c a w, Q (.panic c) (a.put oi.dst v) w → Q (.panic c) a w := by exact fun _ _ _ h => h) : wpAnyH P md ops Q S (fuel + 1) listed a w := by
 simp only [Bool.and_eq_true] at hc
 exact wpAnyH_take hi hc.1.1 hc.1.2 hc.2 hQ hy hS h
theorem t9 {i : Nat} {oi : Oper} {fuel : Nat} {listed : Array Bool} {a : Act} {w : World} (hi : ops[i]? = some oi)
 (hS : S w) (h : wpAnyH P md ops Q S fuel (listed.setIfInBounds i true) (a.put oi.dst undef) w)
 (hy : YieldsIf P ops S oi undef a := by exact Or.inr ⟨by rfl, rfl⟩)
 (hc : (Region.noSelect ops && Region.free md ops listed i && (Region.ready md ops listed).contains i) = true := by kernel_rfl)
 (hQ : ∀ c a w, Q (.panic c) (a.put oi.dst undef) w → Q (.panic c) a w := by exact fun _ _ _ h => h) : wpAnyH P md ops Q S (fuel + 1) listed a w := by
 simp only [Bool.and_eq_true] at hc
 exact wpAnyH_take hi hc.1.1 hc.1.2 hc.2 hQ hy hS h
end
end Go.Proofs.YtlcglapcmdpkfaaGreat
namespace Go.Proofs.YtlcglapcmdpkfaaGreat
set_option linter.unusedSimpArgs false
set_option linter.unusedVariables false
set_option maxRecDepth 100000
set_option maxHeartbeats 16000000
def st (r : Nat) : Nat := if r % 2 = 1 then (r / 2) ^^^ 3988292384 else r / 2
def it : Nat → Nat → Nat
 | 0, r => r
 | k + 1, r => st (it k r)
def eat (r c : Nat) : Nat := it 8 (r ^^^ c)
def reg (l : List Nat) : Nat := l.foldl eat 4294967295
def sumN (l : List Nat) : Nat := reg l ^^^ 4294967295
theorem st_lt {r : Nat} (h : r < 4294967296) : st r < 4294967296 := by
 unfold st
 split
 ·exact Nat.xor_lt_two_pow (n := 32) (by omega) (by omega)
 ·omega
theorem it_lt {r : Nat} (h : r < 4294967296) : ∀ k, it k r < 4294967296
 | 0 => h
 | k + 1 => st_lt (it_lt h k)
theorem eat_lt {r c : Nat} (h : r < 4294967296) (hc : c < 256) : eat r c < 4294967296 := it_lt (Nat.xor_lt_two_pow (n := 32) (by omega) (by omega)) 8
theorem fold_lt : ∀ (l : List Nat) (r : Nat), r < 4294967296 → (∀ z ∈ l, z < 256) → l.foldl eat r < 4294967296
 | [], _, h, _ => h
 | c :: l, _, h, hl => fold_lt l _ (eat_lt h (hl c List.mem_cons_self)) (fun z hz => hl z (List.mem_cons_of_mem _ hz))
theorem reg_lt (l : List Nat) (hl : ∀ z ∈ l, z < 256) : reg l < 4294967296 := fold_lt l _ (by omega) hl
theorem sumN_lt (l : List Nat) (hl : ∀ z ∈ l, z < 256) : sumN l < 4294967296 := Nat.xor_lt_two_pow (n := 32) (reg_lt l hl) (by omega)
theorem xor_half (a b : Nat) : (a ^^^ b) / 2 = a / 2 ^^^ b / 2 := by
 have := Nat.shiftRight_xor_distrib (a := a) (b := b) (i := 1)
 simpa [Nat.shiftRight_eq_div_pow] using this
end Go.Proofs.YtlcglapcmdpkfaaGreat
namespace Go.Proofs.YtlcglapcmdpkfaaGreat
open Go.RowKit
set_option linter.unusedSimpArgs false
set_option linter.unusedVariables false
set_option maxRecDepth 100000
set_option maxHeartbeats 16000000
theorem bx32 (a b : Nat) (ha : a < 4294967296) (hb : b < 4294967296) : bits .xor .u32 (a : Int) (b : Int) = ((a ^^^ b : Nat) : Int) := by
 have hx : a ^^^ b < 4294967296 := Nat.xor_lt_two_pow (n := 32) ha hb
 have e1 : a % 2 ^ IntKind.u32.bits = a := Nat.mod_eq_of_lt ha
 have e2 : b % 2 ^ IntKind.u32.bits = b := Nat.mod_eq_of_lt hb
 simp only [bits, BitVec.ofInt_natCast, BitVec.toNat_xor, BitVec.toNat_ofNat, e1, e2]
 rw [IntKind.wrap_u32]
 omega
theorem ba32 (a : Nat) (ha : a < 4294967296) : bits .and .u32 (a : Int) 1 = ((a % 2 : Nat) : Int) := by
 have e1 : a % 2 ^ IntKind.u32.bits = a := Nat.mod_eq_of_lt ha
 have e2 : (1 : Int) = ((1 : Nat) : Int) := rfl
 have e3 : 1 % 2 ^ IntKind.u32.bits = 1 := rfl
 rw [e2]
 simp only [bits, BitVec.ofInt_natCast, BitVec.toNat_and, BitVec.toNat_ofNat, e1, e3]
 rw [IntKind.wrap_u32, Nat.and_one_is_mod]
 omega
theorem shift_any (r : Nat) (w : World) (h : r < 4294967296) :
  Calls Tryz.prog 135 #[.int .u32 r] w fun e w' => e = .returned (.int .u32 (it 8 r : Nat)) ∧ w' = w := by
 go_enter Tryz.func135, Tryz.ntmps135
 go_wp2
 go_loopw [0, 4] (fun a t wr => ∃ k : Nat, k ≤ 8 ∧ t = .int .i64 k ∧ a = .int .u32 (it k r : Nat) ∧ w = wr) (fun _ t _ => 8 - (intOf t).toNat)
 case atStart => exact ⟨0, by omega, rfl, rfl, rfl⟩
 case round =>
  obtain ⟨k, hk, rfl, rfl, rfl⟩ := hrel
  by_cases hlt : k < 8
  ·have k0 : (k : Int) < 8 := by omega
   have HX : Hid (it (k + 1) r = st (it k r)) := rfl
   have hx := it_lt h k
   obtain ⟨x, hxx⟩ : ∃ x, x = it k r := ⟨_, rfl⟩
   rw [← hxx] at hx
   have HXX : Hid (x = it k r) := hxx
   rw [← hxx]
   clear hxx
   have hb := ba32 x hx
   by_cases h1 : x % 2 = 1
   ·rw [h1] at hb
    have hs : bits .xor .u32 ((x : Int) / 2) 3988292384 = ((st x : Nat) : Int) := by
     have := bx32 (x / 2) 3988292384 (by omega) (by omega)
     simp only [st, h1, if_true]
     rw [← this]; rfl
    have H1 : Hid (x % 2 = 1) := h1
    clear h1
    go_wp2
    go_roundw
    case rel => exact ⟨k + 1, by omega, by go_num, by rw [HX.out, ← HXX.out], trivial⟩
    case measure => simp [intOf]; omega
   ·have h2 : x % 2 = 0 := by omega
    rw [h2] at hb
    have hs : (x : Int) / 2 = ((st x : Nat) : Int) := by
     simp only [st, h2]; rfl
    have H1 : Hid (x % 2 = 0) := h2
    clear h1 h2
    go_wp2
    go_roundw
    case rel => exact ⟨k + 1, by omega, by go_num, by rw [HX.out, ← HXX.out], trivial⟩
    case measure => simp [intOf]; omega
  ·obtain rfl : k = 8 := by omega
   go_wp2
   go_ret
   exact ⟨rfl, rfl⟩
end Go.Proofs.YtlcglapcmdpkfaaGreat
namespace Go.Proofs.YtlcglapcmdpkfaaGreat
open Go.RowKit Go.ChangeShapes Go.WideShapes
set_option linter.unusedSimpArgs false
set_option linter.unusedVariables false
set_option maxRecDepth 100000
set_option maxHeartbeats 16000000
def RowAt (W : World) (v : Value) (k size : Nat) (f : Nat → Value) : Prop :=
 (v = .slice none 0 0 ∧ k = 0) ∨ ∃ ad c, v = .slice (some ad) k c ∧ k ≤ c ∧ ∀ j, j < k * size → W.cell? (ad.add j) = some (f j)
theorem RowAt.frame {W W' : World} {v : Value} {k size : Nat} {f : Nat → Value} {bs : Nat → Prop} (h : RowAt W v k size f) (ho : Only bs W W') (hn : ∀ b, bs b → W.heap.size ≤ b) : RowAt W' v k size f := by
 rcases h with h | ⟨ad, c, hv, hkc, hc⟩
 ·exact .inl h
 ·exact .inr ⟨ad, c, hv, hkc, fun j hj => ho.cell (hc j hj) (fun e => by have := hn _ e; have := World.block_lt_of_cell? W _ (hc j hj); omega)⟩
theorem RowAt.at {W : World} {v : Value} {k size : Nat} {f : Nat → Value} (h : RowAt W v k size f) (hk : 0 < k * size) : ∃ g o c, v = .slice (some ⟨g, o, none⟩) k c ∧ (∀ j, j < k * size → W.cell? ⟨g, o + j, none⟩ = some (f j)) ∧ g < W.heap.size := by
 rcases h with ⟨_, h0⟩ | ⟨ad, c, hv, hkc, hc⟩
 ·subst h0; simp at hk
 ·have h0 := hc 0 hk
  have e0 : ad.add 0 = ad := by simp [Addr.add]
  rw [e0] at h0
  obtain ⟨g, o, spot⟩ := ad
  have hs : spot = none := World.cell?_spot h0
  subst hs
  exact ⟨g, o, c, hv, fun j hj => by rw [← Addr.add_mid]; exact hc j hj, World.block_lt_of_cell? W _ h0⟩
def BL (zs : List Nat) : List Value := zs.map fun z => .int .u8 (z : Nat)
theorem BL_length (zs : List Nat) : (BL zs).length = zs.length := by simp [BL]
theorem BL_get (zs : List Nat) (j : Nat) (h : j < zs.length) : (BL zs)[j]? = some (.int .u8 (zs[j] : Nat)) := by simp [BL, h]
theorem BL_getD (zs : List Nat) : BL zs = (List.range zs.length).map fun j => .int .u8 (zs.getD j 0 : Nat) := by
 apply List.ext_getElem
 ·simp [BL]
 ·intro i h1 h2
  simp [BL] at h1
  simp [BL, List.getD, h1]
theorem BL_append (a b : List Nat) : BL (a ++ b) = BL a ++ BL b := by simp [BL]
theorem BL_one (zs : List Nat) : ∀ v ∈ BL zs, v.oneCell' = true := by
 intro v hv
 simp only [BL, List.mem_map] at hv
 obtain ⟨j, _, rfl⟩ := hv
 rfl
def BytesAt (W : World) (v : Value) (zs : List Nat) : Prop := RowAt W v zs.length 1 (fun j => .int .u8 (zs.getD j 0 : Nat)) ∧ zs.length ≤ 140737488355328 ∧ ∀ z ∈ zs, z < 256
theorem BytesAt.frame {W W' : World} {v : Value} {zs : List Nat} (h : BytesAt W v zs) (ho : Only (fun _ => False) W W') : BytesAt W' v zs := ⟨h.1.frame ho (fun _ e => e.elim), h.2⟩
theorem BytesAt.form {W : World} {v : Value} {zs : List Nat} (h : BytesAt W v zs) : ∃ a c, v = .slice a zs.length c ∧ zs.length ≤ c ∧ ∀ j, j < zs.length → ∃ g o, a = some ⟨g, o, none⟩ ∧ W.cell? ⟨g, o + j, none⟩ = some (.int .u8 (zs.getD j 0 : Nat)) := by
 rcases h.1 with ⟨rfl, h0⟩ | ⟨ad, c, rfl, hkc, hc⟩
 ·exact ⟨none, 0, by rw [h0], by omega, fun j hj => by omega⟩
 ·refine ⟨some ad, c, rfl, hkc, fun j hj => ?_⟩
  obtain ⟨g, o, c', hv, hc', _⟩ := h.1.at (by omega)
  simp only [Value.slice.injEq, Option.some.injEq] at hv
  obtain ⟨rfl, _, rfl⟩ := hv
  exact ⟨g, o, rfl, hc' j (by omega)⟩
section
variable {H : Type} {enc : TypeId × Value → H} {w : World} {base fuel : Nat} {held : Bool}
theorem cells5 : Tryz.prog.cellsOf 5 = 1 := by kernel_rfl
theorem bytes5 : Tryz.prog.bytesOf 5 = 1 := by kernel_rfl
theorem u8_bounds {z : Int} (h : (Lit.int .u8 z).wf = true) : 0 ≤ z ∧ z ≤ 255 := by
 have h' : IntKind.u8.min ≤ z ∧ z ≤ IntKind.u8.max := by simpa [Lit.wf] using h
 exact h'
def InAt (W : World) (v : Value) (zs : List Nat) : Prop := BytesAt W v zs ∧ zs.length ≤ 140737488351232
theorem read_bytes {v : Value} {x : DataW H × List MemPlace} (h : DataW.trod enc Tryz.prog w base (fun _ => true) held fuel 37 [v] = some x) (hw : ∀ n ∈ x.1.weights Tryz.prog 37, n ≤ reachBytes) : ∃ zs, InAt w v zs := by
 rcases open_ints Tryz.underlying37 Tryz.underlying5 cells5 h with ⟨hcs, _⟩ | ⟨a, len, cap, zs, hcs, _, hl, hm, hz, hx, hcell, hwz⟩
 ·simp at hcs
  exact ⟨[], ⟨.inl ⟨hcs, rfl⟩, Nat.zero_le _, fun _ h => by cases h⟩, Nat.zero_le _⟩
 ·simp at hcs
  rw [if_pos rfl] at hz
  have hb := hw _ (by rw [hx]; simp only [DataW.weights, Tryz.underlying37]; exact List.mem_cons_self ..)
  rw [bytes5] at hb
  simp only [lits, List.length_map, List.length_take, List.length_drop, reachBytes] at hb
  have hlen : ((zs.take len).map Int.toNat).length = len := by rw [List.length_map, List.length_take]; omega
  refine ⟨(zs.take len).map Int.toNat, ⟨.inr ⟨a, cap, by rw [hlen]; exact hcs, by rw [hlen]; exact hl, fun j hj => ?_⟩, by rw [hlen]; omega, fun z hz' => ?_⟩, by rw [hlen]; omega⟩
  ·rw [hlen] at hj
   rw [hcell j (by omega)]
   have hj2 : j < zs.length := by omega
   have : ((zs.take len).map Int.toNat).getD j 0 = (zs.getD j 0).toNat := by
    simp only [List.getD]
    rw [List.getElem?_map, List.getElem?_take_of_lt (by omega), List.getElem?_eq_getElem hj2]
    rfl
   have hz0 := u8_bounds (hwz (zs[j]) (List.getElem_mem hj2))
   show some (Value.int IntKind.u8 (zs.getD j 0)) = some (Value.int IntKind.u8 ((((zs.take len).map Int.toNat).getD j 0 : Nat) : Int))
   rw [this]
   simp only [List.getD, List.getElem?_eq_getElem hj2, Option.getD_some]
   rw [Int.toNat_of_nonneg hz0.1]
  ·obtain ⟨y, hy, rfl⟩ := List.mem_map.1 hz'
   have := u8_bounds (hwz y (List.mem_of_mem_take hy))
   omega
end
theorem info_parts {t : TypeId} {z : Value} {s b : Nat} (h : (Tryz.prog.info? t).map (fun i => (i.zero, i.size, i.bytes)) = some (some z, s, b)) : ∃ i, Tryz.prog.info? t = some i ∧ i.zero = some z ∧ i.size = s ∧ i.bytes = b := by
 cases hi : Tryz.prog.info? t with
 | none => rw [hi] at h; simp at h
 | some i => rw [hi] at h; simp at h; exact ⟨i, rfl, h.1, h.2.1, h.2.2⟩
theorem info5 : (Tryz.prog.info? 5).map (fun i => (i.zero, i.size, i.bytes)) = some (some (.int .u8 0), 1, 1) := by kernel_rfl
theorem empty23 (w : World) : (Instr.buildSlice 37 0 #[]).run Tryz.prog w = .ok (.slice (some ⟨w.heap.size, 0, none⟩) 0 0) (w.alloc (.cells #[] 5)) := by kernel_rfl
section
variable {P : Program} {op : Oper} {a : Act} {w w' : World} {K : Act → World → Prop} {Q : Exit → Act → World → Prop}
theorem wp_append_run (s x : Operand) (t : TypeId) (ho : op.op = .call { callee := .builtin .append, args := #[s, x], argTypes := #[t, t] }) (v1 v2 v' : Value) (hs : a.eval s = v1) (hx : a.eval x = v2)
  (hr : (Builtin.append_ #[t, t] op.type #[v1, v2]).run P w = .ok v' w') (h : K (a.put op.dst v') w') : op.wp P a w K Q := by
 unfold Oper.wp
 simp [execOp, ho, resolve, invoke, builtin, hs, hx, hr, Result.andThen]
 exact h
theorem step_append_run {ops : Array Oper} {E : Prop} (hgd : op.guard = none) (s x : Operand) (t : TypeId) (ho : op.op = .call { callee := .builtin .append, args := #[s, x], argTypes := #[t, t] }) (v1 v2 v' : Value) (hs : a.eval s = v1) (hx : a.eval x = v2)
  (hr : ∀ ty, (Builtin.append_ #[t, t] ty #[v1, v2]).run P w = .ok v' w') (h : K (a.put op.dst v') w') : if Region.wanted op (yielded ops a.tmps) = true then Oper.wp P op a w K Q else E := by
 have hw : Region.wanted op (yielded ops a.tmps) = true := by simp [Region.wanted, hgd]
 rw [if_pos hw]
 exact wp_append_run s x t ho v1 v2 v' hs hx (hr _) h
theorem wpList_append_run {ops : Array Oper} {rest : List Oper} (hgd : op.guard = none) (s x : Operand) (t : TypeId) (ho : op.op = .call { callee := .builtin .append, args := #[s, x], argTypes := #[t, t] }) (v1 v2 v' : Value) (hs : a.eval s = v1) (hx : a.eval x = v2)
  (hr : ∀ ty, (Builtin.append_ #[t, t] ty #[v1, v2]).run P w = .ok v' w') (h : wpList P ops Q rest (a.put op.dst v') w') : wpList P ops Q (op :: rest) a w :=
 wpList_plain hgd fun _ hK => wp_append_run s x t ho v1 v2 v' hs hx (hr _) (hK _ _ h)
end
theorem app_copy (t e : TypeId) (i : TypeInfo) (z : Value) (bytes : Nat) (ht : Tryz.prog.underlying t = some (.slice e)) (hi : Tryz.prog.info? e = some i) (hz : i.zero = some z) (hsize : i.size = 1) (hby : i.bytes = bytes) (hzs : z.cells.size = 1) (hb1 : bytes = 1)
  (w : World) (v : Value) (m : Nat) (f : Nat → Value) (hv : RowAt w v m 1 f) (ho : ∀ j, (f j).oneCell' = true) (hm : m ≤ 140737488355328) :
  ∃ a cap w', (∀ ty, (Builtin.append_ #[t, t] ty #[.slice (some ⟨w.heap.size, 0, none⟩) 0 0, v]).run Tryz.prog (w.alloc (.cells #[] e)) = .ok (.slice a m cap) w') ∧ w'.ownsRow w.heap.size e 1 (.slice a m cap) m ((List.range m).map f) ∧ Only (fun _ => False) w w' := by
 have hown : (w.alloc (.cells #[] e)).ownsRow w.heap.size e 1 (.slice (some ⟨w.heap.size, 0, none⟩) 0 0) 0 [] := World.ownsRow_made w #[] 0 (Nat.le_refl _) (Nat.zero_le _) rfl
 have oA : Only (fun _ => False) w (w.alloc (.cells #[] e)) := (Only.refl _ w).alloc _
 rcases hv with ⟨rfl, rfl⟩ | ⟨ad, c, rfl, hkc, hc⟩
 ·exact ⟨some ⟨w.heap.size, 0, none⟩, 0, _, fun ty => run_append_owned_none _ w.heap.size t ty e i 1 ht hi _ 0 [] hown, by simpa using hown, oA⟩
 ·have hnews : ∀ j u, ((List.range m).map f)[j]? = some u → (w.alloc (.cells #[] e)).cell? (ad.add j) = some u := fun j u hu => by
   have hj : j < m := by have := (List.getElem?_eq_some_iff.1 hu).1; simpa using this
   simp [hj] at hu
   rw [← hu]
   exact oA.cell (hc j (by omega)) (fun e => e)
  have h1 : ∀ u ∈ (List.range m).map f, u.oneCell' = true := fun u hu => by obtain ⟨j, _, rfl⟩ := List.mem_map.1 hu; exact ho j
  have key := fun ty => run_append_own_at (P := Tryz.prog) (w.alloc (.cells #[] e)) w.heap.size t ty e i z 1 bytes ht hi hz hsize hby hzs (by omega) _ 0 [] hown ad m c ((List.range m).map f) (by simp) hnews h1 (by unfold maxLen; omega) (by subst hb1; omega) (by simp)
  obtain ⟨v', w', hr, own', hg, _, _⟩ := key 0
  obtain ⟨a, cap, rfl⟩ := ownsRow_slice own'
  rw [Nat.zero_add] at own' hr
  refine ⟨a, cap, w', fun ty => ?_, by simpa using own', oA.grown hg (fun k e hk => by simp [Value.ownBlock] at e; omega)⟩
  rw [← hr]
  rfl
theorem rowAt_own {w : World} {B e m cap : Nat} {a : Option Addr} {f : Nat → Value} (h : w.ownsRow B e 1 (.slice a m cap) m ((List.range m).map f)) : RowAt w (.slice a m cap) m 1 f := by
 rcases h.2 with ⟨h1, h2⟩ | ⟨g, c2, cur, hv, _, _, hmc, _⟩
 ·exact .inl ⟨h1, h2⟩
 ·simp only [Value.slice.injEq] at hv
  obtain ⟨rfl, _, rfl⟩ := hv
  refine .inr ⟨⟨g, 0, none⟩, cap, rfl, hmc, fun j hj => ?_⟩
  rw [Addr.add_mid, Nat.zero_add, h.cellAt j (by omega)]
  have hj' : j < m := by omega
  simp [hj']
def Fresh (w : World) (B : Nat) (v : Value) (zs : List Nat) : Prop := w.ownsRow B 5 1 v zs.length (BL zs) ∧ zs.length ≤ 140737488355328 ∧ ∀ z ∈ zs, z < 256
theorem Fresh.bytes {w : World} {B : Nat} {v : Value} {zs : List Nat} (h : Fresh w B v zs) : BytesAt w v zs := by
 obtain ⟨a, c, rfl⟩ := ownsRow_slice h.1
 exact ⟨rowAt_own (by rw [← BL_getD]; exact h.1), h.2⟩
theorem Fresh.frame {w w' : World} {B : Nat} {v : Value} {zs : List Nat} (h : Fresh w B v zs) (ho : Only (fun _ => False) w w') : Fresh w' B v zs := ⟨ho.owns h.1 (fun _ _ e => e), h.2⟩
theorem Fresh.more {w : World} {B : Nat} {v : Value} {zs l : List Nat} (h : w.ownsRow B 5 1 v (zs.length + l.length) (BL zs ++ BL l)) (hm : zs.length + l.length ≤ 140737488355328) (hz : ∀ z ∈ zs, z < 256) (hl : ∀ z ∈ l, z < 256) : Fresh w B v (zs ++ l) :=
 ⟨by rw [BL_append, List.length_append]; exact h, by rw [List.length_append]; exact hm, fun z h => (List.mem_append.1 h).elim (hz z) (hl z)⟩
theorem Fresh.form {w : World} {B : Nat} {v : Value} {zs : List Nat} (h : Fresh w B v zs) : ∃ a c, v = .slice a zs.length c := ownsRow_slice h.1
end Go.Proofs.YtlcglapcmdpkfaaGreat
namespace Go.Proofs.YtlcglapcmdpkfaaGreat
open Go.RowKit
set_option linter.unusedSimpArgs false
set_option linter.unusedVariables false
set_option maxRecDepth 100000
set_option maxHeartbeats 16000000
theorem own_any (v : Value) (zs : List Nat) (w : World) (h : BytesAt w v zs) :
  Calls Tryz.prog 25 #[v] w fun e w' => ∃ u, e = .returned u ∧ Fresh w' w.heap.size u zs ∧ Only (fun _ => False) w w' := by
 obtain ⟨i0, hi0, hz0, hz1, hz2⟩ := info_parts info5
 obtain ⟨a, cap, w', hr, own, ho⟩ := app_copy 37 5 i0 _ 1 Tryz.underlying37 hi0 hz0 hz1 hz2 rfl rfl w v zs.length _ h.1 (fun j => rfl) h.2.1
 rw [← BL_getD] at own
 have HR : Hid _ := hr
 have HF : Hid (Fresh w' w.heap.size (.slice a zs.length cap) zs) := ⟨own, h.2⟩
 have HO : Hid (Only (fun _ => False) w w') := ho
 have hem := empty23
 clear hr own ho h
 go_enter Tryz.func25, Tryz.ntmps25
 go_wp2_with (at_builtin; refine wpList_append_run rfl _ _ 37 rfl _ _ (.slice a zs.length cap) rfl rfl HR.out ?_)
 go_ret
 exact ⟨_, rfl, HF.out, HO.out⟩
theorem fold_take (zs : List Nat) (k : Nat) (h : k < zs.length) : (zs.take (k + 1)).foldl eat 4294967295 = eat ((zs.take k).foldl eat 4294967295) (zs.getD k 0) := by
 rw [List.take_succ_eq_append_getElem h, List.foldl_append]
 simp [List.getD, h]
theorem getD_lt {zs : List Nat} (h : ∀ z ∈ zs, z < 256) (k : Nat) : zs.getD k 0 < 256 := by
 simp only [List.getD]
 rcases Nat.lt_or_ge k zs.length with hk | hk
 ·rw [List.getElem?_eq_getElem hk]; exact h _ (List.getElem_mem hk)
 ·rw [List.getElem?_eq_none hk]; decide
theorem sum_any (v : Value) (zs : List Nat) (w : World) (h : BytesAt w v zs) :
  Calls Tryz.prog 126 #[v] w fun e w' => e = .returned (.int .u32 (sumN zs : Nat)) ∧ w' = w := by
 obtain ⟨a, c, rfl, hcap, hc⟩ := h.form
 have hlt := h.2.2
 have HL : Hid (∀ z ∈ zs, z < 256) := hlt
 have HC : Hid _ := hc
 obtain ⟨m, hm⟩ : ∃ m, m = zs.length := ⟨_, rfl⟩
 have HM : Hid (m = zs.length) := hm
 have hm2 : m ≤ 140737488355328 := hm ▸ h.2.1
 rw [← hm]
 clear h hc hlt hm hcap
 go_enter Tryz.func126, Tryz.ntmps126
 go_wp2
 go_loopw [3, 8] (fun r t wr => ∃ k : Nat, k ≤ m ∧ t = .int .i64 k ∧ r = .int .u32 ((zs.take k).foldl eat 4294967295 : Nat) ∧ w = wr) (fun _ t _ => m - (intOf t).toNat)
 case atStart => exact ⟨0, Nat.zero_le _, rfl, rfl, rfl⟩
 case round =>
  obtain ⟨k, hk, rfl, rfl, rfl⟩ := hrel
  by_cases hlt : k < m
  ·have k0 : (0 : Int) ≤ (k : Int) := Int.natCast_nonneg _
   have k1 : (k : Int) < (m : Int) := by omega
   obtain ⟨g, o, rfl, hcell⟩ := HC.out k (by have := HM.out; omega)
   have HF : Hid _ := fold_take zs k (by have := HM.out; omega)
   have hz := getD_lt HL.out k
   have hx : (zs.take k).foldl eat 4294967295 < 4294967296 := fold_lt _ _ (by omega) (fun z hz => HL.out z (List.mem_of_mem_take hz))
   obtain ⟨x, hxx⟩ : ∃ x, x = (zs.take k).foldl eat 4294967295 := ⟨_, rfl⟩
   obtain ⟨z, hzz⟩ : ∃ z, z = zs.getD k 0 := ⟨_, rfl⟩
   rw [← hxx] at hx HF
   rw [← hzz] at hz hcell HF
   rw [← hxx]
   clear hxx hzz
   have hb := bx32 x z hx (by omega)
   have hs : x ^^^ z < 4294967296 := Nat.xor_lt_two_pow (n := 32) hx (by omega)
   go_wp2_with (go_at_call 135; refine (shift_any _ _ hs).mono ?_; rintro e w' ⟨rfl, rfl⟩)
   go_roundw
   case rel => exact ⟨k + 1, by omega, by go_num, by rw [HF.out]; rfl, trivial⟩
   case measure => simp [intOf]; omega
  ·obtain rfl : k = m := by omega
   have hx : reg zs < 4294967296 := reg_lt zs HL.out
   have hb : bits .xor .u32 ((zs.take k).foldl eat 4294967295 : Nat) 4294967295 = (sumN zs : Nat) := by
    rw [HM.out, List.take_length]
    exact bx32 (reg zs) 4294967295 hx (by omega)
   go_wp2
   go_ret
   exact ⟨rfl, rfl⟩
def rr (k r c : Nat) : Nat := it k (r ^^^ c) ^^^ c / 2 ^ k
theorem rr_zero (r c : Nat) : rr 0 r c = r := by simp [rr, it, Nat.xor_assoc]
theorem rr_bit (k r c : Nat) : (rr k r c ^^^ c / 2 ^ k) = it k (r ^^^ c) := by simp [rr, Nat.xor_assoc]
theorem rr_succ (k r c : Nat) : rr (k + 1) r c = if (rr k r c ^^^ c / 2 ^ k) % 2 = 1 then rr k r c / 2 ^^^ 3988292384 else rr k r c / 2 := by
 rw [rr_bit]
 have e1 : rr k r c / 2 = it k (r ^^^ c) / 2 ^^^ c / 2 ^ (k + 1) := by
  unfold rr
  rw [xor_half, Nat.div_div_eq_div_mul, ← Nat.pow_succ]
 rw [e1]
 show st (it k (r ^^^ c)) ^^^ c / 2 ^ (k + 1) = _
 unfold st
 split
 ·rw [Nat.xor_assoc, Nat.xor_assoc, Nat.xor_comm 3988292384]
 ·rfl
theorem rr_eight (r c : Nat) (h : c < 256) : rr 8 r c = eat r c := by
 have : c / 2 ^ 8 = 0 := by omega
 simp [rr, this, eat]
theorem half_le (c k : Nat) : c / 2 ^ k ≤ c := Nat.div_le_self _ _
theorem rr_lt (k r c : Nat) (hr : r < 4294967296) (hc : c < 256) : rr k r c < 4294967296 :=
 Nat.xor_lt_two_pow (n := 32) (it_lt (Nat.xor_lt_two_pow (n := 32) hr (by omega)) k) (by have := half_le c k; omega)
theorem rsum_any (v : Value) (zs : List Nat) (w : World) (h : BytesAt w v zs) :
  Calls Tryz.prog 128 #[v] w fun e w' => e = .returned (.int .u32 (sumN zs : Nat)) ∧ w' = w := by
 obtain ⟨a, c, rfl, hcap, hc⟩ := h.form
 have hlt := h.2.2
 have HL : Hid (∀ z ∈ zs, z < 256) := hlt
 have HC : Hid _ := hc
 obtain ⟨m, hm⟩ : ∃ m, m = zs.length := ⟨_, rfl⟩
 have HM : Hid (m = zs.length) := hm
 have hm2 : m ≤ 140737488355328 := hm ▸ h.2.1
 rw [← hm]
 clear h hc hlt hm hcap
 go_enter Tryz.func128, Tryz.ntmps128
 go_wp2
 go_loopw [3, 4] (fun r t wr => ∃ k : Nat, k ≤ m ∧ t = .int .i64 k ∧ r = .int .u32 ((zs.take k).foldl eat 4294967295 : Nat) ∧ w = wr) (fun _ t _ => m - (intOf t).toNat)
 case atStart => exact ⟨0, Nat.zero_le _, rfl, rfl, rfl⟩
 case round =>
  obtain ⟨k, hk, rfl, rfl, rfl⟩ := hrel
  by_cases hlt : k < m
  ·have k0 : (0 : Int) ≤ (k : Int) := Int.natCast_nonneg _
   have k1 : (k : Int) < (m : Int) := by omega
   obtain ⟨g, o, rfl, hcell⟩ := HC.out k (by have := HM.out; omega)
   have HF : Hid _ := fold_take zs k (by have := HM.out; omega)
   have hz := getD_lt HL.out k
   have hx : (zs.take k).foldl eat 4294967295 < 4294967296 := fold_lt _ _ (by omega) (fun z hz => HL.out z (List.mem_of_mem_take hz))
   obtain ⟨x, hxx⟩ : ∃ x, x = (zs.take k).foldl eat 4294967295 := ⟨_, rfl⟩
   obtain ⟨z, hzz⟩ : ∃ z, z = zs.getD k 0 := ⟨_, rfl⟩
   rw [← hxx] at hx HF
   rw [← hzz] at hz hcell HF
   rw [← hxx]
   clear hxx hzz
   go_wp2_with fail
   go_loopw [3, 5] (fun r t wr => ∃ q : Nat, q ≤ 8 ∧ t = .int .i64 q ∧ r = .int .u32 (rr q x z : Nat) ∧ w = wr) (fun _ t _ => 8 - (intOf t).toNat)
   case atStart => exact ⟨0, Nat.zero_le _, rfl, by rw [rr_zero], rfl⟩
   case round =>
    obtain ⟨q, hq, rfl, rfl, rfl⟩ := hrel
    by_cases hlq : q < 8
    ·have q0 : (0 : Int) ≤ (q : Int) := Int.natCast_nonneg _
     have q1 : (q : Int) < 8 := by omega
     have HS : Hid _ := rr_succ q x z
     have hr := rr_lt q x z hx hz
     obtain ⟨r, hrr⟩ : ∃ r, r = rr q x z := ⟨_, rfl⟩
     rw [← hrr] at hr HS
     rw [← hrr]
     clear hrr
     obtain ⟨y, hy⟩ : ∃ y, y = z / 2 ^ q := ⟨_, rfl⟩
     have hyi : (z : Int) / 2 ^ q = (y : Nat) := by rw [hy]; simp
     have hy2 : y < 256 := by have := half_le z q; omega
     rw [← hy] at HS
     have hb := bx32 r y hr (by omega)
     clear hy
     by_cases h1 : (r ^^^ y) % 2 = 1
     ·have hm1 : ((r ^^^ y : Nat) : Int) % 2 = 1 := by omega
      have hs : bits .xor .u32 ((r : Int) / 2) 3988292384 = ((rr (q + 1) x z : Nat) : Int) := by
       have := bx32 (r / 2) 3988292384 (by omega) (by omega)
       rw [HS.out, if_pos h1, ← this]; rfl
      clear h1
      go_wp2
      go_roundw
      case rel => exact ⟨q + 1, by omega, by go_num, by rfl, trivial⟩
      case measure => simp [intOf]; omega
     ·have hm1 : ((r ^^^ y : Nat) : Int) % 2 = 0 := by omega
      have hs : (r : Int) / 2 = ((rr (q + 1) x z : Nat) : Int) := by
       rw [HS.out, if_neg h1]; rfl
      clear h1
      go_wp2
      go_roundw
      case rel => exact ⟨q + 1, by omega, by go_num, by rfl, trivial⟩
      case measure => simp [intOf]; omega
    ·obtain rfl : q = 8 := by omega
     rw [rr_eight x z hz]
     go_wp2
     go_roundw
     case rel => exact ⟨k + 1, by omega, by go_num, by rw [HF.out], trivial⟩
     case measure => simp [intOf]; omega
  ·obtain rfl : k = m := by omega
   have hx : reg zs < 4294967296 := reg_lt zs HL.out
   have hb : bits .xor .u32 ((zs.take k).foldl eat 4294967295 : Nat) 4294967295 = (sumN zs : Nat) := by
    rw [HM.out, List.take_length]
    exact bx32 (reg zs) 4294967295 hx (by omega)
   go_wp2
   go_ret
   exact ⟨rfl, rfl⟩
def Whole (w : World) (v : Value) (n : Nat) (f : Nat → Value) : Prop :=
 ∃ a c, v = .slice a n c ∧ n ≤ c ∧ c ≤ maxLen ∧ (a = none → c = 0) ∧ (0 < c → ∃ g o, a = some ⟨g, o, none⟩ ∧ w.there g o c ∧ ∀ j, j < n → w.cell? ⟨g, o + j, none⟩ = some (f j))
theorem Whole.frame {w w' : World} {v : Value} {n : Nat} {f : Nat → Value} {bs : Nat → Prop} (h : Whole w v n f) (ho : Only bs w w') (hn : ∀ b, v.ownBlock = some b → ¬ bs b) : Whole w' v n f := by
 obtain ⟨a, c, rfl, h1, h2, h3, h4⟩ := h
 refine ⟨a, c, rfl, h1, h2, h3, fun hc => ?_⟩
 obtain ⟨g, o, rfl, ht, hf⟩ := h4 hc
 have hg := hn g rfl
 exact ⟨g, o, rfl, ho.there ht hg, fun j hj => ho.cell (hf j hj) hg⟩
theorem Whole.nil (w : World) (f : Nat → Value) : Whole w (.slice none 0 0) 0 f := ⟨none, 0, rfl, Nat.le_refl _, by unfold maxLen; omega, fun _ => rfl, fun h => by omega⟩
theorem Whole.congr {w : World} {v : Value} {n : Nat} {f f' : Nat → Value} (h : Whole w v n f) (he : ∀ j, j < n → f' j = f j) : Whole w v n f' := by
 obtain ⟨a, c, rfl, h1, h2, h3, h4⟩ := h
 refine ⟨a, c, rfl, h1, h2, h3, fun hc => ?_⟩
 obtain ⟨g, o, rfl, ht, hf⟩ := h4 hc
 exact ⟨g, o, rfl, ht, fun j hj => by rw [he j hj]; exact hf j hj⟩
theorem Whole.len {w : World} {v : Value} {n : Nat} {f : Nat → Value} (h : Whole w v n f) : n ≤ maxLen := by
 obtain ⟨a, c, rfl, h1, h2, _⟩ := h
 omega
theorem Whole.form {w : World} {v : Value} {n : Nat} {f : Nat → Value} (h : Whole w v n f) (hn : 0 < n) : ∃ g o c, v = .slice (some ⟨g, o, none⟩) n c ∧ (∀ j, j < n → w.cell? ⟨g, o + j, none⟩ = some (f j)) ∧ (∀ j, j < n → w.frozen? ⟨g, o + j, none⟩ = false) := by
 obtain ⟨a, c, rfl, h1, h2, h3, h4⟩ := h
 obtain ⟨g, o, rfl, ht, hf⟩ := h4 (by omega)
 exact ⟨g, o, c, rfl, hf, fun j hj => (ht j (by omega)).2⟩
theorem Whole.slice {w : World} {v : Value} {n : Nat} {f : Nat → Value} (h : Whole w v n f) : ∃ a c, v = .slice a n c := by
 obtain ⟨a, c, rfl, _⟩ := h
 exact ⟨a, c, rfl⟩
theorem Whole.setCell {w : World} {n c g o : Nat} {f : Nat → Value} (h : Whole w (.slice (some ⟨g, o, none⟩) n c) n f) (j : Nat) (hj : j < n) (u : Value) : Whole (w.setCell ⟨g, o + j, none⟩ u) (.slice (some ⟨g, o, none⟩) n c) n (fun q => if q = j then u else f q) := by
 obtain ⟨a, c', hv, h1, h2, h3, h4⟩ := h
 simp only [Value.slice.injEq] at hv
 obtain ⟨rfl, _, rfl⟩ := hv
 refine ⟨_, c, rfl, h1, h2, h3, fun hc => ?_⟩
 obtain ⟨g', o', hg, ht, hf⟩ := h4 hc
 simp only [Option.some.injEq, Addr.mk.injEq, and_true] at hg
 obtain ⟨rfl, rfl⟩ := hg
 have hs : w.setCell ⟨g, o + j, none⟩ u = w.setCells g (o + j) [u] := rfl
 refine ⟨g, o, rfl, by rw [hs]; exact World.there_setCells ht _ _ _, fun q hq => ?_⟩
 by_cases e : q = j
 ·subst e
  simp only [if_true]
  rw [hs]
  have := World.cell?_setCells_in g [u] (o + q) w (fun i hi => by simp at hi; subst hi; exact (ht q (by omega)).1) 0 (by simp)
  simpa using this
 ·simp only [if_neg e]
  rw [hs, World.cell?_setCells_out g _ _ _ _ (fun _ _ => by simp; omega)]
  exact hf q hq
def Th (w w' : World) : Prop := ∀ g o c, w.there g o c → w'.there g o c
theorem Th.refl (w : World) : Th w w := fun _ _ _ h => h
theorem Th.trans {a b c : World} (h : Th a b) (h' : Th b c) : Th a c := fun g o n k => h' g o n (h g o n k)
theorem Only.th {w w' : World} (h : Only (fun _ => False) w w') : Th w w' := fun _ _ _ k => h.there k (fun e => e)
theorem Th.setCells (w : World) (g o : Nat) (vs : List Value) : Th w (w.setCells g o vs) := fun _ _ _ k => World.there_setCells k _ _ _
section
variable {P : Program}
end
theorem BytesAt.take {w : World} {a : Option Addr} {m c n : Nat} {zs : List Nat} (h : BytesAt w (.slice a m c) zs) (hn : n ≤ m) : BytesAt w (.slice a n c) (zs.take n) := by
 have hl : (zs.take n).length ≤ zs.length := by rw [List.length_take]; omega
 have hz : ∀ z ∈ zs.take n, z < 256 := fun z hz => h.2.2 z (List.mem_of_mem_take hz)
 rcases h.1 with ⟨hv, h0⟩ | ⟨ad, c', hv, hkc, hc⟩
 ·simp only [Value.slice.injEq] at hv
  obtain ⟨rfl, rfl, rfl⟩ := hv
  obtain rfl : n = 0 := by omega
  exact ⟨.inl ⟨rfl, by simp⟩, by have := h.2.1; omega, hz⟩
 ·simp only [Value.slice.injEq] at hv
  obtain ⟨rfl, rfl, rfl⟩ := hv
  have e : (zs.take n).length = n := by rw [List.length_take]; omega
  refine ⟨.inr ⟨ad, c, by rw [e], by omega, fun j hj => ?_⟩, by have := h.2.1; omega, hz⟩
  rw [e] at hj
  rw [hc j (by omega)]
  have : (zs.take n).getD j 0 = zs.getD j 0 := by simp only [List.getD]; rw [List.getElem?_take_of_lt (by omega)]
  simp only [this]
theorem Whole.bytes {w : World} {v : Value} {n : Nat} {f : Nat → Nat} (h : Whole w v n (fun j => .int .u8 (f j : Nat))) (hn : n ≤ 140737488355328) (hf : ∀ j, j < n → f j < 256) : BytesAt w v ((List.range n).map f) := by
 obtain ⟨a, c, rfl, h1, h2, h3, h4⟩ := h
 have hz : ∀ z ∈ (List.range n).map f, z < 256 := fun z hz => by obtain ⟨j, hj, rfl⟩ := List.mem_map.1 hz; exact hf j (by simpa using hj)
 by_cases hc : c = 0
 ·obtain rfl : n = 0 := by omega
  cases a with
  | none => subst hc; exact ⟨.inl ⟨rfl, by simp⟩, by simp, hz⟩
  | some ad => exact ⟨.inr ⟨ad, c, by simp, by simp, fun j hj => by simp at hj⟩, by simp, hz⟩
 ·obtain ⟨g, o, rfl, ht, hcell⟩ := h4 (by omega)
  refine ⟨.inr ⟨⟨g, o, none⟩, c, by simp, by simpa using h1, fun j hj => ?_⟩, by simpa using hn, hz⟩
  simp at hj
  rw [Addr.add_mid, hcell j hj]
  simp [List.getD, hj]
theorem make23 (n : Nat) (hn : n ≤ 140737488355328) (w : World) : (Instr.makeSlice 37 (.int .i64 n) (.int .i64 n)).run Tryz.prog w = .ok (.slice (some ⟨w.heap.size, 0, none⟩) n n) (w.alloc (.cells (madeCells (Value.int .u8 0).cells n) 5)) := by
 obtain ⟨i0, hi0, hz0, hz1, hz2⟩ := info_parts info5
 have := run_make (P := Tryz.prog) w 37 5 i0 _ Tryz.underlying37 hi0 hz0 .i64 .i64 (n : Int) (n : Int) (by omega) (Int.le_refl _) (by rw [hz2]; omega) (by omega)
 rw [hz1, show ((n : Int)).toNat = n by omega, Nat.mul_one] at this
 exact this
end Go.Proofs.YtlcglapcmdpkfaaGreat
namespace Go.Proofs.YtlcglapcmdpkfaaGreat
set_option linter.unusedSimpArgs false
set_option linter.unusedVariables false
set_option maxRecDepth 100000
set_option maxHeartbeats 16000000
def byteOf (x i : Nat) : Nat := x / 2 ^ (8 * i) % 256
def turned (b : Nat → Nat) (x p k : Nat) : Nat → Nat := fun j => if p ≤ j ∧ j < p + k then b j ^^^ byteOf x (j - p) else b j
def lay4 (n : Nat) : List Nat := [n % 256, n / 256 % 256, n / 65536 % 256, n / 16777216 % 256]
def val4 (zs : List Nat) (p : Nat) : Nat := zs.getD p 0 + 256 * zs.getD (p + 1) 0 + 65536 * zs.getD (p + 2) 0 + 16777216 * zs.getD (p + 3) 0
theorem lay4_length (n : Nat) : (lay4 n).length = 4 := rfl
theorem lay4_lt (n : Nat) : ∀ z ∈ lay4 n, z < 256 := by
 intro z hz
 simp only [lay4, List.mem_cons, List.not_mem_nil, or_false] at hz
 omega
theorem getD_byte {zs : List Nat} (h : ∀ z ∈ zs, z < 256) (k : Nat) : zs.getD k 0 < 256 := by
 simp only [List.getD]
 rcases Nat.lt_or_ge k zs.length with hk | hk
 ·rw [List.getElem?_eq_getElem hk]; exact h _ (List.getElem_mem hk)
 ·rw [List.getElem?_eq_none hk]; decide
theorem val4_lt {zs : List Nat} (h : ∀ z ∈ zs, z < 256) (p : Nat) : val4 zs p < 4294967296 := by
 have h0 := getD_byte h p
 have h1 := getD_byte h (p + 1)
 have h2 := getD_byte h (p + 2)
 have h3 := getD_byte h (p + 3)
 unfold val4
 omega
theorem lay4_val4 {zs : List Nat} (h : ∀ z ∈ zs, z < 256) (p : Nat) (hp : p + 4 ≤ zs.length) : lay4 (val4 zs p) = (zs.drop p).take 4 := by
 have h0 := getD_byte h p
 have h1 := getD_byte h (p + 1)
 have h2 := getD_byte h (p + 2)
 have h3 := getD_byte h (p + 3)
 have e : (zs.drop p).take 4 = [zs.getD p 0, zs.getD (p + 1) 0, zs.getD (p + 2) 0, zs.getD (p + 3) 0] := by
  apply List.ext_getElem
  ·simp; omega
  ·intro i h4 h5
   simp at h5
   have hi : p + i < zs.length := by omega
   simp only [List.getElem_take, List.getElem_drop]
   match i, h5 with
   | 0, _ => simp [List.getD, show p < zs.length by omega]
   | 1, _ => simp [List.getD, show p + 1 < zs.length by omega]
   | 2, _ => simp [List.getD, show p + 2 < zs.length by omega]
   | 3, _ => simp [List.getD, show p + 3 < zs.length by omega]
 rw [e]
 unfold lay4 val4
 generalize zs.getD p 0 = a at *
 generalize zs.getD (p + 1) 0 = b at *
 generalize zs.getD (p + 2) 0 = c at *
 generalize zs.getD (p + 3) 0 = d at *
 simp only [List.cons.injEq, and_true]
 omega
theorem val4_lay4 (n : Nat) (h : n < 4294967296) (l : List Nat) : val4 (lay4 n ++ l) 0 = n := by
 simp only [val4, lay4, List.cons_append, List.nil_append, List.getD, List.getElem?_cons_zero, List.getElem?_cons_succ, Option.getD_some]
 omega
theorem lay4_inj {a b : Nat} (ha : a < 4294967296) (hb : b < 4294967296) (h : lay4 a = lay4 b) : a = b := by
 have h1 := val4_lay4 a ha []
 have h2 := val4_lay4 b hb []
 rw [h] at h1
 omega
def rest (id : Nat) (D : List Nat) : List Nat := lay4 id ++ (lay4 D.length ++ (D ++ List.replicate (116 - D.length) 0))
def page (id : Nat) (D : List Nat) : List Nat := lay4 (sumN (rest id D)) ++ rest id D
theorem rest_length (id : Nat) (D : List Nat) (h : D.length ≤ 116) : (rest id D).length = 124 := by
 simp only [rest, List.length_append, lay4_length, List.length_replicate]
 omega
theorem page_length (id : Nat) (D : List Nat) (h : D.length ≤ 116) : (page id D).length = 128 := by
 simp only [page, List.length_append, lay4_length, rest_length id D h]
theorem rest_lt (id : Nat) (D : List Nat) (h : ∀ z ∈ D, z < 256) : ∀ z ∈ rest id D, z < 256 := by
 intro z hz
 simp only [rest, List.mem_append] at hz
 rcases hz with hz | hz | hz | hz
 ·exact lay4_lt _ z hz
 ·exact lay4_lt _ z hz
 ·exact h z hz
 ·rw [List.eq_of_mem_replicate hz]; omega
theorem page_lt (id : Nat) (D : List Nat) (h : ∀ z ∈ D, z < 256) : ∀ z ∈ page id D, z < 256 := by
 intro z hz
 simp only [page, List.mem_append] at hz
 rcases hz with hz | hz
 ·exact lay4_lt _ z hz
 ·exact rest_lt id D h z hz
theorem page_drop (id : Nat) (D : List Nat) : (page id D).drop 4 = rest id D := by simp [page, lay4]
def unp (b : List Nat) : Option (Nat × List Nat) :=
 if val4 b 0 = sumN (b.drop 4) then
  if 116 < val4 b 8 then none
  else if (b.drop (12 + val4 b 8)).all (· == 0) then some (val4 b 4, (b.drop 12).take (val4 b 8)) else none
 else none
theorem all_zero_iff (l : List Nat) : l.all (· == 0) = true ↔ l = List.replicate l.length 0 := by
 constructor
 ·intro h
  apply List.ext_getElem
  ·simp
  ·intro i h1 h2
   have := List.all_eq_true.1 h _ (List.getElem_mem h1)
   simpa using this
 ·intro h
  rw [h, List.all_eq_true]
  intro x hx
  rw [List.eq_of_mem_replicate hx]; rfl
theorem cut4 (b : List Nat) (p : Nat) : b.drop p = (b.drop p).take 4 ++ b.drop (p + 4) := by
 rw [← List.drop_drop, List.take_append_drop]
theorem parts (b : List Nat) (n : Nat) (hb : b.length = 128) (hz : ∀ z ∈ b, z < 256) (hn : n ≤ 116) : b.drop 4 = lay4 (val4 b 4) ++ (lay4 (val4 b 8) ++ ((b.drop 12).take n ++ b.drop (12 + n))) := by
 rw [lay4_val4 hz 4 (by omega), lay4_val4 hz 8 (by omega), ← List.drop_drop, List.take_append_drop, ← cut4 b 8, ← cut4 b 4]
theorem again_iff (b : List Nat) (hb : b.length = 128) (hz : ∀ z ∈ b, z < 256) (hn : val4 b 8 ≤ 116) : page (val4 b 4) ((b.drop 12).take (val4 b 8)) = b ↔ val4 b 0 = sumN (b.drop 4) ∧ (b.drop (12 + val4 b 8)).all (· == 0) = true := by
 have hl : ((b.drop 12).take (val4 b 8)).length = val4 b 8 := by rw [List.length_take, List.length_drop]; omega
 have hp := parts b (val4 b 8) hb hz hn
 have hb4 : b = lay4 (val4 b 0) ++ b.drop 4 := by
  have := cut4 b 0
  rw [List.drop_zero, Nat.zero_add] at this
  rw [lay4_val4 hz 0 (by omega), List.drop_zero]
  exact this
 have hd : (b.drop (12 + val4 b 8)).length = 116 - val4 b 8 := by rw [List.length_drop]; omega
 have hs : ∀ z ∈ b.drop 4, z < 256 := fun z h => hz z (List.mem_of_mem_drop h)
 rw [all_zero_iff, hd]
 constructor
 ·intro h
  have h4 : rest (val4 b 4) ((b.drop 12).take (val4 b 8)) = b.drop 4 := by
   rw [← page_drop, h]
  have h0 : val4 b 0 = sumN (b.drop 4) := by
   have h5 : page (val4 b 4) ((b.drop 12).take (val4 b 8)) = lay4 (sumN (b.drop 4)) ++ b.drop 4 := by
    unfold page
    rw [h4]
   rw [h, hb4] at h5
   have := List.append_inj_left h5 (by simp [lay4_length])
   rw [← hb4] at this
   exact lay4_inj (val4_lt hz 0) (sumN_lt _ hs) this
  refine ⟨h0, ?_⟩
  rw [hp] at h4
  unfold rest at h4
  rw [hl] at h4
  have h6 := List.append_inj_right h4 rfl
  have h7 := List.append_inj_right h6 rfl
  exact (List.append_inj_right h7 rfl).symm
 ·rintro ⟨h0, h1⟩
  unfold page
  have : rest (val4 b 4) ((b.drop 12).take (val4 b 8)) = b.drop 4 := by
   rw [hp]
   unfold rest
   rw [hl, ← h1]
  rw [this, ← h0]
  exact hb4.symm
theorem unp_again (b : List Nat) (hb : b.length = 128) (hz : ∀ z ∈ b, z < 256) (hn : val4 b 8 ≤ 116) : unp b = if page (val4 b 4) ((b.drop 12).take (val4 b 8)) = b then some (val4 b 4, (b.drop 12).take (val4 b 8)) else none := by
 unfold unp
 by_cases h : page (val4 b 4) ((b.drop 12).take (val4 b 8)) = b
 ·obtain ⟨h1, h2⟩ := (again_iff b hb hz hn).1 h
  rw [if_pos h, if_pos h1, if_neg (by omega), if_pos h2]
 ·rw [if_neg h]
  by_cases h1 : val4 b 0 = sumN (b.drop 4)
  ·rw [if_pos h1, if_neg (by omega), if_neg (fun h2 => h ((again_iff b hb hz hn).2 ⟨h1, h2⟩))]
  ·rw [if_neg h1]
theorem unp_large (b : List Nat) (hn : 116 < val4 b 8) : unp b = none := by
 unfold unp
 rw [if_pos hn, ite_self]
theorem lays (id : Nat) (D : List Nat) (h : D.length ≤ 116) : splice (splice (splice (List.replicate 128 0) 12 D) 4 (lay4 id)) 8 (lay4 D.length) = [0, 0, 0, 0] ++ rest id D := by
 have e1 : splice (List.replicate 128 0) 12 D = List.replicate 12 0 ++ (D ++ List.replicate (116 - D.length) 0) := by
  unfold splice
  rw [List.take_replicate, List.drop_replicate]
  rw [show min 12 128 = 12 from rfl, show 128 - (12 + D.length) = 116 - D.length by omega]
 rw [e1]
 rfl
theorem lays_end (id : Nat) (D : List Nat) : splice ([0, 0, 0, 0] ++ rest id D) 0 (lay4 (sumN (([0, 0, 0, 0] ++ rest id D).drop 4))) = page id D := rfl
end Go.Proofs.YtlcglapcmdpkfaaGreat
namespace Go.Proofs.YtlcglapcmdpkfaaGreat
open Go.RowKit
set_option linter.unusedSimpArgs false
set_option linter.unusedVariables false
set_option maxRecDepth 100000
set_option maxHeartbeats 16000000
def Blk (w : World) (g : Nat) (zs : List Nat) : Prop := w.heap[g]? = some (.cells (BL zs).toArray 5 (0, 0)) ∧ zs.length ≤ 140737488355328 ∧ ∀ z ∈ zs, z < 256
theorem Blk.frame {w w' : World} {g : Nat} {zs : List Nat} {bs : Nat → Prop} (h : Blk w g zs) (ho : Only bs w w') (hn : ¬ bs g) : Blk w' g zs := by
 have hl : g < w.heap.size := by
  rcases Nat.lt_or_ge g w.heap.size with hlt | hge
  ·exact hlt
  ·have := h.1; simp [Array.getElem?_eq_none hge] at this
 exact ⟨(ho.block g hl hn).trans h.1, h.2⟩
theorem Blk.lt {w : World} {g : Nat} {zs : List Nat} (h : Blk w g zs) : g < w.heap.size := by
 rcases Nat.lt_or_ge g w.heap.size with hlt | hge
 ·exact hlt
 ·have := h.1; simp [Array.getElem?_eq_none hge] at this
theorem Blk.cell {w : World} {g : Nat} {zs : List Nat} (h : Blk w g zs) (j : Nat) (hj : j < zs.length) : w.cell? ⟨g, j, none⟩ = some (.int .u8 (zs.getD j 0 : Nat)) := by
 rw [cell_of_row _ _ _ _ _ _ h.1]
 simp [BL, List.getD, hj]
theorem Blk.frozen {w : World} {g : Nat} {zs : List Nat} (h : Blk w g zs) (j : Nat) : w.frozen? ⟨g, j, none⟩ = false := frozen_of_row _ _ _ _ _ h.1
theorem Blk.bytes {w : World} {g : Nat} {zs : List Nat} (h : Blk w g zs) (o n c : Nat) (hn : o + n ≤ zs.length) (hc : n ≤ c) : BytesAt w (.slice (some ⟨g, o, none⟩) n c) ((zs.drop o).take n) := by
 have e : ((zs.drop o).take n).length = n := by rw [List.length_take, List.length_drop]; omega
 refine ⟨.inr ⟨⟨g, o, none⟩, c, by rw [e], by omega, fun j hj => ?_⟩, by have := h.2.1; omega, fun z hz => h.2.2 z (List.mem_of_mem_drop (List.mem_of_mem_take hz))⟩
 rw [e] at hj
 rw [Addr.add_mid, h.cell (o + j) (by omega)]
 have : ((zs.drop o).take n).getD j 0 = zs.getD (o + j) 0 := by
  simp only [List.getD]
  rw [List.getElem?_take_of_lt (by omega), List.getElem?_drop]
 simp only [this]
theorem Blk.all {w : World} {g : Nat} {zs : List Nat} (h : Blk w g zs) (n : Nat) (hn : n = zs.length) : BytesAt w (.slice (some ⟨g, 0, none⟩) n n) zs := by
 have := h.bytes 0 n n (by omega) (Nat.le_refl _)
 rwa [List.drop_zero, hn, List.take_length, ← hn] at this
theorem Blk.fresh {w : World} {g B : Nat} {zs : List Nat} (h : Blk w g zs) (n : Nat) (hn : n = zs.length) (hB : B ≤ g) : Fresh w B (.slice (some ⟨g, 0, none⟩) n n) zs := by
 subst hn
 refine ⟨⟨by rw [BL_length, Nat.mul_one], .inr ⟨g, zs.length, (BL zs).toArray, rfl, hB, h.1, Nat.le_refl _, by have := h.2.1; unfold maxLen; omega, by simp [BL_length], ?_⟩⟩, h.2⟩
 rw [Nat.mul_one, ← BL_length zs, List.take_length]
theorem Blk.new {w : World} {zs : List Nat} (hl : zs.length ≤ 140737488355328) (hz : ∀ z ∈ zs, z < 256) : Blk (w.alloc (.cells (BL zs).toArray 5)) w.heap.size zs := ⟨heap_alloc_new w _, hl, hz⟩
theorem BL_splice (zs ys : List Nat) (o : Nat) : splice (BL zs) o (BL ys) = BL (splice zs o ys) := by
 unfold splice
 rw [BL_append, BL_append, BL_length]
 simp [BL]
theorem splice_lt {zs ys : List Nat} {o : Nat} (hz : ∀ z ∈ zs, z < 256) (hy : ∀ z ∈ ys, z < 256) : ∀ z ∈ splice zs o ys, z < 256 := by
 intro z h
 simp only [splice, List.mem_append] at h
 rcases h with h | h | h
 ·exact hz z (List.mem_of_mem_take h)
 ·exact hy z h
 ·exact hz z (List.mem_of_mem_drop h)
theorem Blk.spliced {w w' : World} {g o : Nat} {zs ys : List Nat} (h : Blk w g zs) (hy : ∀ z ∈ ys, z < 256) (ho : o + ys.length ≤ zs.length) (hg : w'.heap[g]? = some (.cells (splice (BL zs) o (BL ys)).toArray 5 (0, 0))) : Blk w' g (splice zs o ys) := by
 rw [BL_splice] at hg
 exact ⟨hg, by rw [length_splice _ _ _ ho]; exact h.2.1, splice_lt h.2.2 hy⟩
theorem zeros_made (n : Nat) : madeCells (Value.int .u8 0).cells n = (BL (List.replicate n 0)).toArray := by
 apply Array.ext_getElem?
 intro i
 by_cases h : i < n
 ·simp [madeCells, h, BL, Value.cells, Nat.mod_one]
 ·rw [Array.getElem?_eq_none (by simp [madeCells]; omega), Array.getElem?_eq_none (by simp [BL]; omega)]
theorem make_blk (n : Nat) (hn : n ≤ 140737488355328) (w : World) : (Instr.makeSlice 37 (.int .i64 n) (.int .i64 n)).run Tryz.prog w = .ok (.slice (some ⟨w.heap.size, 0, none⟩) n n) (w.alloc (.cells (BL (List.replicate n 0)).toArray 5)) := by
 rw [← zeros_made]
 exact make23 n hn w
theorem blk_zeros (n : Nat) (hn : n ≤ 140737488355328) (w : World) : Blk (w.alloc (.cells (BL (List.replicate n 0)).toArray 5)) w.heap.size (List.replicate n 0) :=
 Blk.new (by simpa using hn) (fun z h => by rw [List.eq_of_mem_replicate h]; omega)
theorem piece_pos (g o n c p s : Nat) (w : World) (h : p + s ≤ c) (hs : 0 < s) (hc : p + s ≤ 140737488355328) :
  Calls Tryz.prog 109 #[.slice (some ⟨g, o, none⟩) n c, .int .i64 p, .int .i64 s] w fun e w' => e = .returned (.slice (some ⟨g, o + p, none⟩) s s) ∧ w' = w := by
 have e1 : IntKind.i64.wrap ((p : Int) + (s : Int)) = (p : Int) + (s : Int) := by rw [IntKind.wrap_i64]; omega
 have e2 : (0 : Int) ≤ (p : Int) := by omega
 have e3 : (p : Int) ≤ (p : Int) + (s : Int) := by omega
 have e4 : (p : Int) + (s : Int) ≤ (c : Int) := by omega
 have e5 : ((p : Int) + (s : Int) - (p : Int)).toNat = s := by omega
 go_enter Tryz.func109, Tryz.ntmps109
 go_wp2
 go_ret
 exact ⟨by simp, rfl⟩
theorem piece_zero (a : Option Addr) (n c p : Nat) (w : World) (h : p ≤ c) (hc : p ≤ 140737488355328) :
  Calls Tryz.prog 109 #[.slice a n c, .int .i64 p, .int .i64 0] w fun e w' => e = .returned (.slice a 0 0) ∧ w' = w := by
 have e1 : IntKind.i64.wrap ((p : Int) + 0) = (p : Int) := by rw [IntKind.wrap_i64]; omega
 have e2 : (0 : Int) ≤ (p : Int) := by omega
 have e4 : (p : Int) ≤ (c : Int) := by omega
 go_enter Tryz.func109, Tryz.ntmps109
 go_wp2
 go_ret
 exact ⟨by simp, rfl⟩
theorem build4 (a b c d : Int) (w : World) : (Instr.buildSlice 37 4 #[(0, .int .u8 a), (1, .int .u8 b), (2, .int .u8 c), (3, .int .u8 d)]).run Tryz.prog w = .ok (.slice (some ⟨w.heap.size, 0, none⟩) 4 4) (w.alloc (.cells #[.int .u8 a, .int .u8 b, .int .u8 c, .int .u8 d] 5)) := by kernel_rfl
theorem size5 : (Tryz.prog.info? 5).map (·.size) = some 1 := by kernel_rfl
theorem BL4 (x : Nat) : BL (lay4 x) = [.int .u8 ((x % 256 : Nat) : Int), .int .u8 ((x / 256 % 256 : Nat) : Int), .int .u8 ((x / 65536 % 256 : Nat) : Int), .int .u8 ((x / 16777216 % 256 : Nat) : Int)] := rfl
theorem Below.only {w w' : World} {B : Nat} (h : Below B w w') : Only (fun i => B ≤ i) w w' := ⟨h.os, h.tape, h.output, h.size, fun k hk hn => h.block k (by omega)⟩
theorem laynum_any (g n c p x : Nat) (zs : List Nat) (w : World) (h : Blk w g zs) (hp : p + 4 ≤ zs.length) (hc : zs.length ≤ c) (hc2 : c ≤ 140737488355328) (hx : x < 4294967296) :
  Calls Tryz.prog 125 #[.slice (some ⟨g, 0, none⟩) n c, .int .i64 p, .int .u32 x] w fun e w' => e = .returned (.tuple #[]) ∧ Blk w' g (splice zs p (lay4 x)) ∧ Only (fun i => g ≤ i) w w' := by
 have hb := build4 ((x % 256 : Nat) : Int) ((x / 256 % 256 : Nat) : Int) ((x / 65536 % 256 : Nat) : Int) ((x / 16777216 % 256 : Nat) : Int)
 obtain ⟨x0, h0⟩ : ∃ y, y = x % 256 := ⟨_, rfl⟩
 obtain ⟨x1, h1⟩ : ∃ y, y = x / 256 % 256 := ⟨_, rfl⟩
 obtain ⟨x2, h2⟩ : ∃ y, y = x / 65536 % 256 := ⟨_, rfl⟩
 obtain ⟨x3, h3⟩ : ∃ y, y = x / 16777216 % 256 := ⟨_, rfl⟩
 have c0 : (x : Int) % 256 = (x0 : Int) := by omega
 have c1 : (x : Int) / 256 % 256 = (x1 : Int) := by omega
 have c2 : (x : Int) / 65536 % 256 = (x2 : Int) := by omega
 have c3 : (x : Int) / 16777216 = (x3 : Int) := by omega
 rw [← h0, ← h1, ← h2, ← h3] at hb
 have HL : Hid (BL (lay4 x) = [.int .u8 (x0 : Int), .int .u8 (x1 : Int), .int .u8 (x2 : Int), .int .u8 (x3 : Int)]) := (by rw [BL4, ← h0, ← h1, ← h2, ← h3] : _ = _)
 have HB : Hid (Blk w g zs) := h
 have HP := piece_pos g 0 n c p 4 w (by omega) (by omega) (by omega)
 rw [Nat.zero_add] at HP
 clear h h0 h1 h2 h3
 go_enter Tryz.func125, Tryz.ntmps125
 go_wp2_with fail
 refine HP.mono ?_
 rintro e w1 ⟨rfl, rfl⟩
 clear HP
 have o2 : Only (fun _ => False) w1 (w1.alloc (.cells #[.int .u8 (x0 : Int), .int .u8 (x1 : Int), .int .u8 (x2 : Int), .int .u8 (x3 : Int)] 5)) := (Only.refl _ _).alloc _
 have HO2 : Hid (Only (fun _ => False) w1 (w1.alloc (.cells #[.int .u8 (x0 : Int), .int .u8 (x1 : Int), .int .u8 (x2 : Int), .int .u8 (x3 : Int)] 5))) := o2
 have HB2 : Hid (Blk (w1.alloc (.cells #[.int .u8 (x0 : Int), .int .u8 (x1 : Int), .int .u8 (x2 : Int), .int .u8 (x3 : Int)] 5)) g zs) := HB.out.frame o2 (fun e => e)
 have HSRC : Hid (∀ j u, (BL (lay4 x))[j]? = some u → (w1.alloc (.cells #[.int .u8 (x0 : Int), .int .u8 (x1 : Int), .int .u8 (x2 : Int), .int .u8 (x3 : Int)] 5)).cell? ((⟨w1.heap.size, 0, none⟩ : Addr).add j) = some u) := by
  rw [HL.out]
  exact World.news_of_block (heap_alloc_new w1 _)
 clear hb o2
 obtain ⟨Y, hY⟩ : ∃ Y, Y = BL (lay4 x) := ⟨_, rfl⟩
 have HY : Hid (Y = BL (lay4 x)) := hY
 rw [← hY] at HSRC
 have HYL : Hid (Y.length = 4) := (by rw [hY, BL_length, lay4_length] : _ = _)
 clear hY
 go_wp2_with ((refine wpList_copy_splice rfl _ _ 37 37 rfl 5 Tryz.underlying37 size5 _ _ _ _ _ _ rfl rfl g p (BL zs) 5 HB2.out.1 Y HYL.out (fun _ => ⟨rfl, _, rfl, HSRC.out⟩) (by rw [HYL.out, BL_length]; exact hp) (by rw [HY.out]; exact BL_one _) g _ (Below.refl _ _) (Nat.le_refl _) ?_); intro w3 HG3 hB3)
 have HE : Hid (Blk w3 g (splice zs p (lay4 x)) ∧ Only (fun i => g ≤ i) w1 w3) := ⟨Blk.spliced HB2.out (lay4_lt x) (by rw [lay4_length]; exact hp) (by have := HG3.out; rwa [HY.out] at this), (HO2.out.mono (fun _ _ e => e.elim)).trans (Below.only hB3) (fun i hi e => e)⟩
 clear HG3 hB3
 go_end0
 exact ⟨rfl, HE.out⟩
end Go.Proofs.YtlcglapcmdpkfaaGreat
