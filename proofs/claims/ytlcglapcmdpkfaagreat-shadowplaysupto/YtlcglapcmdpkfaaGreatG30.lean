import Derived.Test.YtlcglapcmdpkfaaGreatG29
import Derived.Test.YtlcglapcmdpkfaaGreatG25
namespace Go.Proofs.YtlcglapcmdpkfaaGreat
open Go.RowKit Go.Maps
set_option linter.unusedSimpArgs false
set_option linter.unusedVariables false
def PlOk (w : World) (B P p S q K n m : Nat) : Prop := ∃ pv d rv rs sv rp, PlC w B P p S q K pv d rv rs d sv rp ∧ StK w B P p S q K pv rv rs n sv rp ∧ Fd d n m
def KeepC (P X : Nat) (w w' : World) : Prop := ∀ b, (b = P ∨ b = X) → ∀ j v, w.cell? ⟨b, j, none⟩ = some v → w'.cell? ⟨b, j, none⟩ = some v
theorem KeepC.of {P X : Nat} {w w' : World} {bs : Nat → Prop} (ho : Only bs w w') (h1 : ¬ bs P) (h2 : ¬ bs X) : KeepC P X w w' := by
 rintro b (rfl | rfl) j v hv
 ·exact ho.cell hv h1
 ·exact ho.cell hv h2
theorem KeepC.trans {P X : Nat} {w w1 w2 : World} (h : KeepC P X w w1) (h2 : KeepC P X w1 w2) : KeepC P X w w2 := fun b hb j v hv => h2 b hb j v (h b hb j v hv)
def DkIs (w : World) (B p S : Nat) (pv : Value) (y : Int × DS) (e : Ending) (w' : World) : Prop := e = .returned (.int .i64 y.1) ∧ ∃ pv', DiskAt w' B p S pv' y.2 ∧ Only (diskB p S pv) w w' ∧ ∀ b, pv'.ownBlock = some b → pv.ownBlock = some b ∨ w.heap.size ≤ b
def RkIs (w : World) (B q K : Nat) (rv : Value) (rs : List RW) (y : Int × DS) (e : Ending) (w' : World) : Prop := e = .returned (.int .i64 y.1) ∧ ∃ rv' rs', RefAt w' B q K rv' y.2 rs' ∧ Only (refB q K rv rs) w w' ∧ ∀ b, refB q K rv' rs' b → refB q K rv rs b ∨ w.heap.size ≤ b
section
variable {w w1 : World} {B P p S q K X : Nat} {pv rv sv rp : Value} {rs : List RW} {d e : DS} {n m : Nat}
theorem PlC.low (h : PlC w B P p S q K pv d rv rs e sv rp) : ∀ k, (k = P ∨ diskB p S pv k ∨ refB q K rv rs k) → B ≤ k := by
 rintro k (g | g | g)
 ·have := h.pB; omega
 ·exact (h.dk.lt k g).1
 ·exact (h.rf.lt k g).1
theorem PlC.pair {f1 f2 : Nat} {a1 a2 : Array Value} {y : Int × DS} {m' : Nat} (hc : PlC w B P p S q K pv d rv rs d sv rp) (hk : StK w B P p S q K pv rv rs n sv rp) (hf : Fd y.2 n m')
  (hX : X < w.heap.size ∧ ¬ diskB p S pv X ∧ ¬ refB q K rv rs X) (h1 : Calls Tryz.prog f1 a1 w fun e w' => DkIs w B p S pv y e w') (h2 : ∀ w1, Only (diskB p S pv) w w1 → RefAt w1 B q K rv d rs → Calls Tryz.prog f2 a2 w1 fun e w' => RkIs w1 B q K rv rs y e w') :
  Calls Tryz.prog f1 a1 w fun e w1 => e = .returned (.int .i64 y.1) ∧ Hid (KeepC P X w w1) ∧ Hid (Calls Tryz.prog f2 a2 w1 fun e w2 => e = .returned (.int .i64 y.1) ∧ Hid (KeepC P X w w2) ∧ Hid (PlOk w2 B P p S q K n m' ∧ Only (fun k => B ≤ k) w w2)) := by
 refine h1.mono ?_
 rintro e w1 ⟨rfl, pv', g1, g2, g3⟩
 have c1 : PlC w1 B P p S q K pv' y.2 rv rs d sv rp := hc.prog (X := fun _ => False) g1 (g2.mono (fun _ _ g => .inl g)) (fun _ g => g.elim) g3
 have k1 : KeepC P X w w1 := KeepC.of g2 hc.a1 hX.2.1
 refine ⟨rfl, k1, (h2 w1 g2 c1.rf).mono ?_⟩
 rintro e w2 ⟨rfl, rv', rs', i1, i2, i3⟩
 have c2 : PlC w2 B P p S q K pv' y.2 rv' rs' y.2 sv rp := c1.doc (X := fun _ => False) i1 (i2.mono (fun _ _ g => .inl g)) (fun _ g => g.elim) i3
 have k2 : KeepC P X w1 w2 := KeepC.of i2 hc.a2 hX.2.2
 have hsz := g2.size
 have oo : Only (fun k => k = P ∨ diskB p S pv k ∨ refB q K rv rs k) w w2 := (g2.mono (fun _ _ g => .inr (.inl g))).trans (i2.mono (fun _ _ g => .inr (.inr g))) (fun _ _ g => g)
 refine ⟨rfl, k1.trans k2, ⟨pv', y.2, rv', rs', sv, rp, c2, hk.disks oo g3 (fun b g => ?_), hf⟩, oo.mono (fun k hk g => hc.low k g)⟩
 rcases i3 b g with g | g
 ·exact .inl g
 ·exact .inr (by omega)
end
def DS.live (d : DS) (n : Int) : Int × DS := if n < -1 then (2, d) else (0, { d with life := n })
theorem Fd.live {d : DS} {n m : Nat} (h : Fd d n m) (l : Int) : Fd (d.live l).2 n m := by
 unfold DS.live
 split
 ·exact h
 ·exact ⟨⟨h.by_.1, h.by_.2, h.by_.3⟩, h.gd, h.n_, h.pd⟩
theorem live_all {w : World} {B p S : Nat} {pv : Value} {d : DS} (h : DiskAt w B p S pv d) (n : Int) (hn : n ≤ 9223372036854775807) : Calls Tryz.prog 38 #[.pointer (some ⟨p, 0, none⟩), .int .i64 n] w fun e w' => DkIs w B p S pv (d.live n) e w' := by
 unfold DS.live
 by_cases h1 : n < -1
 ·rw [if_pos h1]
  refine (live_bad p n w h1).mono ?_
  rintro e w' ⟨rfl, rfl⟩
  exact ⟨rfl, pv, h, Only.refl _ _, fun b g => .inl g⟩
 ·rw [if_neg h1]
  refine (live_any p S B pv d n w h (by omega) hn).mono ?_
  rintro e w' ⟨rfl, g1, g2⟩
  exact ⟨rfl, pv, g1, g2.mono (fun _ _ g => .inl g), fun b g => .inl g⟩
theorem rlive_all {w : World} {B q K : Nat} {rv : Value} {rs : List RW} {d : DS} (h : RefAt w B q K rv d rs) (n : Int) (hn : n ≤ 9223372036854775807) : Calls Tryz.prog 39 #[.pointer (some ⟨q, 0, none⟩), .int .i64 n] w fun e w' => RkIs w B q K rv rs (d.live n) e w' := by
 unfold DS.live
 by_cases h1 : n < -1
 ·rw [if_pos h1]
  refine (rlive_bad q n w h1).mono ?_
  rintro e w' ⟨rfl, rfl⟩
  exact ⟨rfl, rv, rs, h, Only.refl _ _, fun b g => .inl g⟩
 ·rw [if_neg h1]
  refine (rlive_any h n (by omega) hn).mono ?_
  rintro e w' ⟨rfl, g1, g2⟩
  exact ⟨rfl, rv, rs, g1, g2.mono (fun _ _ g => .inl g), fun b g => .inl g⟩
theorem crash_alls {w : World} {B p S : Nat} {pv kv : Value} {d : DS} (h : DiskAt w B p S pv d) (ks : List Bool) (torn cut : Int) (hk : DFlags w kv ks.length (fun j => ks.getD j false) S) : Calls Tryz.prog 36 #[.pointer (some ⟨p, 0, none⟩), kv, .int .i64 torn, .int .i64 cut] w fun e w' => DkIs w B p S pv (d.crash ks torn cut) e w' := by
 refine (crash_all p S B pv kv d ks torn cut w h hk).mono ?_
 rintro e w' ⟨rfl, pv', g1, g2, g3⟩
 exact ⟨rfl, pv', g1, g2.mono (fun _ _ g => g.elim .inl (fun g => .inr (.inl g))), fun b g => .inl (g3 b g)⟩
theorem rcrash_alls {w : World} {B q K : Nat} {rv kv : Value} {rs : List RW} {d : DS} (h : RefAt w B q K rv d rs) (hp : d.pend.length ≤ 140737488351232) (ks : List Bool) (torn cut : Int) (hk : DFlags w kv ks.length (fun j => ks.getD j false) K) : Calls Tryz.prog 37 #[.pointer (some ⟨q, 0, none⟩), kv, .int .i64 torn, .int .i64 cut] w fun e w' => RkIs w B q K rv rs (d.crash ks torn cut) e w' := by
 by_cases hc : cut < 0 ∨ 32 < cut
 ·have hw : d.crash ks torn cut = (2, d) := by simp [DS.crash, hc]
  rw [hw]
  refine (rcrash_bad q kv torn cut w hc).mono ?_
  rintro e w' ⟨rfl, rfl⟩
  exact ⟨rfl, rv, rs, h, Only.refl _ _, fun b g => .inl g⟩
 ·obtain ⟨c, rfl⟩ : ∃ c : Nat, cut = c := ⟨cut.toNat, by omega⟩
  have hw : d.crash ks torn c = (0, ⟨d.n, crashTo (fun i => decide (i < ks.length) && ks.getD i false) torn c d.pend (undoW d.pend d.sec) d.pend.length, [], -1⟩) := by
   unfold DS.crash
   rw [if_neg hc]
   rfl
  rw [hw]
  refine (rcrash_any h hp kv ks.length _ torn c (by omega) hk).mono ?_
  rintro e w' ⟨rfl, g1, g2⟩
  exact ⟨rfl, _, [], g1, g2.mono (fun _ _ g => g.elim .inl (fun g => .inr (.inl g))), by
   rintro b (g | g | g | ⟨x, hx, _⟩)
   ·exact .inl (.inl g)
   ·exact .inl (.inr (.inl g))
   ·simp [Value.ownBlock] at g
   ·cases hx⟩
theorem load_size {d : DS} {q : Nat} {x : SS} (h : loadR d q = some x) : x.size = d.n / 4 := by
 rw [load_doc] at h
 unfold loadD at h
 split at h
 ·split at h
  ·cases h
  ·split at h
   ·obtain ⟨m, _, rfl⟩ := Option.map_eq_some_iff.1 h
    rfl
   ·cases h
 ·cases h
theorem open_size {d : DS} {x : SS} (h : openR d = some x) : x.size = d.n / 4 := by
 unfold openR at h
 cases h0 : loadR d 0 with
 | none =>
   cases h4 : loadR d 4 with
   | none => rw [h0, h4] at h; cases h
   | some y => rw [h0, h4] at h; cases h; exact load_size h4
 | some x0 =>
   cases h4 : loadR d 4 with
   | none => rw [h0, h4] at h; cases h; exact load_size h0
   | some y =>
     rw [h0, h4] at h
     simp only [openM] at h
     split at h
     ·cases h; exact load_size h4
     ·cases h; exact load_size h0
end Go.Proofs.YtlcglapcmdpkfaaGreat
