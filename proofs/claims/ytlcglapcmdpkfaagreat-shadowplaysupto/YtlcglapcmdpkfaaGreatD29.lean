import Derived.Test.YtlcglapcmdpkfaaGreatE2
import Derived.Test.YtlcglapcmdpkfaaGreatD28
namespace Go.Proofs.YtlcglapcmdpkfaaGreat
open Go.RowKit
set_option linter.unusedSimpArgs false
set_option linter.unusedVariables false
theorem rput_all {w : World} {B r K : Nat} {rv : Value} {d : DS} {rs : List RW} (h : RefAt w B r K rv d rs) (a : Option Addr) (m c : Nat) (k : Int) (f : Nat → Int) (hr : RowAt w (.slice a m c) m 1 (fun j => .int .u8 (f j))) (hB : B ≤ w.heap.size) (hby : (d.pend.length + 1) * 72 ≤ 140737488355328) (hm : m ≤ 140737488351232) :
  Calls Tryz.prog 42 #[.pointer (some ⟨r, 0, none⟩), .int .i64 k, .slice a m c] w fun e w' => e = .returned (.int .i64 (d.write k f m).1) ∧ ∃ rv' rs', RefAt w' B r K rv' (d.write k f m).2 rs' ∧ Only (refB r K rv rs) w w' ∧ (∀ b, refB r K rv' rs' b → refB r K rv rs b ∨ w.heap.size ≤ b) := by
 have same : ∀ (x : Int) (e : Ending) (w' : World), d.write k f m = (x, d) → e = .returned (.int .i64 x) ∧ w' = w → e = .returned (.int .i64 (d.write k f m).1) ∧ ∃ rv' rs', RefAt w' B r K rv' (d.write k f m).2 rs' ∧ Only (refB r K rv rs) w w' ∧ (∀ b, refB r K rv' rs' b → refB r K rv rs b ∨ w.heap.size ≤ b) := by
  rintro x e w' hw ⟨rfl, rfl⟩
  rw [hw]
  exact ⟨rfl, rv, rs, h, Only.refl _ _, fun b hb => .inl hb⟩
 by_cases e1 : m = 32
 ·subst e1
  by_cases e2 : d.life = 0
  ·refine (rput_dead r k a c w (by rw [← e2]; exact h.c3)).mono fun e w' hh => same 3 e w' (by simp [DS.write, e2]) hh
  ·by_cases e3 : k < 0 ∨ (d.n : Int) ≤ k
   ·refine (rput_out r d.n d.life k a c w h.c0 h.c3 (by simpa using e2) e3).mono fun e w' hh => same 4 e w' (by simp [DS.write, e2, e3]) hh
   ·obtain ⟨g, o, c', hv, hcell, hg⟩ := hr.at (by omega)
    simp only [Value.slice.injEq] at hv
    obtain ⟨rfl, _, rfl⟩ := hv
    have hk : k = (k.toNat : Int) := by omega
    have hrange : w.rangeAt g o (secL f) := fun j v hv => by
     have hj : j < 32 := by have := (List.getElem?_eq_some_iff.1 hv).1; rwa [secL_length] at this
     rw [secL_get _ _ hj] at hv
     rw [hcell j (by omega)]; exact hv
    have hwr : d.write k f 32 = (0, { d with sec := upd d.sec k.toNat f, pend := d.pend ++ [⟨k.toNat, d.sec k.toNat, f⟩], life := aged d.life }) := by simp [DS.write, e2, e3]
    rw [hwr]
    have := rput_any h e2 hby k.toNat (by omega) f g o c hrange hB
    rw [← hk] at this
    refine this.mono ?_
    rintro e w' ⟨rfl, rv', rs', q1, q2, q3⟩
    exact ⟨rfl, rv', rs', q1, q2.mono (fun b _ e => e.elim .inl (fun e => .inr (.inr (.inl e)))), q3⟩
 ·refine (rput_len r k a m c w e1).mono fun e w' hh => same 2 e w' (by simp [DS.write, e1]) hh
structure Both (w0 w : World) (p S : Nat) (pv : Value) (r K : Nat) (rv : Value) (rs : List RW) (d : DS) (X : Nat) : Prop where
 disk : DiskAt w w0.heap.size p S pv d
 ref : RefAt w w0.heap.size r K rv d rs
 good : Good d
 byte : ByteD d
 sep : ∀ b, diskB p S pv b → ¬ refB r K rv rs b
 only : Only (fun _ => False) w0 w
 x1 : ¬ diskB p S pv X
 x2 : ¬ refB r K rv rs X
def Next (w0 w : World) (p S r K : Nat) (d : DS) : Prop := ∃ pv rv rs d', Both w0 w p S pv r K rv rs d' w.heap.size ∧ d'.n = d.n ∧ d'.pend.length ≤ d.pend.length + 4
theorem Both.frame {w0 w w' : World} {p S : Nat} {pv : Value} {r K : Nat} {rv : Value} {rs : List RW} {d : DS} {X : Nat} (h : Both w0 w p S pv r K rv rs d X) (ho : Only (fun _ => False) w w') : Both w0 w' p S pv r K rv rs d X :=
 ⟨h.disk.frame ho (fun _ _ e => e), h.ref.frame ho (fun _ _ e => e), h.good, h.byte, h.sep, h.only.trans ho (fun _ _ e => e), h.x1, h.x2⟩
theorem Both.next {w0 w w1 w2 : World} {p S : Nat} {pv pv' : Value} {r K : Nat} {rv rv' : Value} {rs rs' : List RW} {d d' : DS} {X : Nat} (h : Both w0 w p S pv r K rv rs d X) (hd : DiskAt w1 w0.heap.size p S pv' d') (o1 : Only (diskB p S pv) w w1) (b1 : ∀ b, pv'.ownBlock = some b → pv.ownBlock = some b ∨ w.heap.size ≤ b)
  (hr : RefAt w2 w0.heap.size r K rv' d' rs') (o2 : Only (refB r K rv rs) w1 w2) (b2 : ∀ b, refB r K rv' rs' b → refB r K rv rs b ∨ w1.heap.size ≤ b) (hg : Good d') (hby : ByteD d') (hn : d'.n = d.n) (hp : d'.pend.length ≤ d.pend.length + 4) : Next w0 w2 p S r K d := by
 have s1 := o1.size
 have hdl := hd.lt
 have hsz := h.only.size
 have hdb : ∀ b, diskB p S pv' b → diskB p S pv b ∨ w.heap.size ≤ b := by
  rintro b (rfl | rfl | hb)
  ·exact .inl (.inl rfl)
  ·exact .inl (.inr (.inl rfl))
  ·exact (b1 b hb).imp (fun e => .inr (.inr e)) id
 have hrl : ∀ b, refB r K rv rs b → b < w.heap.size := fun b hb => (h.ref.lt b hb).2
 have sep1 : ∀ b, diskB p S pv' b → ¬ refB r K rv rs b := fun b hb e => by
  rcases hdb b hb with h1 | h1
  ·exact h.sep b h1 e
  ·have := hrl b e; omega
 refine ⟨pv', rv', rs', d', ⟨hd.frame o2 sep1, hr, hg, hby, fun b hb e => ?_, (h.only.trans o1 (fun b hb e => by have := (h.disk.lt b e).1; omega)).trans o2 (fun b hb e => by have := (h.ref.lt b e).1; omega), fun e => by have := ((hd.frame o2 sep1).lt _ e).2; omega, fun e => by have := (hr.lt _ e).2; omega⟩, hn, hp⟩
 rcases b2 b e with h1 | h1
 ·exact sep1 b hb h1
 ·have := (hdl b hb).2; omega
theorem Both.same {w0 w w2 : World} {p S : Nat} {pv : Value} {r K : Nat} {rv : Value} {rs : List RW} {d : DS} {X : Nat} (h : Both w0 w p S pv r K rv rs d X) (ho : Only (fun _ => False) w w2) : Next w0 w2 p S r K d := by
 have f := h.frame ho
 exact ⟨pv, rv, rs, d, ⟨f.disk, f.ref, f.good, f.byte, f.sep, f.only, fun e => by have := (f.disk.lt _ e).2; omega, fun e => by have := (f.ref.lt _ e).2; omega⟩, rfl, by omega⟩
end Go.Proofs.YtlcglapcmdpkfaaGreat
