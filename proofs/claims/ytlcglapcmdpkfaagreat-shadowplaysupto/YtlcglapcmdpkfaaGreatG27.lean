import Derived.Test.YtlcglapcmdpkfaaGreatG21
import Derived.Test.YtlcglapcmdpkfaaGreatG26
import Derived.Test.YtlcglapcmdpkfaaGreatG18
import Derived.Test.YtlcglapcmdpkfaaGreatG7
import Derived.Test.YtlcglapcmdpkfaaGreatM9
import Derived.Test.YtlcglapcmdpkfaaGreatA8
import Derived.Test.YtlcglapcmdpkfaaGreatA11
import Derived.Test.YtlcglapcmdpkfaaGreatD16
import Derived.Test.YtlcglapcmdpkfaaGreatD29
import Derived.Test.YtlcglapcmdpkfaaGreatD26
import Derived.Test.YtlcglapcmdpkfaaGreatE9
namespace Go.Proofs.YtlcglapcmdpkfaaGreat
open Go.RowKit Go.Maps
set_option linter.unusedSimpArgs false
set_option linter.unusedVariables false
structure Fd (d : DS) (n m : Nat) : Prop where
 by_ : ByteD d
 gd : Good d
 n_ : d.n = n
 pd : d.pend.length ≤ m
theorem Fd.write {d : DS} {n m : Nat} (h : Fd d n m) (k : Int) (f : Nat → Int) (l : Nat) (hf : Byt f) : Fd (d.write k f l).2 n (m + 1) :=
 ⟨h.by_.write k f l hf, h.gd.write k f l, by rw [write_n]; exact h.n_, by have := write_pend d k f l; have := h.pd; omega⟩
theorem Fd.barrier {d : DS} {n m : Nat} (h : Fd d n m) : Fd d.barrier.2 n m := by
 refine ⟨?_, good_barrier h.gd, ?_, by have := barrier_pend d; have := h.pd; omega⟩
 ·unfold DS.barrier
  split
  ·exact h.by_
  ·exact h.by_.barrier _
 ·unfold DS.barrier
  split
  ·exact h.n_
  ·exact h.n_
theorem Fd.keep {d : DS} {n m : Nat} (h : Fd d n m) (k : Int) (f : Nat → Int) (hf : Byt f) : Fd (d.keep k f).2 n (m + 1) := by
 unfold DS.keep
 split
 ·exact h.write k f 32 hf
 ·exact (h.write k f 32 hf).barrier
theorem Fd.mono {d : DS} {n m m' : Nat} (h : Fd d n m) (hm : m ≤ m') : Fd d n m' := ⟨h.by_, h.gd, h.n_, by have := h.pd; omega⟩
theorem Fd.format {d : DS} {n m : Nat} (h : Fd d n m) : Fd d.format.2 n (m + 2) := by
 have h1 := h.keep 4 (byF zeros32) (byF_byt (fun z hz => by have := List.eq_of_mem_replicate hz; omega))
 unfold DS.format
 split
 ·exact h.mono (by omega)
 ·split
  ·exact h1.mono (by omega)
  ·exact h1.keep 0 (byF (rootB 1 0 0)) (byF_byt (rootB_lt _ _ _))
theorem wtF_n (tab at_ : List Nat) : ∀ (pre : List Nat) (r : Nat × Int × DS), (∀ z ∈ tab, z < 256) → ByteD r.2.2 → Good r.2.2 → (pre.foldl (wtStep tab at_) r).2.2.n = r.2.2.n
 | [], r, _, _, _ => rfl
 | k :: l, r, ht, h1, h2 => by
   have key : ByteD (wtStep tab at_ r k).2.2 ∧ Good (wtStep tab at_ r k).2.2 ∧ (wtStep tab at_ r k).2.2.n = r.2.2.n := by
    simp only [wtStep]
    split
    ·exact ⟨h1, h2, rfl⟩
    ·have := wpage_facts (d := r.2.2) ((at_.getD r.1 0 : Nat) : Int) 2 (layB (at_.getD (r.1 + 1) 0) 4 ++ (tab.drop (112 * k)).take 112) (fun z hz => by
      rcases List.mem_append.1 hz with hz | hz
      ·exact layB_lt _ _ z hz
      ·exact ht z (List.mem_of_mem_drop (List.mem_of_mem_take hz))) h1 h2
     exact ⟨this.1, this.2.1, this.2.2.1⟩
   rw [List.foldl_cons, wtF_n tab at_ l _ ht key.1 key.2.1]
   exact key.2.2
theorem Fd.cm {x : SS} {d : DS} {n m : Nat} (h : Fd d n m) (hw : x.Wf) (hr : Rise x.now) (hl : x.now.length ≤ 728) (hby : ∀ p ∈ x.now, ∀ z ∈ p.2.2, z < 256) : Fd (cmX x d).2 n (m + 4000) := by
 have hLr : Rise (laid x) := layP_rise hr _
 have hLz : ∀ i y, getL (laid x) i = some y → ∀ z ∈ y.2, z < 256 := fun i y e z hz => by
  have hm := (getL_mem hLr i y).1 e
  have : (i, y.2) ∈ (laid x).map (fun p => (p.1, p.2.2)) := List.mem_map.2 ⟨_, hm, rfl⟩
  unfold laid layP at this
  rw [layK_data] at this
  obtain ⟨q, hq, e2⟩ := List.mem_map.1 this
  injection e2 with _ e2
  rw [← e2] at hz
  exact hby q hq z hz
 have t1 : (tabB (laid x)).length ≤ 2912 := tab_small hw hl (plA_small hw)
 have t2 := putN_le x
 obtain ⟨b1, b2, b3, b4⟩ := wf_facts (laid x) hLz (freshN x.now) (0, d) h.by_ h.gd
 have e1 : (freshN x.now).foldl (wfStep (laid x)) (0, d) = wfR (laid x) d (freshN x.now) := rfl
 rw [e1] at b1 b2 b3 b4
 obtain ⟨d1, d2, d3⟩ := wtF_facts (tabB (laid x)) (tbs x) (tabB_byte _) (List.range (tabN (tabB (laid x)).length)) (0, 0, (wfR (laid x) d (freshN x.now)).2) b1 b2
 have d4 := wtF_n (tabB (laid x)) (tbs x) (List.range (tabN (tabB (laid x)).length)) (0, 0, (wfR (laid x) d (freshN x.now)).2) (tabB_byte _) b1 b2
 have e2 : (List.range (tabN (tabB (laid x)).length)).foldl (wtStep (tabB (laid x)) (tbs x)) (0, 0, (wfR (laid x) d (freshN x.now)).2) = wtR (tabB (laid x)) (tbs x) (wfR (laid x) d (freshN x.now)).2 (List.range (tabN (tabB (laid x)).length)) := rfl
 rw [e2] at d1 d2 d3 d4
 have t3 : tabN (tabB (laid x)).length ≤ 26 := by unfold tabN; omega
 have hp := h.pd
 unfold putN at t2
 simp only [List.length_range] at d3 b3
 have f1 : Fd (wfR (laid x) d (freshN x.now)).2 n (m + 2912) := ⟨b1, b2, b4.trans h.n_, by omega⟩
 have f2 : Fd (wtR (tabB (laid x)) (tbs x) (wfR (laid x) d (freshN x.now)).2 (List.range (tabN (tabB (laid x)).length))).2.2 n (m + 3999) := ⟨d1, d2, d4.trans f1.n_, by omega⟩
 unfold cmX cmR
 split
 ·exact f1.mono (by omega)
 ·split
  ·exact f2.mono (by omega)
  ·split
   ·exact f2.barrier.mono (by omega)
   ·exact f2.barrier.keep _ _ (byF_byt (rootB_lt _ _ _))
theorem Fd.crash {d : DS} {n m : Nat} (h : Fd d n m) (ks : List Bool) (torn cut : Int) : Fd (d.crash ks torn cut).2 n m := by
 by_cases hc : cut < 0 ∨ 32 < cut
 ·have : d.crash ks torn cut = (2, d) := by simp [DS.crash, hc]
  rw [this]
  exact h
 ·refine ⟨?_, h.gd.crash ks torn cut, ?_, ?_⟩
  ·unfold DS.crash; rw [if_neg hc]; exact h.by_.crash _ _ _ _
  ·unfold DS.crash; rw [if_neg hc]; exact h.n_
  ·unfold DS.crash; rw [if_neg hc]; simp
def eP (P q K : Nat) (rv : Value) (rs : List RW) (r : Nat) (nv : Value) : Nat → Prop := fun k => k = P ∨ refB q K rv rs k ∨ k = r ∨ nv.ownBlock = some k
def eR (P p S : Nat) (pv : Value) (s mc mn : Nat) : Nat → Prop := fun k => k = P ∨ diskB p S pv k ∨ k = s ∨ k = mc ∨ k = mn
structure Duo (w : World) (B P p S q K : Nat) (pv : Value) (s mc mn : Nat) (tv : Value) (x : SS) (rv : Value) (rs : List RW) (r : Nat) (tr kr nv : Value) (y : SS) (lk ln : List RPg) : Prop where
 st : StAt w (dkE (eP P q K rv rs r nv) p S pv) s p mc mn tv x
 rt : RsAt w (refE (eR P p S pv s mc mn) w.heap.size q K rv rs) B r q tr kr nv y lk ln
 sB : B ≤ s
 cB : B ≤ mc
 nB : B ≤ mn
structure PlC (w : World) (B P p S q K : Nat) (pv : Value) (d : DS) (rv : Value) (rs : List RW) (e : DS) (sv rp : Value) : Prop where
 pc : w.rangeAt P 0 [.pointer (some ⟨p, 0, none⟩), .pointer (some ⟨q, 0, none⟩), sv, rp]
 pt : w.there P 0 4
 pB : B ≤ P
 dk : DiskAt w B p S pv d
 rf : RefAt w B q K rv e rs
 ap : ∀ b, diskB p S pv b → ¬ refB q K rv rs b
 a1 : ¬ diskB p S pv P
 a2 : ¬ refB q K rv rs P
section
variable {w w1 : World} {B P p S q K s mc mn r : Nat} {pv tv rv tr kr nv sv rp : Value} {x y : SS} {rs : List RW} {lk ln : List RPg} {d e : DS}
theorem PlC.lt (h : PlC w B P p S q K pv d rv rs e sv rp) : P < w.heap.size := World.block_lt_of_cell? w _ (h.pc 0 _ rfl)
theorem Duo.old (h : Duo w B P p S q K pv s mc mn tv x rv rs r tr kr nv y lk ln) (hc : PlC w B P p S q K pv d rv rs e sv rp) : (∀ k, eP P q K rv rs r nv k → k < w.heap.size) ∧ (∀ k, eR P p S pv s mc mn k → k < w.heap.size) ∧ (∀ k, dkE (eP P q K rv rs r nv) p S pv k → k < w.heap.size) ∧ ∀ k, refE (eR P p S pv s mc mn) w.heap.size q K rv rs k → k < w.heap.size := by
 have k1 : ∀ k, eP P q K rv rs r nv k → k < w.heap.size := by
  rintro k (g | g | g | g)
  ·have := hc.lt; omega
  ·exact (hc.rf.lt k g).2
  ·have := h.rt.lt; omega
  ·exact (h.rt.now.lt k g).2
 refine ⟨k1, ?_, ?_, ?_⟩
 ·rintro k (g | g | g | g | g)
  ·have := hc.lt; omega
  ·exact (hc.dk.lt k g).2
  ·have := h.st.lt; omega
  ·have := h.st.com.lt; omega
  ·have := h.st.now.lt; omega
 ·rintro k (g | g)
  ·exact (hc.dk.lt k g).2
  ·exact k1 k g
 ·rintro k (g | g)
  ·exact (hc.rf.lt k g).2
  ·exact g.2
theorem Duo.prog {pv1 tv1 : Value} {mc1 mn1 : Nat} {x1 : SS} (h : Duo w B P p S q K pv s mc mn tv x rv rs r tr kr nv y lk ln) (h1 : StAt w1 (dkE (eP P q K rv rs r nv) p S pv1) s p mc1 mn1 tv1 x1)
  (ho : Only (fun k => diskB p S pv k ∨ k = s ∨ k = mn) w w1) (hs : ∀ b, pv1.ownBlock = some b → pv.ownBlock = some b ∨ w.heap.size ≤ b) (hc : mc1 = mc ∨ w.heap.size ≤ mc1) (hn : mn1 = mn ∨ w.heap.size ≤ mn1) (hB : B ≤ w.heap.size) :
  Duo w1 B P p S q K pv1 s mc1 mn1 tv1 x1 rv rs r tr kr nv y lk ln :=
 { st := h1
   rt := h.rt.frame ho (fun k hk g => .inr ⟨by
     rcases g with g | g | g
     ·exact .inr (.inl g)
     ·exact .inr (.inr (.inl g))
     ·exact .inr (.inr (.inr (.inr g))), hk⟩) (fun k hk g => by
     rcases g with g | ⟨g, _⟩
     ·exact .inl g
     ·refine .inr ⟨?_, hk⟩
      rcases g with g | g | g | g | g
      ·exact .inl g
      ·refine .inr (.inl ?_)
       rcases g with g | g | g
       ·exact .inl g
       ·exact .inr (.inl g)
       ·rcases hs k g with g | g
        ·exact .inr (.inr g)
        ·omega
      ·exact .inr (.inr (.inl g))
      ·rcases hc with g' | g'
       ·exact .inr (.inr (.inr (.inl (by omega))))
       ·omega
      ·rcases hn with g' | g'
       ·exact .inr (.inr (.inr (.inr (by omega))))
       ·omega)
   sB := h.sB
   cB := by have := h.cB; rcases hc with g | g <;> omega
   nB := by have := h.nB; rcases hn with g | g <;> omega }
theorem Duo.doc {rv1 tr1 kr1 nv1 : Value} {rs1 : List RW} {y1 : SS} {lk1 ln1 : List RPg} (h : Duo w B P p S q K pv s mc mn tv x rv rs r tr kr nv y lk ln) (hE : ∀ k, eR P p S pv s mc mn k → k < w.heap.size) (h1 : RsAt w1 (refE (eR P p S pv s mc mn) w.heap.size q K rv1 rs1) B r q tr1 kr1 nv1 y1 lk1 ln1)
  (ho : Only (fun k => refB q K rv rs k ∨ nv.ownBlock = some k ∨ k = r) w w1) (hs : ∀ b, refB q K rv1 rs1 b → refB q K rv rs b ∨ w.heap.size ≤ b) (hn : ∀ b, nv1.ownBlock = some b → nv.ownBlock = some b ∨ w.heap.size ≤ b) :
  Duo w1 B P p S q K pv s mc mn tv x rv1 rs1 r tr1 kr1 nv1 y1 lk1 ln1 :=
 { st := h.st.frame ho (fun k hk g => .inr (by
     rcases g with g | g | g
     ·exact .inr (.inl g)
     ·exact .inr (.inr (.inr g))
     ·exact .inr (.inr (.inl g)))) (fun k hk g => by
     rcases g with g | g
     ·exact .inl g
     ·refine .inr ?_
      rcases g with g | g | g | g
      ·exact .inl g
      ·rcases hs k g with g | g
       ·exact .inr (.inl g)
       ·omega
      ·exact .inr (.inr (.inl g))
      ·rcases hn k g with g | g
       ·exact .inr (.inr (.inr g))
       ·omega)
   rt := h1.frame (Only.refl (fun _ => False) w1) (fun _ _ g => g.elim) (fun k _ g => g.imp id (fun g => ⟨g.1, hE k g.1⟩))
   sB := h.sB, cB := h.cB, nB := h.nB }
theorem Duo.still (h : Duo w B P p S q K pv s mc mn tv x rv rs r tr kr nv y lk ln) (ho : Only (fun _ => False) w w1) : Duo w1 B P p S q K pv s mc mn tv x rv rs r tr kr nv y lk ln :=
 { st := h.st.frame ho (fun _ _ g => g.elim) (fun _ _ g => g)
   rt := h.rt.frame ho (fun _ _ g => g.elim) (fun k hk g => g.imp id (fun g => ⟨g.1, hk⟩))
   sB := h.sB, cB := h.cB, nB := h.nB }
theorem Duo.disks {pv1 rv1 : Value} {rs1 : List RW} (h : Duo w B P p S q K pv s mc mn tv x rv rs r tr kr nv y lk ln) (ho : Only (fun k => k = P ∨ diskB p S pv k ∨ refB q K rv rs k) w w1) (hs : ∀ b, pv1.ownBlock = some b → pv.ownBlock = some b ∨ w.heap.size ≤ b) (hr : ∀ b, refB q K rv1 rs1 b → refB q K rv rs b ∨ w.heap.size ≤ b) :
  Duo w1 B P p S q K pv1 s mc mn tv x rv1 rs1 r tr kr nv y lk ln :=
 { st := h.st.frame ho (fun k hk g => by
     rcases g with g | g | g
     ·exact .inr (.inl g)
     ·exact .inl g
     ·exact .inr (.inr (.inl g))) (fun k hk g => by
     rcases g with g | g
     ·rcases g with g | g | g
      ·exact .inl (.inl g)
      ·exact .inl (.inr (.inl g))
      ·rcases hs k g with g | g
       ·exact .inl (.inr (.inr g))
       ·omega
     ·refine .inr ?_
      rcases g with g | g | g | g
      ·exact .inl g
      ·rcases hr k g with g | g
       ·exact .inr (.inl g)
       ·omega
      ·exact .inr (.inr (.inl g))
      ·exact .inr (.inr (.inr g)))
   rt := h.rt.frame ho (fun k hk g => by
     rcases g with g | g | g
     ·exact .inr ⟨.inl g, hk⟩
     ·exact .inr ⟨.inr (.inl g), hk⟩
     ·exact .inl g) (fun k hk g => by
     rcases g with g | ⟨g, _⟩
     ·rcases hr k g with g | g
      ·exact .inl g
      ·omega
     ·refine .inr ⟨?_, hk⟩
      rcases g with g | g | g
      ·exact .inl g
      ·refine .inr (.inl ?_)
       rcases g with g | g | g
       ·exact .inl g
       ·exact .inr (.inl g)
       ·rcases hs k g with g | g
        ·exact .inr (.inr g)
        ·omega
      ·exact .inr (.inr g))
   sB := h.sB, cB := h.cB, nB := h.nB }
theorem PlC.prog {pv1 : Value} {d1 : DS} {X : Nat → Prop} (h : PlC w B P p S q K pv d rv rs e sv rp) (h1 : DiskAt w1 B p S pv1 d1) (ho : Only (fun k => diskB p S pv k ∨ X k) w w1) (hX : ∀ k, X k → k ≠ P ∧ ¬ refB q K rv rs k) (hs : ∀ b, pv1.ownBlock = some b → pv.ownBlock = some b ∨ w.heap.size ≤ b) :
  PlC w1 B P p S q K pv1 d1 rv rs e sv rp := by
 have nP : ¬ (diskB p S pv P ∨ X P) := by
  rintro (g | g)
  ·exact h.a1 g
  ·exact (hX P g).1 rfl
 have hsub : ∀ b, diskB p S pv1 b → diskB p S pv b ∨ w.heap.size ≤ b := by
  rintro b (g | g | g)
  ·exact .inl (.inl g)
  ·exact .inl (.inr (.inl g))
  ·exact (hs b g).imp (fun g => .inr (.inr g)) id
 exact
  { pc := ho.range h.pc nP, pt := ho.there h.pt nP, pB := h.pB, dk := h1
    rf := h.rf.frame ho (fun b g g' => by
     rcases g' with g' | g'
     ·exact h.ap b g' g
     ·exact (hX b g').2 g)
    ap := fun b g g' => by
     rcases hsub b g with g | g
     ·exact h.ap b g g'
     ·have := (h.rf.lt b g').2; omega
    a1 := fun g => by
     rcases hsub P g with g | g
     ·exact h.a1 g
     ·have := h.lt; omega
    a2 := h.a2 }
theorem PlC.doc {rv1 : Value} {rs1 : List RW} {e1 : DS} {X : Nat → Prop} (h : PlC w B P p S q K pv d rv rs e sv rp) (h1 : RefAt w1 B q K rv1 e1 rs1) (ho : Only (fun k => refB q K rv rs k ∨ X k) w w1) (hX : ∀ k, X k → k ≠ P ∧ ¬ diskB p S pv k) (hs : ∀ b, refB q K rv1 rs1 b → refB q K rv rs b ∨ w.heap.size ≤ b) :
  PlC w1 B P p S q K pv d rv1 rs1 e1 sv rp := by
 have nP : ¬ (refB q K rv rs P ∨ X P) := by
  rintro (g | g)
  ·exact h.a2 g
  ·exact (hX P g).1 rfl
 exact
  { pc := ho.range h.pc nP, pt := ho.there h.pt nP, pB := h.pB, rf := h1
    dk := h.dk.frame ho (fun b g g' => by
     rcases g' with g' | g'
     ·exact h.ap b g g'
     ·exact (hX b g').2 g)
    ap := fun b g g' => by
     rcases hs b g' with g' | g'
     ·exact h.ap b g g'
     ·have := (h.dk.lt b g).2; omega
    a1 := h.a1
    a2 := fun g => by
     rcases hs P g with g | g
     ·exact h.a2 g
     ·have := h.lt; omega }
theorem PlC.still (h : PlC w B P p S q K pv d rv rs e sv rp) (ho : Only (fun _ => False) w w1) : PlC w1 B P p S q K pv d rv rs e sv rp :=
 { pc := ho.range h.pc (fun g => g), pt := ho.there h.pt (fun g => g), pB := h.pB, dk := h.dk.frame ho (fun _ _ g => g), rf := h.rf.frame ho (fun _ _ g => g), ap := h.ap, a1 := h.a1, a2 := h.a2 }
def StK (w : World) (B P p S q K : Nat) (pv rv : Value) (rs : List RW) (n : Nat) (sv rp : Value) : Prop :=
 (sv = .pointer none ∧ rp = .pointer none) ∨
 (∃ s r, sv = .pointer (some ⟨s, 0, none⟩) ∧ rp = .pointer (some ⟨r, 0, none⟩) ∧ w.cell? ⟨s, 0, none⟩ = some (.pointer none) ∧ RDead w r ∧ (s < w.heap.size ∧ ¬ (s = P ∨ diskB p S pv s ∨ refB q K rv rs s)) ∧ (r < w.heap.size ∧ ¬ (r = P ∨ diskB p S pv r ∨ refB q K rv rs r))) ∨
 (∃ s r mc mn tv tr kr nv x lk ln, sv = .pointer (some ⟨s, 0, none⟩) ∧ rp = .pointer (some ⟨r, 0, none⟩) ∧ x.size = n / 4 ∧ Duo w B P p S q K pv s mc mn tv x rv rs r tr kr nv x lk ln)
theorem StK.disks {n : Nat} {pv1 rv1 : Value} {rs1 : List RW} (h : StK w B P p S q K pv rv rs n sv rp) (ho : Only (fun k => k = P ∨ diskB p S pv k ∨ refB q K rv rs k) w w1) (hs : ∀ b, pv1.ownBlock = some b → pv.ownBlock = some b ∨ w.heap.size ≤ b) (hr : ∀ b, refB q K rv1 rs1 b → refB q K rv rs b ∨ w.heap.size ≤ b) :
  StK w1 B P p S q K pv1 rv1 rs1 n sv rp := by
 have hno : ∀ k, k < w.heap.size → ¬ (k = P ∨ diskB p S pv k ∨ refB q K rv rs k) → ¬ (k = P ∨ diskB p S pv1 k ∨ refB q K rv1 rs1 k) := by
  rintro k hk hn (g | g | g)
  ·exact hn (.inl g)
  ·rcases g with g | g | g
   ·exact hn (.inr (.inl (.inl g)))
   ·exact hn (.inr (.inl (.inr (.inl g))))
   ·rcases hs k g with g | g
    ·exact hn (.inr (.inl (.inr (.inr g))))
    ·omega
  ·rcases hr k g with g | g
   ·exact hn (.inr (.inr g))
   ·omega
 rcases h with h | ⟨s, r, e1, e2, h1, h2, h3, h4⟩ | ⟨s, r, mc, mn, tv, tr, kr, nv, x, lk, ln, e1, e2, e3, h⟩
 ·exact .inl h
 ·refine .inr (.inl ⟨s, r, e1, e2, ho.cell h1 h3.2, ⟨ho.cell h2.1 h4.2, ?_, ?_⟩, ⟨Nat.lt_of_lt_of_le h3.1 ho.size, hno s h3.1 h3.2⟩, ⟨Nat.lt_of_lt_of_le h4.1 ho.size, hno r h4.1 h4.2⟩⟩)
  ·obtain ⟨c, hc⟩ := h2.2.1
   exact ⟨c, ho.cell hc h4.2⟩
  ·obtain ⟨a, n, c, hc⟩ := h2.2.2
   exact ⟨a, n, c, ho.cell hc h4.2⟩
 ·exact .inr (.inr ⟨s, r, mc, mn, tv, tr, kr, nv, x, lk, ln, e1, e2, e3, h.disks ho hs hr⟩)
end
end Go.Proofs.YtlcglapcmdpkfaaGreat
