import Derived.Test.YtlcglapcmdpkfaaGreatG33
namespace Go.Proofs.YtlcglapcmdpkfaaGreat
open Go.RowKit Go.Maps
set_option linter.unusedSimpArgs false
set_option linter.unusedVariables false
section
variable {w w1 w2 : World} {B P p S q K X N m s mc mn mn1 r : Nat} {pv pv' rv rv' sv rp tv tv1 tr kr nv : Value} {rs rs' : List RW} {d e : DS} {x x1 y y1 : SS} {lk ln : List RPg}
theorem Duo.commit (h : Duo w B P p S q K pv s mc mn tv x rv rs r tr kr nv x lk ln) (hc : PlC w B P p S q K pv d rv rs d (.pointer (some ⟨s, 0, none⟩)) (.pointer (some ⟨r, 0, none⟩))) (hx : x.size = N / 4) (hf : Fd d N m) (hX : Off X P p S q K pv rv rs s mc mn r nv) (hm : m ≤ 8589934592) :
  Two w B P p S q K N (m + 4000) X 20 21 #[.pointer (some ⟨s, 0, none⟩)] #[.pointer (some ⟨r, 0, none⟩)] := by
 have hpd := hf.pd
 have hBw : B ≤ w.heap.size := by have := hc.pB; have := hc.lt; omega
 have hN := h.not
 have hsl := h.st.lt
 have hrl := h.rt.lt
 have hsB := h.sB
 have hrB := h.rt.rB
 have C1 := commit_anyE (E := eP P q K rv rs r nv) h.st (h.old hc).1 hc.dk hBw hf.by_ hf.gd (by omega)
 have hfc := hf.cm h.rt.wf h.rt.nowR h.rt.n728 h.rt.bytes
 have ns := hN.1 s (.inl rfl)
 have nr := hN.2 r (.inr rfl)
 by_cases hfit : needN x ≤ freeN x x.size
 ·by_cases h0 : (cmX x d).1 = 0
  ·refine ⟨0, C1.mono ?_⟩
   rintro e w1 H
   rcases H.out with ⟨g, _⟩ | ⟨_, g, _⟩ | ⟨_, _, rfl, pv1, mc1, mn1, tv1, g1, gs, go, g3, g4, g5⟩
   ·omega
   ·exact absurd h0 g
   ·have c1 : PlC w1 B P p S q K pv1 (cmX x d).2 rv rs d (.pointer (some ⟨s, 0, none⟩)) (.pointer (some ⟨r, 0, none⟩)) := hc.prog (X := fun k => k = s) g1 go (fun k g => by rw [g]; exact ⟨ns.1, ns.2.2⟩) g3
    have d1 := h.prog gs (go.mono (fun k _ g => g.elim .inl (fun g => .inr (.inl g)))) g3 (.inr g4) (.inr g5) hBw
    have hs1 := go.size
    have k1 : KeepC P X w w1 := KeepC.of go (fun g => g.elim hc.a1 (fun g => ns.1 g.symm)) (fun g => hX.2 (g.elim (fun g => .inr (.inl g)) (fun g => .inr (.inr (.inl g)))))
    refine ⟨rfl, k1, (rCommit_any (E := eR P p S pv1 s mc1 mn1) d1.rt c1.rf (by omega) hf.by_ hf.gd (by omega) (by rw [hf.n_, hx])).mono ?_⟩
    rintro e w2 H2
    rcases H2.out with ⟨g, _⟩ | ⟨_, g, _⟩ | ⟨_, _, rfl, hU⟩
    ·omega
    ·exact absurd h0 g
    ·obtain ⟨rv1, rs1, tr1, kr1, lk1, ln1, m1, m2⟩ := hU.all
     have d2 := d1.doc (d1.old c1).2.1 m2 m1.ho m1.sub (fun b g => .inl g)
     have c2 : PlC w2 B P p S q K pv1 (cmX x d).2 rv1 rs1 (cmX x d).2 (.pointer (some ⟨s, 0, none⟩)) (.pointer (some ⟨r, 0, none⟩)) := c1.doc (X := fun k => nv.ownBlock = some k ∨ k = r) m1.ref m1.ho (fun k g => ⟨(d1.not.2 k g).1, (d1.not.2 k g).2.1⟩) m1.sub
     have k2 : KeepC P X w1 w2 := KeepC.of m1.ho (fun g => g.elim hc.a2 (fun g => (hN.2 P g).1 rfl)) (fun g => hX.1 (g.elim (fun g => .inr (.inl g)) (fun g => g.elim (fun g => .inr (.inr (.inr g))) (fun g => .inr (.inr (.inl g))))))
     have hok : PlOk w2 B P p S q K N (m + 4000) := ⟨pv1, _, rv1, rs1, _, _, c2, .inr (.inr ⟨s, r, mc1, mn1, tv1, tr1, kr1, nv, x.next, lk1, ln1, rfl, rfl, hx, d2⟩), hfc⟩
     refine ⟨rfl, k1.trans k2, hok.thenA (k1.trans k2) ((go.mono (fun k _ g => ?_)).trans (m1.ho.mono (fun k _ g => ?_)) (fun _ _ g => g))⟩
     ·rcases g with g | g
      ·exact (hc.dk.lt k g).1
      ·omega
     ·rcases g with g | g | g
      ·exact (hc.rf.lt k g).1
      ·exact (h.rt.now.lt k g).1
      ·omega
  ·refine ⟨3, C1.mono ?_⟩
   rintro e w1 H
   rcases H.out with ⟨g, _⟩ | ⟨_, _, rfl, pv1, g1, gs, go, g3⟩ | ⟨_, g, _⟩
   ·omega
   ·have c1 : PlC w1 B P p S q K pv1 (cmX x d).2 rv rs d (.pointer (some ⟨s, 0, none⟩)) (.pointer (some ⟨r, 0, none⟩)) := hc.prog (X := fun k => k = s) g1 go (fun k g => by rw [g]; exact ⟨ns.1, ns.2.2⟩) g3
    have hs1 := go.size
    have k1 : KeepC P X w w1 := KeepC.of go (fun g => g.elim hc.a1 (fun g => ns.1 g.symm)) (fun g => hX.2 (g.elim (fun g => .inr (.inl g)) (fun g => .inr (.inr (.inl g)))))
    have rt1 : RsAt w1 (refE (fun _ => False) w1.heap.size q K rv rs) B r q tr kr nv x lk ln := h.rt.frame go (fun k hk g => .inr ⟨g.elim (fun g => .inr (.inl g)) (fun g => .inr (.inr (.inl g))), hk⟩) (fun k hk g => g.elim .inl (fun g => g.1.elim))
    refine ⟨rfl, k1, (rCommit_any (E := fun _ => False) rt1 c1.rf (by omega) hf.by_ hf.gd (by omega) (by rw [hf.n_, hx])).mono ?_⟩
    rintro e w2 H2
    rcases H2.out with ⟨g, _⟩ | ⟨_, _, rfl, hD, rv1, rs1, m1⟩ | ⟨_, g, _⟩
    ·omega
    ·have hno : ∀ k, k < w.heap.size → k ≠ P → ¬ diskB p S pv k → ¬ refB q K rv rs k → ¬ (k = P ∨ diskB p S pv1 k ∨ refB q K rv1 rs1 k) := by
      rintro k hk a1 a2 a3 (g | g | g)
      ·exact a1 g
      ·rcases g with g | g | g
       ·exact a2 (.inl g)
       ·exact a2 (.inr (.inl g))
       ·rcases g3 k g with g | g
        ·exact a2 (.inr (.inr g))
        ·omega
      ·rcases m1.sub k g with g | g
       ·exact a3 g
       ·omega
     have n1 : ∀ k, (nv.ownBlock = some k ∨ k = r) → k ≠ P ∧ ¬ diskB p S pv1 k := fun k g => by
      have hk : k < w.heap.size := by
       rcases g with g | g
       ·exact (h.rt.now.lt k g).2
       ·omega
      have := hN.2 k g
      have := hno k hk this.1 this.2.1 this.2.2
      exact ⟨fun g => this (.inl g), fun g => this (.inr (.inl g))⟩
     have c2 : PlC w2 B P p S q K pv1 (cmX x d).2 rv1 rs1 (cmX x d).2 (.pointer (some ⟨s, 0, none⟩)) (.pointer (some ⟨r, 0, none⟩)) := c1.doc (X := fun k => nv.ownBlock = some k ∨ k = r) m1.ref m1.ho n1 m1.sub
     have k2 : KeepC P X w1 w2 := KeepC.of m1.ho (fun g => g.elim hc.a2 (fun g => (hN.2 P g).1 rfl)) (fun g => hX.1 (g.elim (fun g => .inr (.inl g)) (fun g => g.elim (fun g => .inr (.inr (.inr g))) (fun g => .inr (.inr (.inl g))))))
     have hs2 := m1.ho.size
     have sE : ¬ eP P q K rv rs r nv s := fun g => h.st.k1 (.inr g)
     have hok : PlOk w2 B P p S q K N (m + 4000) := ⟨pv1, _, rv1, rs1, _, _, c2, .inr (.inl ⟨s, r, rfl, rfl, m1.ho.cell gs (fun g => sE (g.elim (fun g => .inr (.inl g)) (fun g => g.elim (fun g => .inr (.inr (.inr g))) (fun g => .inr (.inr (.inl g)))))), hD, ⟨by omega, hno s hsl ns.1 ns.2.1 ns.2.2⟩, ⟨by omega, hno r hrl nr.1 nr.2.1 nr.2.2⟩⟩), hfc⟩
     refine ⟨rfl, k1.trans k2, hok.thenA (k1.trans k2) ((go.mono (fun k _ g => ?_)).trans (m1.ho.mono (fun k _ g => ?_)) (fun _ _ g => g))⟩
     ·rcases g with g | g
      ·exact (hc.dk.lt k g).1
      ·omega
     ·rcases g with g | g | g
      ·exact (hc.rf.lt k g).1
      ·exact (h.rt.now.lt k g).1
      ·omega
    ·exact absurd g h0
   ·exact absurd g h0
 ·refine h.two (c := 7) (x1 := x) hc hx (hf.mono (by omega)) hX (C1.mono ?_) (fun w1 mn1 tv1 ho g1 g2 => (rCommit_any (E := eR P p S pv s mc mn1) g1.rt g2.rf (by have := ho.size; omega) hf.by_ hf.gd (by omega) (by rw [hf.n_, hx])).mono ?_)
  ·rintro e w1 H
   rcases H.out with ⟨_, rfl, go⟩ | ⟨g, _⟩ | ⟨g, _⟩
   ·exact ⟨rfl, mn, tv, h.st.frame go (fun _ _ g => g.elim) (fun _ _ g => g), go.mono (fun _ _ g => g.elim), .inl rfl⟩
   ·omega
   ·omega
  ·rintro e w2 H
   rcases H.out with ⟨_, rfl, go⟩ | ⟨g, _⟩ | ⟨g, _⟩
   ·exact ⟨rfl, tr, kr, nv, lk, ln, g1.rt.frame go (fun _ _ g => g.elim) (fun _ _ g => g), go.mono (fun _ _ g => g.elim), fun b g => .inl g⟩
   ·omega
   ·omega
end
end Go.Proofs.YtlcglapcmdpkfaaGreat
