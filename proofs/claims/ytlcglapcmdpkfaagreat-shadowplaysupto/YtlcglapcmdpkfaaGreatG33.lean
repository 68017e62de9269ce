import Derived.Test.YtlcglapcmdpkfaaGreatG32
namespace Go.Proofs.YtlcglapcmdpkfaaGreat
open Go.RowKit Go.Maps
set_option linter.unusedSimpArgs false
set_option linter.unusedVariables false
theorem PlOk.still {w w1 : World} {B P p S q K n m : Nat} (h : PlOk w B P p S q K n m) (ho : Only (fun _ => False) w w1) : PlOk w1 B P p S q K n m := by
 obtain ⟨pv, d, rv, rs, sv, rp, hc, hk, hf⟩ := h
 exact ⟨pv, d, rv, rs, sv, rp, hc.still ho, hk.disks (ho.mono (fun _ _ g => g.elim)) (fun b g => .inl g) (fun b g => .inl g), hf⟩
theorem PlOk.alike {w : World} {B P p S q K n m : Nat} (h : PlOk w B P p S q K n m) : Calls Tryz.prog 16 #[.pointer (some ⟨P, 0, none⟩)] w fun e w' => e = .returned (.bool true) ∧ Only (fun _ => False) w w' := by
 obtain ⟨pv, d, rv, rs, sv, rp, hc, hk, hf⟩ := h
 exact alike_any hc hk hf.n_.symm
def ThenA (w0 : World) (B P p S q K n m X : Nat) (w2 : World) : Prop := Calls Tryz.prog 16 #[.pointer (some ⟨P, 0, none⟩)] w2 fun e w3 => e = .returned (.bool true) ∧ Hid (KeepC P X w0 w3) ∧ Hid (PlOk w3 B P p S q K n m ∧ Only (fun k => B ≤ k) w0 w3)
theorem PlOk.thenA {w w2 : World} {B P p S q K n m X : Nat} (h : PlOk w2 B P p S q K n m) (hk : KeepC P X w w2) (ho : Only (fun k => B ≤ k) w w2) : ThenA w B P p S q K n m X w2 := by
 refine h.alike.mono ?_
 rintro e w3 ⟨rfl, o3⟩
 exact ⟨rfl, hk.trans (KeepC.of o3 (fun g => g) (fun g => g)), h.still o3, ho.trans (o3.mono (fun _ _ g => g.elim)) (fun _ _ g => g)⟩
def Two (w : World) (B P p S q K n m X f1 f2 : Nat) (a1 a2 : Array Value) : Prop := ∃ y : Int, Calls Tryz.prog f1 a1 w fun e w1 => e = .returned (.int .i64 y) ∧ Hid (KeepC P X w w1) ∧ Hid (Calls Tryz.prog f2 a2 w1 fun e w2 => e = .returned (.int .i64 y) ∧ Hid (KeepC P X w w2) ∧ Hid (ThenA w B P p S q K n m X w2))
section
variable {w w1 w2 : World} {B P p S q K X N m s mc mn mn1 r : Nat} {pv pv' rv rv' sv rp tv tv1 tr kr nv : Value} {rs rs' : List RW} {d e : DS} {x x1 y y1 : SS} {lk ln : List RPg}
theorem Duo.not (h : Duo w B P p S q K pv s mc mn tv x rv rs r tr kr nv y lk ln) : (∀ k, (k = s ∨ k = mn) → k ≠ P ∧ ¬ diskB p S pv k ∧ ¬ refB q K rv rs k) ∧ (∀ k, (nv.ownBlock = some k ∨ k = r) → k ≠ P ∧ ¬ diskB p S pv k ∧ ¬ refB q K rv rs k) := by
 constructor
 ·intro k hk
  have : ¬ dkE (eP P q K rv rs r nv) p S pv k := by
   rcases hk with rfl | rfl
   ·exact h.st.k1
   ·exact h.st.k3
  exact ⟨fun g => this (.inr (.inl g)), fun g => this (.inl g), fun g => this (.inr (.inr (.inl g)))⟩
 ·intro k hk
  have hlt : k < w.heap.size := by
   rcases hk with g | g
   ·exact (h.rt.now.lt k g).2
   ·have := h.rt.lt; omega
  have : ¬ refE (eR P p S pv s mc mn) w.heap.size q K rv rs k := by
   rcases hk with g | rfl
   ·exact (h.rt.k2 k g).2
   ·exact h.rt.k1
  exact ⟨fun g => this (.inr ⟨.inl g, hlt⟩), fun g => this (.inr ⟨.inr (.inl g), hlt⟩), fun g => this (.inl g)⟩
theorem Duo.prog1 (h : Duo w B P p S q K pv s mc mn tv x rv rs r tr kr nv y lk ln) (hc : PlC w B P p S q K pv d rv rs e sv rp) (h1 : StAt w1 (dkE (eP P q K rv rs r nv) p S pv) s p mc mn1 tv1 x1) (ho : Only (fun k => k = s ∨ k = mn) w w1) (hn : mn1 = mn ∨ w.heap.size ≤ mn1) :
  PlC w1 B P p S q K pv d rv rs e sv rp ∧ Duo w1 B P p S q K pv s mc mn1 tv1 x1 rv rs r tr kr nv y lk ln := by
 have hN := h.not.1
 refine ⟨hc.prog (X := fun k => k = s ∨ k = mn) (hc.dk.frame ho (fun b g g' => (hN b g').2.1 g)) (ho.mono (fun _ _ g => .inr g)) (fun k g => ⟨(hN k g).1, (hN k g).2.2⟩) (fun b g => .inl g), h.prog h1 (ho.mono (fun _ _ g => .inr g)) (fun b g => .inl g) (.inl rfl) hn ?_⟩
 have := hc.pB
 have := hc.lt
 omega
theorem Duo.doc1 (h : Duo w B P p S q K pv s mc mn tv x rv rs r tr kr nv y lk ln) (hc : PlC w B P p S q K pv d rv rs e sv rp) (h1 : RsIs w (refE (eR P p S pv s mc mn) w.heap.size q K rv rs) B r q nv y1 w1) :
  PlC w1 B P p S q K pv d rv rs e sv rp ∧ ∃ tr kr nv lk ln, Duo w1 B P p S q K pv s mc mn tv x rv rs r tr kr nv y1 lk ln := by
 obtain ⟨tv', kv', nv', lk', ln', g1, g2, g3⟩ := h1
 have hN := h.not.2
 refine ⟨hc.doc (X := fun k => nv.ownBlock = some k ∨ k = r) (hc.rf.frame g2 (fun b g g' => (hN b g').2.2 g)) (g2.mono (fun _ _ g => .inr g)) (fun k g => ⟨(hN k g).1, (hN k g).2.1⟩) (fun b g => .inl g), tv', kv', nv', lk', ln', h.doc (h.old hc).2.1 g1 (g2.mono (fun _ _ g => .inr g)) (fun b g => .inl g) g3⟩
def Off (X P p S q K : Nat) (pv rv : Value) (rs : List RW) (s mc mn r : Nat) (nv : Value) : Prop := ¬ (eP P q K rv rs r nv X) ∧ ¬ eR P p S pv s mc mn X
theorem Duo.two {f1 f2 : Nat} {a1 a2 : Array Value} {c : Int} (h : Duo w B P p S q K pv s mc mn tv x rv rs r tr kr nv x lk ln) (hc : PlC w B P p S q K pv d rv rs d (.pointer (some ⟨s, 0, none⟩)) (.pointer (some ⟨r, 0, none⟩))) (hx : x1.size = N / 4) (hf : Fd d N m) (hX : Off X P p S q K pv rv rs s mc mn r nv)
  (h1 : Calls Tryz.prog f1 a1 w fun e w1 => e = .returned (.int .i64 c) ∧ ∃ mn1 tv1, StAt w1 (dkE (eP P q K rv rs r nv) p S pv) s p mc mn1 tv1 x1 ∧ Only (fun k => k = s ∨ k = mn) w w1 ∧ (mn1 = mn ∨ w.heap.size ≤ mn1))
  (h2 : ∀ w1 mn1 tv1, Only (fun k => k = s ∨ k = mn) w w1 → Duo w1 B P p S q K pv s mc mn1 tv1 x1 rv rs r tr kr nv x lk ln → PlC w1 B P p S q K pv d rv rs d (.pointer (some ⟨s, 0, none⟩)) (.pointer (some ⟨r, 0, none⟩)) → Calls Tryz.prog f2 a2 w1 fun e w2 => e = .returned (.int .i64 c) ∧ RsIs w1 (refE (eR P p S pv s mc mn1) w1.heap.size q K rv rs) B r q nv x1 w2) :
  Two w B P p S q K N m X f1 f2 a1 a2 := by
 refine ⟨c, h1.mono ?_⟩
 rintro e w1 ⟨rfl, mn1, tv1, g1, g2, g3⟩
 obtain ⟨c1, d1⟩ := h.prog1 hc g1 g2 g3
 have hN := h.not
 have lo : ∀ k, (k = s ∨ k = mn) → B ≤ k := by
  rintro k (g | g)
  ·have := h.sB; omega
  ·have := h.nB; omega
 have k1 : KeepC P X w w1 := KeepC.of g2 (fun g => (hN.1 P g).1 rfl) (fun g => hX.2 (g.elim (fun g => .inr (.inr (.inl g))) (fun g => .inr (.inr (.inr (.inr g))))))
 refine ⟨rfl, k1, (h2 w1 mn1 tv1 g2 d1 c1).mono ?_⟩
 rintro e w2 ⟨rfl, hR⟩
 obtain ⟨c2, tr2, kr2, nv2, lk2, ln2, d2⟩ := d1.doc1 c1 hR
 obtain ⟨_, _, _, _, _, _, o2, _⟩ := hR
 have k2 : KeepC P X w1 w2 := KeepC.of o2 (fun g => (hN.2 P g).1 rfl) (fun g => hX.1 (g.elim (fun g => .inr (.inr (.inr g))) (fun g => .inr (.inr (.inl g)))))
 have hok : PlOk w2 B P p S q K N m := ⟨pv, d, rv, rs, _, _, c2, .inr (.inr ⟨s, r, mc, mn1, tv1, tr2, kr2, nv2, x1, lk2, ln2, rfl, rfl, hx, d2⟩), hf⟩
 refine ⟨rfl, k1.trans k2, hok.thenA (k1.trans k2) ((g2.mono (fun k _ g => lo k g)).trans (o2.mono (fun k hk g => ?_)) (fun _ _ g => g))⟩
 rcases g with g | g
 ·exact (h.rt.now.lt k g).1
 ·have := h.rt.rB; omega
theorem dead_two {f1 f2 : Nat} {a1 a2 : Array Value} {c : Int} (h : PlOk w B P p S q K N m) (h1 : Calls Tryz.prog f1 a1 w fun e w' => e = .returned (.int .i64 c) ∧ w' = w) (h2 : Calls Tryz.prog f2 a2 w fun e w' => e = .returned (.int .i64 c) ∧ w' = w) : Two w B P p S q K N m X f1 f2 a1 a2 := by
 have k0 : KeepC P X w w := KeepC.of (Only.refl (fun _ => False) w) (fun g => g) (fun g => g)
 refine ⟨c, h1.mono ?_⟩
 rintro e w1 ⟨rfl, rfl⟩
 refine ⟨rfl, k0, h2.mono ?_⟩
 rintro e w2 ⟨rfl, rfl⟩
 exact ⟨rfl, k0, h.thenA k0 (Only.refl _ _)⟩
theorem isAt_pg {l : Pgs} (h : Rise l) (i : Int) : (pgAt l i).isSome = isAt l i := by
 unfold pgAt
 rw [get_fi h]
 cases e : isAt l i with
 | false => simp
 | true =>
   simp only [if_true, Option.isSome_map]
   unfold isAt at e
   cases e2 : l[fi l i]? with
   | none => rw [e2] at e; cases e
   | some p => rfl
theorem Duo.drop (h : Duo w B P p S q K pv s mc mn tv x rv rs r tr kr nv x lk ln) (hc : PlC w B P p S q K pv d rv rs d (.pointer (some ⟨s, 0, none⟩)) (.pointer (some ⟨r, 0, none⟩))) (hx : x.size = N / 4) (hf : Fd d N m) (hX : Off X P p S q K pv rv rs s mc mn r nv) (i : Int) :
  Two w B P p S q K N m X 18 19 #[.pointer (some ⟨s, 0, none⟩), .int .i64 i] #[.pointer (some ⟨r, 0, none⟩), .int .i64 i] := by
 have hBl : ∀ w1 : World, PlC w1 B P p S q K pv d rv rs d (.pointer (some ⟨s, 0, none⟩)) (.pointer (some ⟨r, 0, none⟩)) → B ≤ w1.heap.size := fun w1 g => by have := g.pB; have := g.lt; omega
 by_cases hi : 0 ≤ i ∧ i < 728
 ·have hb : ¬ badE i ≠ 0 := by simp [badE, hi]
  cases hg : pgAt x.now i with
  | some y =>
    have ha : isAt x.now i = true := by rw [← isAt_pg h.rt.nowR, hg]; rfl
    have hE : rdE x i = 0 := by unfold rdE; rw [if_neg hb, if_pos ha]
    refine h.two (c := 0) (x1 := { x with now := delL x.now i }) hc hx hf hX ((drop_ok h.st i hi hg).mono ?_) (fun w1 mn1 tv1 _ g1 g2 => (rdrop_any g1.rt (g1.old g2).2.2.2 (hBl w1 g2) i).mono ?_)
    ·rintro e w1 ⟨rfl, g1, g2⟩
     exact ⟨rfl, mn, tv, g1, g2.mono (fun _ _ g => .inr g), .inl rfl⟩
    ·rintro e w2 ⟨rfl, H⟩
     rw [hE, if_pos rfl] at H
     exact ⟨by rw [hE], H.out⟩
  | none =>
    have ha : isAt x.now i = false := by rw [← isAt_pg h.rt.nowR, hg]; rfl
    have hE : rdE x i = 6 := by unfold rdE; rw [if_neg hb, if_neg (by simp [ha])]
    refine h.two (c := 6) (x1 := x) hc hx hf hX ((drop_none h.st i hi hg).mono ?_) (fun w1 mn1 tv1 _ g1 g2 => (rdrop_any g1.rt (g1.old g2).2.2.2 (hBl w1 g2) i).mono ?_)
    ·rintro e w1 ⟨rfl, g2⟩
     exact ⟨rfl, mn, tv, h.st.frame g2 (fun _ _ g => g.elim) (fun _ _ g => g), g2.mono (fun _ _ g => g.elim), .inl rfl⟩
    ·rintro e w2 ⟨rfl, H⟩
     rw [hE, if_neg (by omega)] at H
     exact ⟨by rw [hE], H.out⟩
 ·have hE : rdE x i = 4 := by unfold rdE; rw [if_pos (by simp [badE, hi])]
  refine h.two (c := 4) (x1 := x) hc hx hf hX ((drop_out h.st i (by omega)).mono ?_) (fun w1 mn1 tv1 _ g1 g2 => (rdrop_any g1.rt (g1.old g2).2.2.2 (hBl w1 g2) i).mono ?_)
  ·rintro e w1 ⟨rfl, rfl⟩
   exact ⟨rfl, mn, tv, h.st, Only.refl _ _, .inl rfl⟩
  ·rintro e w2 ⟨rfl, H⟩
   rw [hE, if_neg (by omega)] at H
   exact ⟨by rw [hE], H.out⟩
theorem Duo.roll (h : Duo w B P p S q K pv s mc mn tv x rv rs r tr kr nv x lk ln) (hc : PlC w B P p S q K pv d rv rs d (.pointer (some ⟨s, 0, none⟩)) (.pointer (some ⟨r, 0, none⟩))) (hx : x.size = N / 4) (hf : Fd d N m) (hX : Off X P p S q K pv rv rs s mc mn r nv) :
  Two w B P p S q K N m X 23 24 #[.pointer (some ⟨s, 0, none⟩)] #[.pointer (some ⟨r, 0, none⟩)] := by
 refine h.two (c := 0) (x1 := { x with now := x.com }) hc hx hf hX ((rollback_ok h.st (h.old hc).2.2.1).mono ?_) (fun w1 mn1 tv1 _ g1 g2 => (rroll_any g1.rt (g1.old g2).2.2.2 (by have := g2.pB; have := g2.lt; omega)).mono ?_)
 ·rintro e w1 ⟨mn', rfl, H⟩
  obtain ⟨g1, g2, g3⟩ := H.out
  exact ⟨rfl, mn', tv, g1, g2.mono (fun _ _ g => .inl g), .inr g3⟩
 ·rintro e w2 ⟨rfl, H⟩
  exact ⟨rfl, H.out⟩
theorem Duo.put {u v : Value} {b : List Nat} (h : Duo w B P p S q K pv s mc mn tv x rv rs r tr kr nv x lk ln) (hc : PlC w B P p S q K pv d rv rs d (.pointer (some ⟨s, 0, none⟩)) (.pointer (some ⟨r, 0, none⟩))) (hx : x.size = N / 4) (hf : Fd d N m) (hX : Off X P p S q K pv rv rs s mc mn r nv) (i : Int) (hu : BytesAt w u b) (hv : ∀ w1, Only (fun k => k = s ∨ k = mn) w w1 → BytesAt w1 v b) :
  Two w B P p S q K N m X 12 26 #[.pointer (some ⟨s, 0, none⟩), .int .i64 i, u] #[.pointer (some ⟨r, 0, none⟩), .int .i64 i, v] := by
 have hBl : ∀ w1 : World, PlC w1 B P p S q K pv d rv rs d (.pointer (some ⟨s, 0, none⟩)) (.pointer (some ⟨r, 0, none⟩)) → B ≤ w1.heap.size := fun w1 g => by have := g.pB; have := g.lt; omega
 have same : ∀ w1 : World, Duo w1 B P p S q K pv s mc mn tv x rv rs r tr kr nv x lk ln → ∀ (e : Ending) (w2 : World), w2 = w1 → RsIs w1 (refE (eR P p S pv s mc mn) w1.heap.size q K rv rs) B r q nv x w2 := by
  rintro w1 g e w2 rfl
  exact ⟨tr, kr, nv, lk, ln, g.rt, Only.refl _ _, fun b g => .inl g⟩
 obtain ⟨au, cu, rfl, _⟩ := hu.form
 obtain ⟨av, cv, rfl, _⟩ := (hv w (Only.refl _ _)).form
 by_cases hi : 0 ≤ i ∧ i < 728
 ·have hb : ¬ badE i ≠ 0 := by simp [badE, hi]
  by_cases hl : b.length ≤ 116
  ·refine h.two (c := 0) (x1 := { x with now := putL x.now i (0, b) }) hc hx hf hX ((put_ok h.st (h.old hc).2.2.1 i hi _ b hu hl).mono ?_) (fun w1 mn1 tv1 ho g1 g2 => ?_)
   ·rintro e w1 ⟨rfl, g1, g2⟩
    exact ⟨rfl, mn, tv, g1, g2.mono (fun _ _ g => .inr g), .inl rfl⟩
   ·cases ha : isAt x.now i with
    | true =>
      refine (rput4_is g1.rt (g1.old g2).2.2.2 (hBl w1 g2) i hi _ b (hv w1 ho) hl ha).mono ?_
      rintro e w2 ⟨rfl, H⟩
      exact ⟨rfl, H.out⟩
    | false =>
      refine (rput4_not g1.rt (g1.old g2).2.2.2 (hBl w1 g2) i hi _ b (hv w1 ho) hl ha).mono ?_
      rintro e w2 ⟨rfl, H⟩
      exact ⟨rfl, H.out⟩
  ·have hE : rpE i b.length = 11 := by unfold rpE; rw [if_neg hb, if_pos (by omega)]
   refine h.two (c := 11) (x1 := x) hc hx hf hX ((put_large h.st i hi au b.length cu (by omega)).mono ?_) (fun w1 mn1 tv1 ho g1 g2 => (rput4_bad g1.rt i av b.length cv (by rw [hE]; omega)).mono ?_)
   ·rintro e w1 ⟨rfl, rfl⟩
    exact ⟨rfl, mn, tv, h.st, Only.refl _ _, .inl rfl⟩
   ·rintro e w2 ⟨rfl, rfl⟩
    exact ⟨by rw [hE], tr, kr, nv, lk, ln, g1.rt, Only.refl _ _, fun b g => .inl g⟩
 ·have hE : rpE i b.length = 4 := by unfold rpE; rw [if_pos (by simp [badE, hi])]
  refine h.two (c := 4) (x1 := x) hc hx hf hX ((put_out h.st i (by omega) _).mono ?_) (fun w1 mn1 tv1 ho g1 g2 => (rput4_bad g1.rt i av b.length cv (by rw [hE]; omega)).mono ?_)
  ·rintro e w1 ⟨rfl, rfl⟩
   exact ⟨rfl, mn, tv, h.st, Only.refl _ _, .inl rfl⟩
  ·rintro e w2 ⟨rfl, rfl⟩
   exact ⟨by rw [hE], tr, kr, nv, lk, ln, g1.rt, Only.refl _ _, fun b g => .inl g⟩
end
end Go.Proofs.YtlcglapcmdpkfaaGreat
