import Derived.Test.YtlcglapcmdpkfaaGreatG28
namespace Go.Proofs.YtlcglapcmdpkfaaGreat
open Go.RowKit Go.Maps
set_option linter.unusedSimpArgs false
set_option linter.unusedVariables false
def setP (w : World) (P : Nat) (sv rp : Value) : World := (w.setCell ⟨P, 2, none⟩ sv).setCell ⟨P, 3, none⟩ rp
section
variable {w w1 : World} {B P p S q K s mc mn r : Nat} {pv tv rv tr kr nv sv rp sv1 rp1 : Value} {x y : SS} {rs : List RW} {lk ln : List RPg} {d e : DS}
theorem setP_only (w : World) (P : Nat) (sv rp : Value) : Only (fun k => k = P) w (setP w P sv rp) := by
 have o1 : Only (fun k => k = P) w (w.setCell ⟨P, 2, none⟩ sv) := (Only.refl _ w).setCell _ _ (fun _ => rfl)
 have o2 : Only (fun k => k = P) (w.setCell ⟨P, 2, none⟩ sv) (setP w P sv rp) := (Only.refl _ _).setCell _ _ (fun _ => rfl)
 exact o1.trans o2 (fun _ _ e => e)
theorem PlC.set (h : PlC w B P p S q K pv d rv rs e sv rp) : PlC (setP w P sv1 rp1) B P p S q K pv d rv rs e sv1 rp1 := by
 have o := setP_only w P sv1 rp1
 have p1 := range_set h.pc (j := 2) (by simp) sv1
 have t1 := there_set h.pt (h.pc 2 _ rfl) sv1
 have p2 := range_set p1 (j := 3) (by simp) rp1
 have t2 := there_set t1 (p1 3 _ rfl) rp1
 exact
  { pc := p2, pt := t2, pB := h.pB
    dk := h.dk.frame o (fun b g g' => h.a1 (g' ▸ g))
    rf := h.rf.frame o (fun b g g' => h.a2 (g' ▸ g))
    ap := h.ap, a1 := h.a1, a2 := h.a2 }
theorem PlC.fz (h : PlC w B P p S q K pv d rv rs e sv rp) (j : Nat) (hj : j < 4) : w.frozen? ⟨P, j, none⟩ = false := by
 have := (h.pt j hj).2
 rwa [Nat.zero_add] at this
set_option maxRecDepth 100000 in
set_option maxHeartbeats 1000000 in
theorem set_none (P : Nat) (e : Int) (he : e ≠ 0) (w : World) (v2 v3 : Value) (c2 : w.cell? ⟨P, 2, none⟩ = some v2) (c3 : w.cell? ⟨P, 3, none⟩ = some v3) (f2 : w.frozen? ⟨P, 2, none⟩ = false) (f3 : w.frozen? ⟨P, 3, none⟩ = false) :
  Calls Tryz.prog 44 #[.pointer (some ⟨P, 0, none⟩), .pointer none, .int .i64 e, .pointer none, .int .i64 e] w fun e w' => e = .returned (.bool true) ∧ w' = setP w P (.pointer none) (.pointer none) := by
 have he' : (e != 0) = true := by simpa using he
 go_enter Tryz.func44, Tryz.ntmps44
 go_wp2
 go_ret
 exact ⟨rfl, rfl⟩
set_option maxRecDepth 100000 in
set_option maxHeartbeats 1000000 in
theorem set_some (P s r : Nat) (w : World) (v2 v3 : Value) (c2 : w.cell? ⟨P, 2, none⟩ = some v2) (c3 : w.cell? ⟨P, 3, none⟩ = some v3) (f2 : w.frozen? ⟨P, 2, none⟩ = false) (f3 : w.frozen? ⟨P, 3, none⟩ = false) :
  Calls Tryz.prog 44 #[.pointer (some ⟨P, 0, none⟩), .pointer (some ⟨s, 0, none⟩), .int .i64 0, .pointer (some ⟨r, 0, none⟩), .int .i64 0] w fun e w' => e = .returned (.bool true) ∧ w' = setP w P (.pointer (some ⟨s, 0, none⟩)) (.pointer (some ⟨r, 0, none⟩)) := by
 go_enter Tryz.func44, Tryz.ntmps44
 go_wp2
 go_ret
 exact ⟨rfl, rfl⟩
end
end Go.Proofs.YtlcglapcmdpkfaaGreat
