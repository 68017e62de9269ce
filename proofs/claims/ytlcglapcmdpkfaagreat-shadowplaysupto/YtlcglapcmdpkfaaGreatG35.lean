import Derived.Test.YtlcglapcmdpkfaaGreatG34
namespace Go.Proofs.YtlcglapcmdpkfaaGreat
open Go.RowKit Go.Maps
set_option linter.unusedSimpArgs false
set_option linter.unusedVariables false
def GetTwo (w : World) (B P p S q K n m X s r : Nat) (i : Int) : Prop := ∃ y : Int, Calls Tryz.prog 13 #[.pointer (some ⟨s, 0, none⟩), .int .i64 i] w fun e w1 => ∃ u, e = .returned (.tuple #[u, .int .i64 y]) ∧ Hid (KeepC P X w w1) ∧
 Hid (∀ w1', Only (fun _ => False) w1 w1' → Calls Tryz.prog 17 #[.pointer (some ⟨r, 0, none⟩), .int .i64 i] w1' fun e w2 => ∃ v, e = .returned (.tuple #[v, .int .i64 y]) ∧ Hid (KeepC P X w w2) ∧ Hid (Calls Tryz.prog 10 #[u, v] w2 fun e w3 => e = .returned (.bool true) ∧ Hid (PlOk w3 B P p S q K n m ∧ Only (fun k => B ≤ k) w w3)))
section
variable {w w1 w2 W : World} {B P p S q K X N m s mc mn mn1 r : Nat} {pv pv' rv rv' sv rp tv tv1 tr kr nv : Value} {rs rs' : List RW} {d e : DS} {x x1 y y1 : SS} {lk ln : List RPg}
theorem get_two (hok : PlOk w B P p S q K N m) {y : Int} {D : List Nat} {i : Int} (h1 : Calls Tryz.prog 13 #[.pointer (some ⟨s, 0, none⟩), .int .i64 i] w fun e w1 => ∃ u, e = .returned (.tuple #[u, .int .i64 y]) ∧ Hid (BytesAt w1 u D ∧ Only (fun _ => False) w w1))
  (h2 : ∀ w1, Only (fun _ => False) w w1 → Calls Tryz.prog 17 #[.pointer (some ⟨r, 0, none⟩), .int .i64 i] w1 fun e w2 => ∃ v, e = .returned (.tuple #[v, .int .i64 y]) ∧ Hid (BytesAt w2 v D ∧ Only (fun _ => False) w1 w2)) : GetTwo w B P p S q K N m X s r i := by
 refine ⟨y, h1.mono ?_⟩
 rintro e w1 ⟨u, rfl, H1⟩
 obtain ⟨g1, o1⟩ := H1.out
 refine ⟨u, rfl, KeepC.of o1 (fun g => g) (fun g => g), fun w1' o1' => (h2 w1' (o1.trans o1' (fun _ _ g => g))).mono ?_⟩
 rintro e w2 ⟨v, rfl, H2⟩
 obtain ⟨g2, o2⟩ := H2.out
 have o12 : Only (fun _ => False) w1 w2 := o1'.trans o2 (fun _ _ g => g)
 have o02 : Only (fun _ => False) w w2 := o1.trans o12 (fun _ _ g => g)
 refine ⟨v, rfl, KeepC.of o02 (fun g => g) (fun g => g), (same_any u v D w2 (g1.frame o12) g2).mono ?_⟩
 rintro e w3 ⟨rfl, o3⟩
 have o03 : Only (fun _ => False) w w3 := o02.trans o3 (fun _ _ g => g)
 exact ⟨rfl, hok.still o03, o03.mono (fun _ _ g => g.elim)⟩
structure OpsOk (w : World) (B P p S q K N m X s r : Nat) : Prop where
 drop : ∀ W, Only (fun _ => False) w W → ∀ i, Two W B P p S q K N m X 18 19 #[.pointer (some ⟨s, 0, none⟩), .int .i64 i] #[.pointer (some ⟨r, 0, none⟩), .int .i64 i]
 roll : ∀ W, Only (fun _ => False) w W → Two W B P p S q K N m X 23 24 #[.pointer (some ⟨s, 0, none⟩)] #[.pointer (some ⟨r, 0, none⟩)]
 commit : ∀ W, Only (fun _ => False) w W → Two W B P p S q K N m X 20 21 #[.pointer (some ⟨s, 0, none⟩)] #[.pointer (some ⟨r, 0, none⟩)]
 put : ∀ W, Only (fun _ => False) w W → ∀ i u v b, BytesAt W u b → (∀ w1, Only (fun k => B ≤ k) W w1 → BytesAt w1 v b) → Two W B P p S q K N m X 12 26 #[.pointer (some ⟨s, 0, none⟩), .int .i64 i, u] #[.pointer (some ⟨r, 0, none⟩), .int .i64 i, v]
 get : ∀ W, Only (fun _ => False) w W → ∀ i, GetTwo W B P p S q K N m X s r i
theorem PlC.ops (hc : PlC w B P p S q K pv d rv rs d sv rp) (hk : StK w B P p S q K pv rv rs N sv rp) (hf : Fd d N m) (hm : m ≤ 8589934592) (hX : w.heap.size ≤ X) :
  (sv = .pointer none ∧ rp = .pointer none) ∨ ∃ s r, sv = .pointer (some ⟨s, 0, none⟩) ∧ rp = .pointer (some ⟨r, 0, none⟩) ∧ OpsOk w B P p S q K N (m + 4000) X s r := by
 rcases hk with hk | ⟨s, r, rfl, rfl, h1, h2, h3, h4⟩ | ⟨s, r, mc, mn, tv, tr, kr, nv, x, lk, ln, rfl, rfl, e3, h⟩
 ·exact .inl hk
 ·refine .inr ⟨s, r, rfl, rfl, ?_⟩
  have hok : ∀ W, Only (fun _ => False) w W → PlOk W B P p S q K N (m + 4000) := fun W ho => by
   refine PlOk.still ⟨pv, d, rv, rs, _, _, hc, .inr (.inl ⟨s, r, rfl, rfl, h1, h2, h3, h4⟩), hf.mono (by omega)⟩ ho
  have c1 : ∀ W, Only (fun _ => False) w W → W.cell? ⟨s, 0, none⟩ = some (.pointer none) := fun W ho => ho.cell h1 (fun g => g)
  have c2 : ∀ W, Only (fun _ => False) w W → W.cell? ⟨r, 6, none⟩ = some (.bool true) := fun W ho => ho.cell h2.1 (fun g => g)
  exact
   { drop := fun W ho i => dead_two (hok W ho) (drop_dead s i W (c1 W ho)) (rdrop_dead r i W (c2 W ho))
     roll := fun W ho => dead_two (hok W ho) (roll_dead s W (c1 W ho)) (rroll_dead r W (c2 W ho))
     commit := fun W ho => dead_two (hok W ho) (commit_dead s W (c1 W ho)) (rCommit_dead r W (c2 W ho))
     put := fun W ho i u v b _ _ => dead_two (hok W ho) (put_dead s i u W (c1 W ho)) (rput4_dead r i v W (c2 W ho))
     get := fun W ho i => get_two (hok W ho) (y := 3) (D := []) ((get_dead s i W (c1 W ho)).mono (by
         rintro e w1 ⟨rfl, rfl⟩
         exact ⟨_, rfl, BytesAt.none _ _ (fun _ => rfl), Only.refl _ _⟩))
      (fun w1 ho1 => (rget_dead r i w1 (c2 w1 (ho.trans ho1 (fun _ _ g => g)))).mono (by
       rintro e w2 ⟨rfl, rfl⟩
       exact ⟨_, rfl, BytesAt.none _ _ (fun _ => rfl), Only.refl _ _⟩)) }
 ·refine .inr ⟨s, r, rfl, rfl, ?_⟩
  have hO : Off X P p S q K pv rv rs s mc mn r nv := ⟨fun g => by have := (h.old hc).1 X g; omega, fun g => by have := (h.old hc).2.1 X g; omega⟩
  have hf4 := hf.mono (show m ≤ m + 4000 by omega)
  have hok : ∀ W, Only (fun _ => False) w W → PlOk W B P p S q K N (m + 4000) := fun W ho => by
   refine PlOk.still ⟨pv, d, rv, rs, _, _, hc, .inr (.inr ⟨s, r, mc, mn, tv, tr, kr, nv, x, lk, ln, rfl, rfl, e3, h⟩), hf4⟩ ho
  exact
   { drop := fun W ho i => (h.still ho).drop (hc.still ho) e3 hf4 hO i
     roll := fun W ho => (h.still ho).roll (hc.still ho) e3 hf4 hO
     commit := fun W ho => (h.still ho).commit (hc.still ho) e3 hf hO hm
     put := fun W ho i u v b hu hv => (h.still ho).put (hc.still ho) e3 hf4 hO i hu (fun w1 ho1 => hv w1 (ho1.mono (fun k _ g => by
      rcases g with g | g
      ·have := h.sB; omega
      ·have := h.nB; omega)))
     get := fun W ho i => by
      have hE : rgE x i = gErr x i := by
       unfold rgE gErr badE
       by_cases hi : 0 ≤ i ∧ i < 728
       ·rw [if_pos hi, if_pos hi, ← isAt_pg h.rt.nowR]
        simp
       ·rw [if_neg hi, if_neg hi]
        simp
      refine get_two (hok W ho) (y := gErr x i) (D := gDat x i) ((get_all (h.still ho).st i).mono ?_) (fun w1 ho1 => (rget_any ((h.still ho).still ho1).rt i).mono ?_)
      ·rintro e w1 ⟨u, rfl, H⟩
       exact ⟨u, rfl, H.out.1.bytes, H.out.2⟩
      ·rintro e w2 ⟨v, b, rfl, H⟩
       obtain ⟨g1, g2, g3, g4⟩ := H.out
       rw [hE] at g3 g4 ⊢
       have hb : b = gDat x i := by
        by_cases h0 : gErr x i = 0
        ·have g := g3 h0
         unfold gErr at h0
         unfold gDat pgAt
         by_cases hi : 0 ≤ i ∧ i < 728
         ·rw [if_pos hi] at h0 ⊢
          rw [get_fi h.rt.nowR]
          have hs : isAt x.now i = true := by
           rw [← isAt_pg h.rt.nowR]
           by_cases hz : (pgAt x.now i).isSome = true
           ·exact hz
           ·rw [if_neg hz] at h0; omega
          rw [if_pos hs]
          cases hg : x.now[fi x.now i]? with
          | none => rw [hg] at g; cases g
          | some z =>
            rw [hg] at g
            simp only [Option.map_some, Option.some.injEq] at g
            simp [g]
         ·rw [if_neg hi] at h0; omega
        ·have g := g4 h0
         unfold gErr at h0
         unfold gDat
         by_cases hi : 0 ≤ i ∧ i < 728
         ·rw [if_pos hi] at h0 ⊢
          by_cases hz : (pgAt x.now i).isSome = true
          ·rw [if_pos hz] at h0; omega
          ·have : pgAt x.now i = none := by simpa using hz
           rw [this, g]
           rfl
         ·rw [if_neg hi, g]
       rw [← hb]
       exact ⟨v, rfl, g1, g2⟩ }
end
end Go.Proofs.YtlcglapcmdpkfaaGreat
