import Derived.Test.YtlcglapcmdpkfaaGreatGd
import Derived.Test.YtlcglapcmdpkfaaGreatWhole
namespace Go.Proofs.YtlcglapcmdpkfaaGreat
open Go.RowKit
set_option linter.unusedSimpArgs false
set_option linter.unusedVariables false
structure RW where
 x : Wr
 g : Nat
 c : Nat
def RW.cells (y : RW) : List Value := [.int .i64 y.x.at_, .slice (some ⟨y.g, 0, none⟩) 32 y.c]
def refL (l : List RW) : List Value := l.flatMap RW.cells
theorem refL_snoc (l : List RW) (x : RW) : refL (l ++ [x]) = refL l ++ x.cells := by simp [refL]
theorem refL_get : ∀ (ws : List RW) (j : Nat) (h : j < ws.length) (q : Nat), q < 2 → (refL ws)[j * 2 + q]? = (ws[j]).cells[q]?
 | x :: r, 0, h, q, hq => by
   simp only [refL, List.flatMap_cons, Nat.zero_mul, Nat.zero_add, List.getElem_cons_zero]
   rw [List.getElem?_append_left (by simp [RW.cells]; exact hq)]
 | x :: r, j + 1, h, q, hq => by
   simp only [List.length_cons] at h
   have ih := refL_get r j (by omega) q hq
   simp only [refL, List.flatMap_cons, List.getElem_cons_succ] at *
   rw [List.getElem?_append_right (by simp [RW.cells]; omega), ← ih]
   congr 1
   simp [RW.cells]; omega
structure RefAt (w : World) (B r K : Nat) (pv : Value) (d : DS) (rs : List RW) : Prop where
 rB : B ≤ r
 KB : B ≤ K
 rK : r ≠ K
 c0 : w.cell? ⟨r, 0, none⟩ = some (.int .i64 d.n)
 c1 : w.cell? ⟨r, 1, none⟩ = some (.slice (some ⟨K, 0, none⟩) (d.n * 32) (d.n * 32))
 c2 : w.cell? ⟨r, 2, none⟩ = some pv
 c3 : w.cell? ⟨r, 3, none⟩ = some (.int .i64 d.life)
 f2 : w.frozen? ⟨r, 2, none⟩ = false
 f3 : w.frozen? ⟨r, 3, none⟩ = false
 kept : w.rangeAt K 0 (allL d.n (undoW d.pend d.sec))
 kth : w.there K 0 (d.n * 32)
 own : w.ownsRow B 69 2 pv rs.length (refL rs)
 hr : pv.ownBlock ≠ some r
 hK : pv.ownBlock ≠ some K
 tie : rs.map RW.x = d.pend
 at_ : ∀ x ∈ rs, B ≤ x.g ∧ w.rangeAt x.g 0 (secL x.x.aft) ∧ x.g ≠ r ∧ x.g ≠ K ∧ pv.ownBlock ≠ some x.g
 bd : ∀ x ∈ d.pend, x.at_ < d.n
 n1 : 1 ≤ d.n
 n2 : d.n ≤ 8192
 l1 : -1 ≤ d.life
 l2 : d.life ≤ 9223372036854775807
def refB (r K : Nat) (pv : Value) (rs : List RW) : Nat → Prop := fun k => k = r ∨ k = K ∨ pv.ownBlock = some k ∨ ∃ x ∈ rs, k = x.g
theorem RefAt.frame {w w' : World} {B r K : Nat} {pv : Value} {d : DS} {rs : List RW} {bs : Nat → Prop} (h : RefAt w B r K pv d rs) (ho : Only bs w w') (hn : ∀ k, refB r K pv rs k → ¬ bs k) : RefAt w' B r K pv d rs := by
 have nr := hn r (.inl rfl)
 have nK := hn K (.inr (.inl rfl))
 exact { rB := h.rB, KB := h.KB, rK := h.rK, c0 := ho.cell h.c0 nr, c1 := ho.cell h.c1 nr, c2 := ho.cell h.c2 nr, c3 := ho.cell h.c3 nr,
         f2 := (ho.frozen (World.block_lt_of_cell? w _ h.c2) nr).trans h.f2, f3 := (ho.frozen (World.block_lt_of_cell? w _ h.c3) nr).trans h.f3,
         kept := ho.range h.kept nK, kth := ho.there h.kth nK, own := ho.owns h.own (fun k hk => hn k (.inr (.inr (.inl hk)))), hr := h.hr, hK := h.hK, tie := h.tie,
         at_ := fun x hx => by obtain ⟨h1, h2, h3⟩ := h.at_ x hx; exact ⟨h1, ho.range h2 (hn _ (.inr (.inr (.inr ⟨x, hx, rfl⟩)))), h3⟩,
         bd := h.bd, n1 := h.n1, n2 := h.n2, l1 := h.l1, l2 := h.l2 }
theorem RefAt.lt {w : World} {B r K : Nat} {pv : Value} {d : DS} {rs : List RW} (h : RefAt w B r K pv d rs) : ∀ k, refB r K pv rs k → B ≤ k ∧ k < w.heap.size := by
 rintro k (rfl | rfl | hk | ⟨x, hx, rfl⟩)
 ·exact ⟨h.rB, World.block_lt_of_cell? w _ h.c0⟩
 ·exact ⟨h.KB, range_lt h.n1 h.kept⟩
 ·exact h.own.lt k hk
 ·obtain ⟨h1, h2, _⟩ := h.at_ x hx
  exact ⟨h1, World.block_lt_of_cell? w _ (h2 0 _ (secL_get _ 0 (by omega)))⟩
theorem RefAt.len {w : World} {B r K : Nat} {pv : Value} {d : DS} {rs : List RW} (h : RefAt w B r K pv d rs) : rs.length = d.pend.length := by
 rw [← h.tie]; simp
theorem RefAt.form {w : World} {B r K : Nat} {pv : Value} {d : DS} {rs : List RW} (h : RefAt w B r K pv d rs) : ∃ a c, pv = .slice a rs.length c := by
 rcases h.own.2 with ⟨e, e0⟩ | ⟨g, cap, cur, e, _⟩
 ·exact ⟨none, 0, by rw [e, e0]⟩
 ·exact ⟨_, _, e⟩
theorem RefAt.get {w : World} {B r K : Nat} {a : Option Addr} {m c : Nat} {d : DS} {rs : List RW} (h : RefAt w B r K (.slice a m c) d rs) (i : Nat) (hi : i < rs.length) :
  ∃ g, a = some ⟨g, 0, none⟩ ∧ w.cell? ⟨g, i * 2, none⟩ = some (.int .i64 (rs[i]).x.at_) ∧ w.cell? ⟨g, i * 2 + 1, none⟩ = some (.slice (some ⟨(rs[i]).g, 0, none⟩) 32 (rs[i]).c) ∧ g ≠ r ∧ g ≠ K := by
 obtain ⟨g, cap, hv, _⟩ := h.own.form (by omega)
 simp only [Value.slice.injEq] at hv
 obtain ⟨rfl, rfl, rfl⟩ := hv
 have o := h.own
 refine ⟨g, rfl, ?_, ?_, fun e => h.hr (by rw [e]; rfl), fun e => h.hK (by rw [e]; rfl)⟩
 ·rw [o.cellAt (i * 2) (by omega)]
  exact refL_get rs i hi 0 (by omega)
 ·rw [o.cellAt (i * 2 + 1) (by omega)]
  exact refL_get rs i hi 1 (by omega)
end Go.Proofs.YtlcglapcmdpkfaaGreat
