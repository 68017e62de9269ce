import Derived.Test.YtlcglapcmdpkfaaGreatA7
namespace Go.Proofs.YtlcglapcmdpkfaaGreat
open Go.RowKit Go.Maps Go.Shelf
set_option linter.unusedSimpArgs false
set_option linter.unusedVariables false
theorem byF_byt {zs : List Nat} (h : ∀ z ∈ zs, z < 256) : Byt (byF zs) := by
 intro j
 unfold byF
 simp only [List.getD]
 cases e : zs[j]? with
 | none => simp
 | some z =>
   have := h z (List.mem_of_getElem? e)
   simp
   omega
structure PairAt (w : World) (B0 s p S : Nat) (x : SS) (d : DS) : Prop where
 all : ∃ pv mc mn tv B, DiskAt w B p S pv d ∧ B ≤ w.heap.size ∧ StAt w (diskB p S pv) s p mc mn tv x ∧ ∀ k, mutB (diskB p S pv) s mc mn k → B0 ≤ k
 byte : ByteD d
 good : Good d
 pend : d.pend = []
 life : d.life = -1
 size : d.n / 4 = x.size
theorem PairAt.still {w w' : World} {B0 s p S : Nat} {x : SS} {d : DS} (h : PairAt w B0 s p S x d) (ho : Only (fun _ => False) w w') : PairAt w' B0 s p S x d := by
 obtain ⟨pv, mc, mn, tv, B, h1, h2, h3, h4⟩ := h.all
 exact { h with all := ⟨pv, mc, mn, tv, B, h1.frame ho (fun _ _ e => e), Nat.le_trans h2 ho.size, h3.still ho, h4⟩ }
theorem PairAt.bytes {w : World} {B0 s p S : Nat} {x : SS} {d : DS} (h : PairAt w B0 s p S x d) : ∀ q ∈ x.now, ∀ z ∈ q.2.2, z < 256 := by
 obtain ⟨pv, mc, mn, tv, B, h1, h2, h3, h4⟩ := h.all
 obtain ⟨sl, _, hb⟩ := h3.now
 exact fun q hq => (hb q hq).1.2.2
def Left (w : World) (B0 s p S : Nat) (x' : SS) (d' : DS) (w' : World) : Prop := PairAt w' B0 s p S x' d' ∧ Only (fun k => B0 ≤ k) w w'
section
variable {w : World} {B0 s p S : Nat} {x : SS} {d : DS}
theorem Left.still (h : PairAt w B0 s p S x d) {w' : World} (ho : Only (fun _ => False) w w') : Left w B0 s p S x d w' := ⟨h.still ho, ho.mono (fun _ _ e => e.elim)⟩
end
end Go.Proofs.YtlcglapcmdpkfaaGreat
