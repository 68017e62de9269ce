import Derived.Test.YtlcglapcmdpkfaaGreatIn4
namespace Go.Proofs.YtlcglapcmdpkfaaGreat
open Go.RowKit Go.Maps Go.Shelf
set_option linter.unusedSimpArgs false
set_option linter.unusedVariables false
structure Stable (J : SS → DS → Prop) : Prop where
 put : ∀ {w B0 s p S x d}, PairAt w B0 s p S x d → ∀ (i : Int) (zs : List Nat), 0 ≤ i ∧ i < 728 → zs.length ≤ 116 → J x d → J { x with now := putL x.now i (0, zs) } d
 drop : ∀ {w B0 s p S x d}, PairAt w B0 s p S x d → ∀ (i : Int), J x d → J { x with now := delL x.now i } d
 roll : ∀ {w B0 s p S x d}, PairAt w B0 s p S x d → J x d → J { x with now := x.com } d
 next : ∀ {w B0 s p S x d}, PairAt w B0 s p S x d → needN x ≤ freeN x x.size → J x d → J x.next (cmX x d).2
def WkI (J : SS → DS → Prop) (w : World) (B0 s p S n : Nat) (W : World) : Prop := ∃ x d, PairAt W B0 s p S x d ∧ J x d ∧ d.n = n ∧ Only (fun k => B0 ≤ k) w W
theorem WkI.step {J : SS → DS → Prop} {w : World} {B0 s p S n : Nat} {W W' : World} {x' : SS} {d' : DS} (ho : Only (fun k => B0 ≤ k) w W) (h : Left W B0 s p S x' d' W') (hj : J x' d') (hn : d'.n = n) : WkI J w B0 s p S n W' := ⟨x', d', h.1, hj, hn, ho.trans h.2 (fun _ _ e => e)⟩
end Go.Proofs.YtlcglapcmdpkfaaGreat
