import Derived.Test.YtlcglapcmdpkfaaGreatBase
namespace Go.Proofs.YtlcglapcmdpkfaaGreat
open Go.RowKit
def secL (f : Nat → Int) : List Value := (List.range 32).map fun j => .int .u8 (f j)
def wrL (s : Int) (f g : Nat → Int) : List Value := .int .i64 s :: (secL f ++ secL g)
theorem secL_length (f : Nat → Int) : (secL f).length = 32 := by simp [secL]
theorem wrL_length (s : Int) (f g : Nat → Int) : (wrL s f g).length = 65 := by simp [wrL, secL_length]
theorem secL_one (f : Nat → Int) : ∀ v ∈ secL f, v.oneCell' = true := by
 intro v hv
 simp only [secL, List.mem_map] at hv
 obtain ⟨j, _, rfl⟩ := hv
 rfl
theorem wrL_one (s : Int) (f g : Nat → Int) : ∀ v ∈ wrL s f g, v.oneCell' = true := by
 intro v hv
 simp only [wrL, List.mem_cons, List.mem_append] at hv
 rcases hv with rfl | hv | hv
 ·rfl
 ·exact secL_one f v hv
 ·exact secL_one g v hv
theorem secL_get (f : Nat → Int) (j : Nat) (h : j < 32) : (secL f)[j]? = some (.int .u8 (f j)) := by simp [secL, h]
structure Wr where
 at_ : Nat
 bef : Nat → Int
 aft : Nat → Int
structure DS where
 n : Nat
 sec : Nat → Nat → Int
 pend : List Wr
 life : Int
def Wr.cells (x : Wr) : List Value := wrL x.at_ x.bef x.aft
def wrsL (l : List Wr) : List Value := l.flatMap Wr.cells
theorem wrsL_snoc (l : List Wr) (x : Wr) : wrsL (l ++ [x]) = wrsL l ++ x.cells := by simp [wrsL]
def upd (sec : Nat → Nat → Int) (k : Nat) (f : Nat → Int) : Nat → Nat → Int := fun i => if i = k then f else sec i
structure DiskAt (w : World) (B p S : Nat) (pv : Value) (d : DS) : Prop where
 pB : B ≤ p
 SB : B ≤ S
 pS : p ≠ S
 c0 : ∃ c, w.cell? ⟨p, 0, none⟩ = some (.slice (some ⟨S, 0, none⟩) d.n c)
 c1 : w.cell? ⟨p, 1, none⟩ = some pv
 c2 : w.cell? ⟨p, 2, none⟩ = some (.int .i64 d.life)
 f1 : w.frozen? ⟨p, 1, none⟩ = false
 f2 : w.frozen? ⟨p, 2, none⟩ = false
 secs : ∀ i, i < d.n → w.rangeAt S (i * 32) (secL (d.sec i)) ∧ w.there S (i * 32) 32
 own : w.ownsRow B 119 65 pv d.pend.length (wrsL d.pend)
 hp : pv.ownBlock ≠ some p
 hS : pv.ownBlock ≠ some S
 n1 : 1 ≤ d.n
 n2 : d.n ≤ 8192
 at_ : ∀ x ∈ d.pend, x.at_ < d.n
 l1 : -1 ≤ d.life
 l2 : d.life ≤ 9223372036854775807
def diskB (p S : Nat) (pv : Value) : Nat → Prop := fun k => k = p ∨ k = S ∨ pv.ownBlock = some k
theorem DiskAt.frame {w w' : World} {B p S : Nat} {pv : Value} {d : DS} {bs : Nat → Prop} (h : DiskAt w B p S pv d) (ho : Only bs w w') (hn : ∀ k, diskB p S pv k → ¬ bs k) : DiskAt w' B p S pv d := by
 obtain ⟨c, hc⟩ := h.c0
 have np := hn p (.inl rfl)
 have nS := hn S (.inr (.inl rfl))
 exact { pB := h.pB, SB := h.SB, pS := h.pS, c0 := ⟨c, ho.cell hc np⟩, c1 := ho.cell h.c1 np, c2 := ho.cell h.c2 np,
         f1 := (ho.frozen (World.block_lt_of_cell? w _ h.c1) np).trans h.f1, f2 := (ho.frozen (World.block_lt_of_cell? w _ h.c2) np).trans h.f2,
         secs := fun i hi => ⟨ho.range (h.secs i hi).1 nS, ho.there (h.secs i hi).2 nS⟩,
         own := ho.owns h.own (fun k hk => hn k (.inr (.inr hk))), hp := h.hp, hS := h.hS, n1 := h.n1, n2 := h.n2, at_ := h.at_, l1 := h.l1, l2 := h.l2 }
theorem DiskAt.lt {w : World} {B p S : Nat} {pv : Value} {d : DS} (h : DiskAt w B p S pv d) : ∀ k, diskB p S pv k → B ≤ k ∧ k < w.heap.size := by
 intro k hk
 rcases hk with rfl | rfl | hk
 ·exact ⟨h.pB, World.block_lt_of_cell? w _ h.c1⟩
 ·refine ⟨h.SB, ?_⟩
  have h0 := (h.secs 0 h.n1).1 0 _ (secL_get _ 0 (by omega))
  exact World.block_lt_of_cell? w _ h0
 ·exact h.own.lt k hk
end Go.Proofs.YtlcglapcmdpkfaaGreat
