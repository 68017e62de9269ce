import Derived.Test.YtlcglapcmdpkfaaGreatG21
import Derived.Test.YtlcglapcmdpkfaaGreatA3
namespace Go.Proofs.YtlcglapcmdpkfaaGreat
open Go.RowKit Go.Maps
set_option linter.unusedSimpArgs false
set_option linter.unusedVariables false
def ldL (q r E : Nat) (tv kv : Value) : List Value := [.pointer (some ⟨q, 0, none⟩), .int .i64 (r : Nat), .int .u64 (E : Nat), tv, kv, .slice none 0 0, .bool false]
structure LtM (w wr : World) (q R N r E : Nat) (f : Nat → Bool) (at_ tab : List Nat) (tv tav : Value) : Prop where
 on : Only (fun _ => False) w wr
 wR : w.heap.size ≤ R
 sz : R + 2 ≤ wr.heap.size
 bx : wr.rangeAt R 0 (ldL q r E tv (.slice none 0 0))
 bt : wr.there R 0 7
 fl : FBlk wr (R + 1) N f
 tb : FreshI wr (R + 2) tv at_
 ta : Fresh wr (R + 2) tav tab
 ne : ∀ b, tv.ownBlock = some b → tav.ownBlock ≠ some b
section
variable {w wr wr' : World} {q R N r E : Nat} {f f' : Nat → Bool} {at_ tab : List Nat} {tv tav : Value}
theorem LtM.still (h : LtM w wr q R N r E f at_ tab tv tav) (ho : Only (fun _ => False) wr wr') : LtM w wr' q R N r E f at_ tab tv tav :=
 { on := h.on.trans ho (fun _ _ e => e), wR := h.wR, sz := Nat.le_trans h.sz ho.size, bx := ho.range h.bx (fun e => e), bt := ho.there h.bt (fun e => e)
   fl := h.fl.frame ho (fun e => e), tb := h.tb.frame ho, ta := ⟨ho.owns h.ta.1 (fun _ _ e => e), h.ta.2⟩, ne := h.ne }
theorem LtM.took (h : LtM w wr q R N r E f at_ tab tv tav) (ho : Only (fun b => b = R + 1) wr wr') (hf : FBlk wr' (R + 1) N f') : LtM w wr' q R N r E f' at_ tab tv tav :=
 { on := h.on.trans ho (fun k hk e => by have := h.wR; omega), wR := h.wR, sz := Nat.le_trans h.sz ho.size, bx := ho.range h.bx (fun e => by omega), bt := ho.there h.bt (fun e => by omega)
   fl := hf, tb := ⟨ho.owns h.tb.1 (fun b e e' => by have := (h.tb.1.lt b e).1; omega), h.tb.2⟩, ta := ⟨ho.owns h.ta.1 (fun b e e' => by have := (h.ta.1.lt b e).1; omega), h.ta.2⟩, ne := h.ne }
theorem LtM.table (h : LtM w wr q R N r E f at_ tab tv tav) (nx : Nat) (hl : at_.length + 1 ≤ 1048576) :
  ∃ a cap w3, (∀ ty, (Builtin.append_ #[76, 76] ty #[tv, .slice (some ⟨wr.heap.size, 0, none⟩) 1 1]).run Tryz.prog (wr.alloc (.cells #[.int .i64 (nx : Int)] 3)) = .ok (.slice a (at_.length + 1) cap) w3) ∧
    (∀ j v, j < 7 → (ldL q r E tv (.slice none 0 0))[j]? = some v → w3.cell? ⟨R, j, none⟩ = some v ∧ w3.frozen? ⟨R, j, none⟩ = false) ∧
    Only (fun i => tv.ownBlock = some i ∨ i = R) wr (w3.setCell ⟨R, 3, none⟩ (.slice a (at_.length + 1) cap)) ∧
    LtM w (w3.setCell ⟨R, 3, none⟩ (.slice a (at_.length + 1) cap)) q R N r E f (at_ ++ [nx]) tab (.slice a (at_.length + 1) cap) tav := by
 obtain ⟨a, cap, w3, hr, hf3, ho3, hbk⟩ := app_int2 h.tb h.sz nx hl
 have nR : ¬ tv.ownBlock = some R := fun e => by have := (h.tb.1.lt R e).1; omega
 have b3 := ho3.range h.bx nR
 have t3 := ho3.there h.bt nR
 have s3 := ho3.size
 have os : Only (fun b => b = R) w3 (w3.setCell ⟨R, 3, none⟩ (.slice a (at_.length + 1) cap)) := (Only.refl _ w3).setCell ⟨R, 3, none⟩ _ (fun _ => rfl)
 have on3 : Only (fun _ => False) w w3 := h.on.trans ho3 (fun k hk e => by have := (h.tb.1.lt k e).1; have := h.wR; omega)
 refine ⟨a, cap, w3, hr, fun j v hj hv => ?_, (ho3.mono (fun _ _ e => .inl e)).trans (os.mono (fun _ _ e => .inr e)) (fun _ _ e => e), ?_⟩
 ·have h1 := b3 j v hv
  rw [Nat.zero_add] at h1
  have h2 := (t3 j hj).2
  rw [Nat.zero_add] at h2
  exact ⟨h1, h2⟩
 ·exact
   { on := on3.trans os (fun k hk e => by have := h.wR; omega), wR := h.wR, sz := by have := os.size; have := h.sz; omega
     bx := range_set b3 (j := 3) (by simp [ldL]) _
     bt := there_set t3 (b3 3 _ rfl) _
     fl := (h.fl.frame ho3 (fun e => by have := (h.tb.1.lt _ e).1; omega)).frame os (fun e => by omega)
     tb := ⟨os.owns hf3.1 (fun b e e' => by have := (hf3.1.lt b e).1; omega), hf3.2⟩
     ta := ⟨os.owns (ho3.owns h.ta.1 (fun b e e' => h.ne b e' e)) (fun b e e' => by have := (h.ta.1.lt b e).1; omega), h.ta.2⟩
     ne := fun b e e' => by
      rcases hbk b e with e2 | e2
      ·exact h.ne b e2 e'
      ·have := (h.ta.1.lt b e').2; omega }
theorem LtM.more (h : LtM w wr q R N r E f at_ tab tv tav) {u : Value} {ys : List Nat} (hu : BytesAt wr u ys) (hl : tab.length + ys.length ≤ 140737488355328) :
  ∃ a cap w3, (∀ ty, (Builtin.append_ #[37, 37] ty #[tav, u]).run Tryz.prog wr = .ok (.slice a (tab.length + ys.length) cap) w3) ∧ Only (fun i => tav.ownBlock = some i) wr w3 ∧
    LtM w w3 q R N r E f at_ (tab ++ ys) tv (.slice a (tab.length + ys.length) cap) := by
 obtain ⟨a, cap, w3, hr, hf3, ho3, hbk⟩ := app_fresh2 h.ta hu h.sz hl
 have nR : ¬ tav.ownBlock = some R := fun e => by have := (h.ta.1.lt R e).1; omega
 have nF : ¬ tav.ownBlock = some (R + 1) := fun e => by have := (h.ta.1.lt _ e).1; omega
 exact ⟨a, cap, w3, hr, ho3,
  { on := h.on.trans ho3 (fun k hk e => by have := (h.ta.1.lt k e).1; have := h.wR; omega), wR := h.wR, sz := Nat.le_trans h.sz ho3.size
    bx := ho3.range h.bx nR, bt := ho3.there h.bt nR, fl := h.fl.frame ho3 nF
    tb := ⟨ho3.owns h.tb.1 (fun b e e' => h.ne b e e'), h.tb.2⟩, ta := hf3
    ne := fun b e e' => by
     rcases hbk b e' with e2 | e2
     ·exact h.ne b e e2
     ·have := (h.tb.1.lt b e).2; omega }⟩
end
end Go.Proofs.YtlcglapcmdpkfaaGreat
