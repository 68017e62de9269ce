import Derived.Test.YtlcglapcmdpkfaaGreatA8
import Derived.ProofKit
import Derived.SizedLaws
import Derived.Deep.Slices
import Derived.Deep.Grids
namespace Go.Proofs.YtlcglapcmdpkfaaGreat
open Go.RowKit Go.ChangeShapes Go.WideShapes
set_option linter.unusedVariables false
structure OpS where
 kind : Int
 i : Int
 n : Int
 cut : Int
 b : List Nat
 vb : Value
 vk : Value
def OpS.cells (o : OpS) : List Value := [.int .i64 o.kind, .int .i64 o.i, .int .i64 o.n, .int .i64 o.cut, o.vb, o.vk]
def OpS.ok (W : World) (o : OpS) : Prop := BytesAt W o.vb o.b ∧ ∃ a n c, o.vk = .slice a n c
theorem OpS.ok.frame {W W' : World} {o : OpS} (h : o.ok W) (ho : Only (fun _ => False) W W') : o.ok W' := ⟨h.1.frame ho, h.2⟩
def ScriptAt (W : World) (v : Value) (os : List OpS) : Prop :=
 ((v = .slice none 0 0 ∧ os = []) ∨ ∃ ad c, v = .slice (some ad) os.length c ∧ os.length ≤ c ∧ ∀ i (h : i < os.length) j v, (os[i]).cells[j]? = some v → W.cell? (ad.add (i * 6 + j)) = some v) ∧ os.length ≤ 140737488351232 ∧ ∀ o ∈ os, o.ok W
theorem ScriptAt.get {W : World} {v : Value} {os : List OpS} (h : ScriptAt W v os) (i : Nat) (hi : i < os.length) : ∃ g o c, v = .slice (some ⟨g, o, none⟩) os.length c ∧ W.rangeAt g (o + i * 6) (os[i]).cells ∧ os.length ≤ c := by
 rcases h.1 with ⟨_, h0⟩ | ⟨ad, c, hv, hc⟩
 ·subst h0; simp at hi
 ·obtain ⟨hcap, hc⟩ := hc
  have h0 := hc i hi 0 _ rfl
  have hsp := World.cell?_spot h0
  obtain ⟨g, o, spot⟩ := ad
  have hs : spot = none := by
   by_cases e : i * 6 + 0 = 0
   ·simpa [Addr.add, e] using hsp
   ·have := hc 0 (by omega) 0 _ rfl
    have h2 := World.cell?_spot this
    simpa [Addr.add] using h2
  subst hs
  exact ⟨g, o, c, hv, fun j u hu => by have := hc i hi j u hu; rw [Addr.add_mid] at this; rw [Nat.add_assoc]; exact this, hcap⟩
theorem ScriptAt.form {W : World} {v : Value} {os : List OpS} (h : ScriptAt W v os) : ∃ a c, v = .slice a os.length c := by
 rcases h.1 with ⟨h1, h2⟩ | ⟨ad, c, hv, _⟩
 ·exact ⟨none, 0, by rw [h1, h2]; rfl⟩
 ·exact ⟨_, _, hv⟩
section
variable {H : Type} {enc : TypeId × Value → H} {w : World} {base fuel : Nat} {held : Bool}
theorem cellsI : Tryz.prog.cellsOf 3 = 1 := by kernel_rfl
theorem cellsB : Tryz.prog.cellsOf 37 = 1 := by kernel_rfl
theorem cellsF : Tryz.prog.cellsOf 38 = 1 := by kernel_rfl
theorem cellsO : Tryz.prog.cellsOf 40 = 6 := by kernel_rfl
theorem bytesO : Tryz.prog.bytesOf 40 = 80 := by kernel_rfl
theorem six {α : Type} : ∀ (l : List α), l.length = 6 → ∃ a b c d e f, l = [a, b, c, d, e, f]
 | [a, b, c, d, e, f], _ => ⟨a, b, c, d, e, f, rfl⟩
theorem exists_list {α : Type} : ∀ (len : Nat) (p : Nat → α → Prop), (∀ i, i < len → ∃ x, p i x) → ∃ l : List α, l.length = len ∧ ∀ i (h : i < l.length), p i l[i]
 | 0, _, _ => ⟨[], rfl, fun i h => by simp at h⟩
 | n + 1, p, hp => by
   obtain ⟨l, hl, hq⟩ := exists_list n p (fun i hi => hp i (by omega))
   obtain ⟨x, hx⟩ := hp n (by omega)
   refine ⟨l ++ [x], by simp [hl], fun i hi => ?_⟩
   by_cases e : i < l.length
   ·rw [List.getElem_append_left e]; exact hq i e
   ·have : i = l.length := by simp at hi; omega
    subst this
    rw [List.getElem_append_right (by omega)]
    simpa [hl] using hx
theorem weightsAll_mem {P : Program} {e : TypeId} : ∀ (l : List (DataW H)) (d : DataW H), d ∈ l → ∀ n ∈ d.weights P e, n ∈ DataW.weightsAll P e l
 | d0 :: r, d, hd, n, hn => by
   simp only [DataW.weightsAll, List.mem_append]
   rcases List.mem_cons.1 hd with rfl | hd
   ·exact .inl hn
   ·exact .inr (weightsAll_mem r d hd n hn)
end
end Go.Proofs.YtlcglapcmdpkfaaGreat
