import Derived.Test.YtlcglapcmdpkfaaGreatD10
import Derived.Test.YtlcglapcmdpkfaaGreatDw
import Derived.Test.YtlcglapcmdpkfaaGreatWhole
namespace Go.Proofs.YtlcglapcmdpkfaaGreat
open Go.RowKit
set_option linter.unusedSimpArgs false
set_option linter.unusedVariables false
def DS.crash (d : DS) (ks : List Bool) (torn cut : Int) : Int × DS :=
 if cut < 0 ∨ 32 < cut then (2, d) else (0, ⟨d.n, crashTo (fun i => decide (i < ks.length) && ks.getD i false) torn cut.toNat d.pend (undoW d.pend d.sec) d.pend.length, [], -1⟩)
theorem crash_all (p S B : Nat) (pv kv : Value) (d : DS) (ks : List Bool) (torn cut : Int) (w : World) (h : DiskAt w B p S pv d) (hk : DFlags w kv ks.length (fun j => ks.getD j false) S) :
  Calls Tryz.prog 36 #[.pointer (some ⟨p, 0, none⟩), kv, .int .i64 torn, .int .i64 cut] w fun e w' => e = .returned (.int .i64 (d.crash ks torn cut).1) ∧ ∃ pv', DiskAt w' B p S pv' (d.crash ks torn cut).2 ∧ Only (fun i => i = p ∨ i = S) w w' ∧ (∀ b, pv'.ownBlock = some b → pv.ownBlock = some b) := by
 by_cases e : cut < 0 ∨ 32 < cut
 ·have hw : d.crash ks torn cut = (2, d) := by simp [DS.crash, e]
  rw [hw]
  refine (crash_bad p kv torn cut w e).mono ?_
  rintro e' w' ⟨rfl, rfl⟩
  exact ⟨rfl, pv, h, Only.refl _ _, fun _ hb => hb⟩
 ·have hw : d.crash ks torn cut = (0, ⟨d.n, crashTo (fun i => decide (i < ks.length) && ks.getD i false) torn cut.toNat d.pend (undoW d.pend d.sec) d.pend.length, [], -1⟩) := by simp [DS.crash, e]
  rw [hw]
  have hc : cut = (cut.toNat : Int) := by omega
  have := crash_any p S B ks.length cut.toNat pv kv (fun j => ks.getD j false) torn d w h (by omega) hk
  rw [← hc] at this
  refine this.mono ?_
  rintro e' w' ⟨he, hd, ho⟩
  exact ⟨he, _, hd, ho, fun b hb => by simp [Value.ownBlock] at hb⟩
theorem flags_own {w : World} {B m cap S : Nat} {a : Option Addr} {f : Nat → Bool} (h : w.ownsRow B 4 1 (.slice a m cap) m ((List.range m).map fun j => .bool (f j))) (hm : m ≤ maxLen) (hS : S < B) : DFlags w (.slice a m cap) m f S := by
 refine ⟨a, cap, rfl, hm, fun i hi => ?_⟩
 rcases h.2 with ⟨_, h2⟩ | ⟨g, c2, cur, hv, hg, _⟩
 ·omega
 ·simp only [Value.slice.injEq] at hv
  obtain ⟨rfl, _, rfl⟩ := hv
  refine ⟨g, 0, rfl, by omega, ?_⟩
  rw [Nat.zero_add, h.cellAt i (by omega)]
  simp [hi]
theorem allL_congr (n : Nat) (f g : Nat → Nat → Int) (h : ∀ i, i < n → ∀ j, j < 32 → f i j = g i j) : allL n f = allL n g := by
 simp only [allL]
 apply List.map_congr_left
 intro k hk
 have hk' : k < n * 32 := by simpa using hk
 rw [h (k / 32) (by omega) (k % 32) (by omega)]
theorem upd_back (s : Nat → Nat → Int) (k : Nat) (f : Nat → Int) : upd (upd s k f) k (s k) = s := by
 funext i
 by_cases e : i = k
 ·subst e; simp [upd]
 ·simp [upd, e]
theorem undoW_snoc (ws : List Wr) (x : Wr) (s : Nat → Nat → Int) : undoW (ws ++ [x]) s = undoW ws (upd s x.at_ x.bef) := by simp [undoW]
theorem undoW_write (ws : List Wr) (k : Nat) (f : Nat → Int) (s : Nat → Nat → Int) : undoW (ws ++ [⟨k, s k, f⟩]) (upd s k f) = undoW ws s := by
 rw [undoW_snoc, upd_back]
theorem write_n (d : DS) (k : Int) (f : Nat → Int) (m : Nat) : (d.write k f m).2.n = d.n := by
 simp only [DS.write]; split; rfl; split; rfl; split; rfl; rfl
theorem write_len2 (d : DS) (k : Int) (f : Nat → Int) (m : Nat) : (d.write k f m).2.pend.length ≤ d.pend.length + 1 := by
 simp only [DS.write]; split; simp; split; simp; split; simp; simp
theorem DFlags.frame {w w' : World} {v : Value} {kl S : Nat} {kf : Nat → Bool} (h : DFlags w v kl kf S) (S' : Nat) (ho : Only (fun _ => False) w w') (hS : w.heap.size ≤ S') : DFlags w' v kl kf S' := by
 obtain ⟨ka, kc, hv, hm, hk⟩ := h
 refine ⟨ka, kc, hv, hm, fun i hi => ?_⟩
 obtain ⟨kb, ko, h1, h2, h3⟩ := hk i hi
 refine ⟨kb, ko, h1, ?_, ho.cell h3 (fun e => e)⟩
 have : kb < w.heap.size := World.block_lt_of_cell? w _ h3
 omega
theorem range_lt {w : World} {g n : Nat} {s : Nat → Nat → Int} (hn : 1 ≤ n) (h : w.rangeAt g 0 (allL n s)) : g < w.heap.size :=
 World.block_lt_of_cell? w ⟨g, 0 + 0, none⟩ (h 0 (.int .u8 (s 0 0)) (by simpa using allL_get n s 0 0 (by omega) (by omega)))
end Go.Proofs.YtlcglapcmdpkfaaGreat
