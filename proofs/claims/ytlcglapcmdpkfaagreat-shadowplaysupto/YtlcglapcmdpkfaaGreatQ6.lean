import Derived.Test.YtlcglapcmdpkfaaGreatQ5
import Derived.Test.YtlcglapcmdpkfaaGreatM5
import Derived.Test.YtlcglapcmdpkfaaGreatN8
namespace Go.Proofs.YtlcglapcmdpkfaaGreat
open Go.RowKit
set_option linter.unusedSimpArgs false
set_option linter.unusedVariables false
theorem PMap.put {w : World} {av : Nat → Prop} {m : Nat} {l : Pgs} (h : PMap w av m l) (hav : av m) (i : Int) (hi : 0 ≤ i ∧ i < 728) (hl : l.length ≤ 728) (P : Nat) (a : Option Addr) (n c : Nat) (D : List Nat) (hu : BytesAt w (.slice a n c) D) (hub : ∀ b, (Value.slice a n c).ownBlock = some b → b < w.heap.size ∧ ¬ av b) :
  ∃ w2, (Instr.mapUpdate 77 (.map (some m)) (.int .i64 i) (.agg #[.int .i64 (P : Nat), .slice a n c])).run Tryz.prog w = .ok () w2 ∧ PMap w2 av m (putL l i (P, D)) ∧ Only (fun k => k = m) w w2 := by
 obtain ⟨sl, hm, hs⟩ := h
 have hlen : (l.map fun p => (p.1, pgV sl p)).length < maxLen := by
  rw [List.length_map]
  unfold maxLen
  omega
 obtain ⟨w2, hr, hm2, ho2, hsz⟩ := hm.store i (by omega) hlen (.agg #[.int .i64 (P : Nat), .slice a n c])
 refine ⟨w2, hr, ⟨fun k => if k = i then .slice a n c else sl k, ?_, fun q hq => ?_⟩, ho2⟩
 ·have e := putL_map (pgV sl) (pgV (fun k => if k = i then .slice a n c else sl k)) (i, P, D) l (fun p hp => by simp only [pgV]; rw [if_neg hp])
  rw [← e]
  have e2 : pgV (fun k => if k = i then .slice a n c else sl k) (i, P, D) = .agg #[.int .i64 (P : Nat), .slice a n c] := by simp [pgV]
  rw [e2]
  exact hm2
 ·rcases (putL_mem _ _ _ _).1 hq with rfl | ⟨hq, hne⟩
  ·simp only [if_true]
   refine ⟨hu.keep ho2 (fun b hb e => (hub b hb).2 (e ▸ hav)), fun b hb => ⟨?_, (hub b hb).2⟩⟩
   have := (hub b hb).1; omega
  ·obtain ⟨hb1, hb2⟩ := hs q hq
   simp only [if_neg hne]
   refine ⟨hb1.keep ho2 (fun b hb e => (hb2 b hb).2 (e ▸ hav)), fun b hb => ⟨by have := (hb2 b hb).1; omega, (hb2 b hb).2⟩⟩
def pgsR (d : DS) (tab : List Nat) : Nat → (Nat → Bool) → Nat → Nat → Pgs → (Nat → Bool) × Option Pgs
 | 0, f, _, _, _ => (f, none)
 | k + 1, f, least, pos, m => if tab.length ≤ pos then (f, some m) else
   match rd tab pos 0 0 with
   | none => (f, none)
   | some (i, q) => if i < least ∨ 728 ≤ i then (f, none) else
     match rd tab q 0 0 with
     | none => (f, none)
     | some (P, z) =>
       match (ldR d f P (3 + 256 * i)).2 with
       | none => ((ldR d f P (3 + 256 * i)).1, none)
       | some D => pgsR d tab k (ldR d f P (3 + 256 * i)).1 (i + 1) z (putL m (i : Int) (P, D))
section
variable {d : DS} {tab : List Nat} {f : Nat → Bool} {least pos i q P z : Nat} {m : Pgs} {D : List Nat}
theorem pgsR_end (h : tab.length ≤ pos) (k : Nat) : pgsR d tab (k + 1) f least pos m = (f, some m) := by rw [pgsR, if_pos h]
theorem pgsR_none1 (h : ¬ tab.length ≤ pos) (h1 : rd tab pos 0 0 = none) (k : Nat) : pgsR d tab (k + 1) f least pos m = (f, none) := by rw [pgsR, if_neg h, h1]
theorem pgsR_low (h : ¬ tab.length ≤ pos) (h1 : rd tab pos 0 0 = some (i, q)) (hi : i < least ∨ 728 ≤ i) (k : Nat) : pgsR d tab (k + 1) f least pos m = (f, none) := by
 rw [pgsR, if_neg h, h1]; exact if_pos hi
theorem pgsR_none2 (h : ¬ tab.length ≤ pos) (h1 : rd tab pos 0 0 = some (i, q)) (hi : ¬ (i < least ∨ 728 ≤ i)) (h2 : rd tab q 0 0 = none) (k : Nat) : pgsR d tab (k + 1) f least pos m = (f, none) := by
 rw [pgsR, if_neg h, h1]; refine (if_neg hi).trans ?_; rw [h2]
theorem pgsR_not (h : ¬ tab.length ≤ pos) (h1 : rd tab pos 0 0 = some (i, q)) (hi : ¬ (i < least ∨ 728 ≤ i)) (h2 : rd tab q 0 0 = some (P, z)) (h3 : (ldR d f P (3 + 256 * i)).2 = none) (k : Nat) : pgsR d tab (k + 1) f least pos m = ((ldR d f P (3 + 256 * i)).1, none) := by
 rw [pgsR, if_neg h, h1]; refine (if_neg hi).trans ?_; rw [h2]; simp only [h3]
theorem pgsR_go (h : ¬ tab.length ≤ pos) (h1 : rd tab pos 0 0 = some (i, q)) (hi : ¬ (i < least ∨ 728 ≤ i)) (h2 : rd tab q 0 0 = some (P, z)) (h3 : (ldR d f P (3 + 256 * i)).2 = some D) (k : Nat) : pgsR d tab (k + 1) f least pos m = pgsR d tab k (ldR d f P (3 + 256 * i)).1 (i + 1) z (putL m (i : Int) (P, D)) := by
 rw [pgsR, if_neg h, h1]; refine (if_neg hi).trans ?_; rw [h2]; simp only [h3]
end
theorem rd_ok {zs : List Nat} {p m q : Nat} (h : rd zs p 0 0 = some (m, q)) : m < 9223372036854775808 ∧ p < q ∧ q ≤ zs.length := rd_some 9 0 0 rfl (by decide) h
def PgsIs (w : World) (L p G n : Nat) (r : (Nat → Bool) × Option Pgs) (e : Ending) (w' : World) : Prop :=
 LdAt w' L p G n r.1 ∧ Only (fun i => i = G) w w' ∧ match r.2 with
 | none => e = .returned (.tuple #[.map none, .bool false])
 | some l => e = .returned (.tuple #[.map (some w.heap.size), .bool true]) ∧ PMap w' (fun k => k ≤ w.heap.size) w.heap.size l
structure PgI (w wr : World) (L p G : Nat) (d : DS) (tab : List Nat) (R : (Nat → Bool) × Option Pgs) (f : Nat → Bool) (least pos : Nat) (m : Pgs) : Prop where
 le : least ≤ 728
 ps : pos ≤ tab.length
 ld : LdAt wr L p G (d.n / 4) f
 mp : PMap wr (fun k => k ≤ w.heap.size) w.heap.size m
 ky : ∀ x ∈ m, 0 ≤ x.1 ∧ x.1 < 728
 rs : ∃ k, R = pgsR d tab k f least pos m ∧ tab.length - pos < k
 on : Only (fun i => i = G) w wr
end Go.Proofs.YtlcglapcmdpkfaaGreat
