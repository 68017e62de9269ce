import Derived.Test.YtlcglapcmdpkfaaGreatS3
import Derived.Test.YtlcglapcmdpkfaaGreatWhole
namespace Go.Proofs.YtlcglapcmdpkfaaGreat
open Go.RowKit
set_option linter.unusedSimpArgs false
set_option linter.unusedVariables false
theorem BytesAt.take {w : World} {a : Option Addr} {m c n : Nat} {zs : List Nat} (h : BytesAt w (.slice a m c) zs) (hn : n ≤ m) : BytesAt w (.slice a n c) (zs.take n) := by
 have hl : (zs.take n).length ≤ zs.length := by rw [List.length_take]; omega
 have hz : ∀ z ∈ zs.take n, z < 256 := fun z hz => h.2.2 z (List.mem_of_mem_take hz)
 rcases h.1 with ⟨hv, h0⟩ | ⟨ad, c', hv, hkc, hc⟩
 ·simp only [Value.slice.injEq] at hv
  obtain ⟨rfl, rfl, rfl⟩ := hv
  obtain rfl : n = 0 := by omega
  exact ⟨.inl ⟨rfl, by simp⟩, by have := h.2.1; omega, hz⟩
 ·simp only [Value.slice.injEq] at hv
  obtain ⟨rfl, rfl, rfl⟩ := hv
  have e : (zs.take n).length = n := by rw [List.length_take]; omega
  refine ⟨.inr ⟨ad, c, by rw [e], by omega, fun j hj => ?_⟩, by have := h.2.1; omega, hz⟩
  rw [e] at hj
  rw [hc j (by omega)]
  have : (zs.take n).getD j 0 = zs.getD j 0 := by simp only [List.getD]; rw [List.getElem?_take_of_lt (by omega)]
  simp only [this]
theorem Whole.bytes {w : World} {v : Value} {n : Nat} {f : Nat → Nat} (h : Whole w v n (fun j => .int .u8 (f j : Nat))) (hn : n ≤ 140737488355328) (hf : ∀ j, j < n → f j < 256) : BytesAt w v ((List.range n).map f) := by
 obtain ⟨a, c, rfl, h1, h2, h3, h4⟩ := h
 have hz : ∀ z ∈ (List.range n).map f, z < 256 := fun z hz => by obtain ⟨j, hj, rfl⟩ := List.mem_map.1 hz; exact hf j (by simpa using hj)
 by_cases hc : c = 0
 ·obtain rfl : n = 0 := by omega
  cases a with
  | none => subst hc; exact ⟨.inl ⟨rfl, by simp⟩, by simp, hz⟩
  | some ad => exact ⟨.inr ⟨ad, c, by simp, by simp, fun j hj => by simp at hj⟩, by simp, hz⟩
 ·obtain ⟨g, o, rfl, ht, hcell⟩ := h4 (by omega)
  refine ⟨.inr ⟨⟨g, o, none⟩, c, by simp, by simpa using h1, fun j hj => ?_⟩, by simpa using hn, hz⟩
  simp at hj
  rw [Addr.add_mid, hcell j hj]
  simp [List.getD, hj]
theorem make23 (n : Nat) (hn : n ≤ 140737488355328) (w : World) : (Instr.makeSlice 37 (.int .i64 n) (.int .i64 n)).run Tryz.prog w = .ok (.slice (some ⟨w.heap.size, 0, none⟩) n n) (w.alloc (.cells (madeCells (Value.int .u8 0).cells n) 5)) := by
 obtain ⟨i0, hi0, hz0, hz1, hz2⟩ := info_parts info5
 have := run_make (P := Tryz.prog) w 37 5 i0 _ Tryz.underlying37 hi0 hz0 .i64 .i64 (n : Int) (n : Int) (by omega) (Int.le_refl _) (by rw [hz2]; omega) (by omega)
 rw [hz1, show ((n : Int)).toNat = n by omega, Nat.mul_one] at this
 exact this
end Go.Proofs.YtlcglapcmdpkfaaGreat
