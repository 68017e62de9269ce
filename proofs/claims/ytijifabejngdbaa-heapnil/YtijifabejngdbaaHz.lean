/- Words that are 0 are put behind a row of one's own. -/
import Derived.Test.YtijifabejngdbaaHn4
import Derived.Lib.AppendZerosOnto
namespace Go.Proofs.Ytijifabejngdbaa
open Go.RowKit
set_option linter.unusedSimpArgs false
set_option linter.unusedVariables false
/-- k words that are 0, as cells -/
def zF (k : Nat) : List Value := (Builtin.zeroCells #[.bool false, .int .u64 0] k).toList
theorem zF_len (k : Nat) : (zF k).length = k * 2 := by simp [zF, size_zeroCells]
theorem zF_one (k : Nat) : ∀ u ∈ zF k, u.oneCell' = true := by
  intro u hu
  simp only [zF, Builtin.zeroCells, Array.toList_map, List.mem_map] at hu
  obtain ⟨j, _, rfl⟩ := hu
  have : j % 2 = 0 ∨ j % 2 = 1 := by omega
  rcases this with h | h <;> simp [h, Value.oneCell']
set_option maxHeartbeats 1000000 in
theorem app_z {w : World} {B n g cap : Nat} {us : List Value} (ho : w.ownsRow B 62 2 (.slice (some ⟨g, 0, none⟩) n cap) n us) (hB : B ≤ w.heap.size) (k : Nat) (h0 : 0 < k) (hn : n ≤ 1000000) (hk : k ≤ 1000000) :
    ∃ a c w', (∀ ty, (Builtin.append_ #[50, 3] ty #[.slice (some ⟨g, 0, none⟩) n cap, .int .i64 (k : Int)]).run Try.prog w = .ok (.slice a (n + k) c) w') ∧ w'.ownsRow B 62 2 (.slice a (n + k) c) (n + k) (us ++ zF k) ∧ Only (fun b => b = g) w w' := by
  obtain ⟨i0, hi, hz0, hz1, hz2⟩ := info_parts infoF
  have hlen : (us ++ zF k).length = (n + k) * 2 := by rw [List.length_append, ho.1, zF_len, Nat.add_mul]
  rcases ho.2 with ⟨h1, _⟩ | ⟨g', cap', cur, hv, hbg, hg, hnc, hcm, hcs, htake⟩
  · cases h1
  · cases hv
    have hw : IntKind.i64.wrap (k : Int) = k := by rw [IntKind.wrap_i64]; omega
    have hneg : ¬ ((k : Int) < 0) := by omega
    have hns : ¬ (k * 2 = 0) := by omega
    have h48 : ¬ (281474976710656 < (k : Int) * 16) := by omega
    by_cases hroom : n + k ≤ cap
    · have hfit : n * 2 + (zF k).length ≤ cur.size := by rw [zF_len, hcs, ← Nat.add_mul]; exact Nat.mul_le_mul_right _ hroom
      have hst := run_storeCells_at Try.prog g (n * 2) 62 (zF k) 0 cur w hg (by simpa using hfit) (zF_one k)
      simp only [Nat.add_zero] at hst
      refine ⟨some ⟨g, 0, none⟩, cap, w.setRow g (cur.toList.take (n * 2) ++ zF k ++ cur.toList.drop (n * 2 + (zF k).length)).toArray, fun ty => ?_, ⟨hlen, .inr ⟨g, cap, _, rfl, hbg, setRow_heap w g cur _ 62 _ hg, hroom, hcm, ?_, ?_⟩⟩, ⟨rfl, rfl, rfl, by simp, fun j _ hj => setRow_other w g j _ hj⟩⟩
      · have hzz : (Builtin.zeroCells (Value.agg #[.bool false, .int .u64 0]).cells k).toList = zF k := rfl
        simp [Builtin.append_, run_underlying Try.underlying50, run_underlying Try.underlying3, sizeOf, typeInfo, zeroValue, hi, hz0, hz1, hz2, asInt, asIntOf, hw, hneg, hns, h48, hroom, Addr.add_lit, hzz, hst]
      · simp only [List.size_toArray, List.length_append, List.length_take, List.length_drop, Array.length_toList]
        omega
      · rw [htake, ← hlen]
        exact List.take_left
    · have hold : (Builtin.firstCells i0.size n (.slice (some ⟨g, 0, none⟩) n cap)).run Try.prog w.drew = .ok us.toArray w.drew :=
        run_firstCells_some (P := Try.prog) w.drew i0.size n ⟨g, 0, none⟩ n cap us (by rw [hz1]; exact ho.1) (ho.cells (g := g) rfl)
      have hr := fun ty => Lib.run_append_grow_zeros (P := Try.prog) w 50 3 ty 62 i0 _ .i64 .i64 Try.underlying50 Try.underlying3 hi hz0 (some ⟨g, 0, none⟩) n cap us hold k h0 (by omega) (by omega) (by omega) (by rw [hz2]; omega) (growslice_fits (by omega) (by rw [hz2]; omega))
      have hge := grownCap_ge w (n + k) cap 62
      have hcm' : grownCap w (n + k) cap 62 ≤ maxLen := grownCap_le_maxLen w (n + k) cap 62 (by unfold maxLen; omega)
      refine ⟨_, _, _, hr, ⟨hlen, .inr ⟨w.heap.size, _, _, rfl, hB, heap_alloc_new w.drew _, hge, hcm', ?_, ?_⟩⟩, ((Only.refl _ w).drew).alloc _⟩
      · have hzs : (Value.agg #[.bool false, .int .u64 0]).cells.size = 2 := rfl
        simp only [Array.size_append, List.size_toArray, size_zeroCells, hzs, ho.1]
        revert hge
        generalize grownCap w (n + k) cap 62 = G
        intro hge
        omega
      · simp only [Array.toList_append, List.append_assoc]
        rw [← List.append_assoc, ← hlen]
        exact List.take_left
end Go.Proofs.Ytijifabejngdbaa
