/- How flags and bytes that come in lie in memory, and how many they are at most. -/
import Derived.Test.YtdcflnfdaijpdabF1
import Derived.ProofKit
import Derived.SizedLaws
import Derived.Deep.Slices
import Derived.Deep.Grids
namespace Go.Proofs.Ytdcflnfdaijpdab
open Go.RowKit Go.ChangeShapes Go.WideShapes
set_option linter.unusedVariables false

section
variable {H : Type} {enc : TypeId × Value → H} {w : World} {base fuel : Nat} {held : Bool}
theorem bulk_pos (d : DataW H) : 0 < Rows.uptoBulk d := by
  rcases d with l | _ | _ | _ | _ | _ | _ | _ <;> try simp [Rows.uptoBulk]
  cases l <;> simp [Rows.uptoBulk]
theorem bulk_len : ∀ (l : List (DataW H)), l.length ≤ Rows.uptoBulkAll l
  | [] => by simp [Rows.uptoBulkAll]
  | d :: r => by
    have h1 := bulk_len r
    have h2 := bulk_pos d
    simp only [Rows.uptoBulkAll, List.length_cons]
    omega
theorem read_bytesB {v : Value} {x : DataW H × List MemPlace} (h : DataW.trod enc Try.prog w base (fun _ => true) held fuel 23 [v] = some x) (hw : ∀ n ∈ x.1.weights Try.prog 23, n ≤ reachBytes) : ∃ zs, InAt w v zs ∧ zs.length + 1 ≤ Rows.uptoBulk x.1 := by
  obtain ⟨zs, hz⟩ := read_bytes h hw
  refine ⟨zs, hz, ?_⟩
  rcases open_ints Try.underlying23 Try.underlying5 cells5 h with ⟨hcs, _⟩ | ⟨a, len, cap, ys, hcs, _, hl, hm, hy, hx, _, _⟩
  · simp at hcs
    obtain ⟨a, c, hv, _⟩ := hz.1.form
    rw [hcs] at hv
    simp only [Value.slice.injEq] at hv
    have := bulk_pos x.1
    omega
  · simp at hcs
    obtain ⟨a', c', hv, _⟩ := hz.1.form
    rw [hcs] at hv
    simp only [Value.slice.injEq] at hv
    rw [hx]
    rw [if_pos rfl] at hy
    simp only [Rows.uptoBulk]
    have := bulk_len (lits (H := H) IntKind.u8 (ys.take len))
    have e : (lits (H := H) IntKind.u8 (ys.take len)).length = len := by simp [lits]; omega
    omega
theorem cells4 : Try.prog.cellsOf 4 = 1 := by kernel_rfl
theorem bytes4 : Try.prog.bytesOf 4 = 1 := by kernel_rfl
theorem read_flagsB {v : Value} {x : DataW H × List MemPlace} (h : DataW.trod enc Try.prog w base (fun _ => true) held fuel 24 [v] = some x) (hw : ∀ n ∈ x.1.weights Try.prog 24, n ≤ reachBytes) : ∃ ks, FlagsAt w v ks ∧ ks.length + 1 ≤ Rows.uptoBulk x.1 := by
  rcases Deep.open_bools Try.underlying24 Try.underlying4 cells4 h with ⟨hcs, _⟩ | ⟨a, len, cap, B, hcs, _, hl, hm, hx, hcell⟩
  · simp at hcs
    exact ⟨[], ⟨.inl ⟨hcs, rfl⟩, Nat.zero_le _⟩, bulk_pos x.1⟩
  · simp at hcs
    have hb := hw _ (by rw [hx]; simp only [Deep.boolRow, DataW.weights, Try.underlying24]; exact List.mem_cons_self ..)
    rw [bytes4] at hb
    simp only [List.length_map, List.length_range, reachBytes] at hb
    refine ⟨(List.range len).map B, ⟨.inr ⟨a, cap, by simpa using hcs, by simp; omega, fun j hj => ?_⟩, by simp; omega⟩, ?_⟩
    · simp at hj
      rw [hcell j (by omega)]
      simp [hj]
    · rw [hx]
      simp only [Deep.boolRow, Rows.uptoBulk, List.length_map, List.length_range]
      have e : ∀ l : List (DataW H), l.length = len → len ≤ Rows.uptoBulkAll l := fun l h => h ▸ bulk_len l
      have := e (List.map (fun k => DataW.lit (Lit.bool (B k))) (List.range len)) (by simp)
      omega
end
end Go.Proofs.Ytdcflnfdaijpdab
