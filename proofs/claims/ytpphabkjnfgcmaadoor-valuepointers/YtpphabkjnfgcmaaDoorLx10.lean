/- LexNumbers: the walk. -/
import Derived.Test.YtpphabkjnfgcmaaDoorLx9
namespace Go.Proofs.YtpphabkjnfgcmaaDoor
open Go.RowKit
set_option linter.unusedSimpArgs false
set_option linter.unusedVariables false
def tkS (nt : Nat) (ds : List Nat) (i : Nat) : ByteArray := mkS ((ds.take i).map (nt + ·))
theorem tk_none (nt : Nat) (ds : List Nat) : tkS nt ds 0 = ⟨#[]⟩ := rfl
theorem tk_all (nt : Nat) (ds : List Nat) {i : Nat} (h : ds.length ≤ i) : tkS nt ds i = mkS (ds.map (nt + ·)) := by unfold tkS; rw [List.take_of_length_le h]
theorem tk_size {nt : Nat} (hn : nt = 48 ∨ nt = 1632 ∨ nt = 65296) {ds : List Nat} (h : ∀ d ∈ ds, d < 10) (i : Nat) : (tkS nt ds i).size ≤ 3 * ds.length := by
  have := mk_size3 hn (ds.take i) (fun d hd => h d (List.mem_of_mem_take hd))
  have h2 : (ds.take i).length ≤ ds.length := by rw [List.length_take]; omega
  unfold tkS
  omega
theorem tk_go {nt : Nat} {ds : List Nat} {i : Nat} (hi : i < ds.length) : tkS nt ds i ++ Utf8.encode ((nt + ds[i] : Nat) : Int) = tkS nt ds (i + 1) := by
  unfold tkS
  rw [mk_snoc, List.take_add_one, List.getElem?_eq_getElem hi, List.map_append]
  rfl
theorem enc_size2 {nt : Nat} (hn : nt = 48 ∨ nt = 1632 ∨ nt = 65296) {d : Nat} (hd : d < 10) : (Utf8.encode ((nt + d : Nat) : Int)).size ≤ 3 := by
  have := enc_size hn hd
  rw [mk_one]
  unfold mkS
  rw [size_mk, encL_one]
  exact this
end Go.Proofs.YtpphabkjnfgcmaaDoor
