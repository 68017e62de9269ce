/- The digits of a number: decimal. -/
import Derived.Test.YtpphabkjnfgcmaaDoorLx7
import Derived.Laws.IdiomStrings
import Derived.Laws.Concat
import Derived.Laws.Runes
namespace Go.Proofs.YtpphabkjnfgcmaaDoor
open Go.RowKit
set_option linter.unusedSimpArgs false
set_option linter.unusedVariables false
theorem val_go : ∀ (ds : List Nat) (a : Nat), ds.foldl (fun n d => n * 10 + d) a = a * 10 ^ ds.length + valX ds := by
  intro ds
  induction ds with
  | nil => intro a; simp [valX]
  | cons d ds ih =>
    intro a
    unfold valX
    rw [List.foldl_cons, List.foldl_cons, ih, ih, List.length_cons, Nat.pow_succ, Nat.add_mul, Nat.zero_mul, Nat.zero_add, Nat.add_assoc, Nat.mul_assoc, Nat.mul_comm 10]
theorem val_cons (d : Nat) (ds : List Nat) : valX (d :: ds) = d * 10 ^ ds.length + valX ds := by
  have := val_go ds (0 * 10 + d)
  rw [Nat.zero_mul, Nat.zero_add] at this
  rw [← this]
  unfold valX
  rw [List.foldl_cons, Nat.zero_mul, Nat.zero_add]
theorem mk_size (ds : List Nat) : (∀ d ∈ ds, d < 10) → (mkS (ds.map (48 + ·))).size = ds.length := by
  intro h
  unfold mkS
  rw [size_mk]
  induction ds with
  | nil => rfl
  | cons d ds ih =>
    unfold encL
    rw [List.map_cons, List.flatMap_cons, enc48 (h d (List.mem_cons_self ..)), List.length_append, List.length_cons]
    have := ih (fun x hx => h x (List.mem_cons_of_mem _ hx))
    unfold encL at this
    rw [this]
    simp
    omega
/-- The digits under way: u is still to be laid. -/
structure Dg (U u : Nat) (ds : List Nat) : Prop where
  lt : ∀ d ∈ ds, d < 10
  sum : u * 10 ^ ds.length + valX ds = U
  len : ds.length ≤ 20
  room : u < 10 ^ (20 - ds.length)
theorem Dg.none {U : Nat} (h : U < 100000000000000000000) : Dg U U [] := ⟨by simp, by simp [valX], by simp, by simpa using h⟩
theorem Dg.more {U u : Nat} {ds : List Nat} (h : Dg U u ds) (hu : 0 < u ∨ ds = []) : Dg U (u / 10) (u % 10 :: ds) := by
  have hl : ds.length < 20 := by
    rcases hu with hu | rfl
    · rcases Nat.lt_or_ge ds.length 20 with g | g
      · exact g
      · have := h.room
        rw [show 20 - ds.length = 0 by omega] at this
        simp at this
        omega
    · simp
  refine ⟨?_, ?_, by rw [List.length_cons]; omega, ?_⟩
  · intro d hd
    rcases List.mem_cons.1 hd with rfl | hd
    · exact Nat.mod_lt _ (by omega)
    · exact h.lt d hd
  · rw [val_cons, List.length_cons, Nat.pow_succ, ← Nat.add_assoc, ← h.sum, Nat.mul_comm (10 ^ ds.length) 10, ← Nat.mul_assoc, ← Nat.add_mul]
    congr 2
    omega
  · rw [List.length_cons]
    have := h.room
    rw [show 20 - ds.length = (20 - (ds.length + 1)) + 1 by omega, Nat.pow_succ] at this
    exact Nat.div_lt_of_lt_mul (by rw [Nat.mul_comm]; exact this)
theorem Dg.size {U u : Nat} {ds : List Nat} (h : Dg U u ds) : (mkS (ds.map (48 + ·))).size ≤ 20 := by
  rw [mk_size ds h.lt]; exact h.len
theorem Dg.le {U u : Nat} {ds : List Nat} (h : Dg U u ds) : u ≤ U := by
  have h1 := h.sum
  have h2 : u * 1 ≤ u * 10 ^ ds.length := Nat.mul_le_mul_left _ (Nat.pos_of_ne_zero (by simp))
  omega
theorem one_byte {d : Nat} (hd : d < 10) (w : World) :
    (convert 75 9 (.slice (some ⟨w.heap.size, 0, none⟩) 1 1)).run Tryd.prog (w.alloc (.cells #[.int .u8 ((48 + d : Nat) : Int)] 5)) = .ok (.string ⟨#[UInt8.ofNat (48 + d)]⟩) (w.alloc (.cells #[.int .u8 ((48 + d : Nat) : Int)] 5)) := by
  have := run_convert_bytes_back (P := Tryd.prog) (w.alloc (.cells #[.int .u8 ((48 + d : Nat) : Int)] 5)) 75 9 5 ⟨w.heap.size, 0, none⟩ 1 [UInt8.ofNat (48 + d)] Tryd.underlying75 Tryd.underlying5 Tryd.underlying9 (fun j hj => by
    have : j = 0 := by simpa using hj
    subst this
    have e : ((UInt8.ofNat (48 + d)).toNat : Int) = ((48 + d : Nat) : Int) := by
      rcases ten hd with rfl | rfl | rfl | rfl | rfl | rfl | rfl | rfl | rfl | rfl <;> rfl
    simp only [List.getElem_cons_zero, e]
    exact World.cell?_alloc_at _ _ w.heap.size 0 rfl)
  exact this
def DecIs (n : Int) (w : World) (e : Ending) (w' : World) : Prop := ∃ ds, Dg n.natAbs 0 ds ∧ ds ≠ [] ∧ e = .returned (.string (mnB (decide (n < 0)) ++ mkS (ds.map (48 + ·)))) ∧ Only (fun _ => False) w w'
def uOf : Value → Nat
  | .int _ m => m.toNat
  | _ => 0
def sOf : Value → Nat
  | .string b => 1 - b.size
  | _ => 0
end Go.Proofs.YtpphabkjnfgcmaaDoor
