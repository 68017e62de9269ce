/- Primitives: which there are. -/
import Derived.Test.YtodbkihobgdpdaaGreatDoorEf1
namespace Go.Proofs.YtodbkihobgdpdaaGreatDoor
open Go.RowKit
set_option linter.unusedSimpArgs false
set_option linter.unusedVariables false
/-- the primitives that have effects of their own -/
def pmL : List (List UInt8 × Int × Int) := [([100, 114, 111, 112], 1, 0), ([46], 1, 0), ([110, 101, 103], 1, 1), ([97, 98, 115], 1, 1), ([110, 111, 116], 1, 1), ([105, 110, 116, 63], 1, 1), ([115, 116, 114, 63], 1, 1), ([98, 111, 111, 108, 63], 1, 1), ([108, 105, 115, 116, 63], 1, 1), ([113, 117, 111, 116, 63], 1, 1), ([98, 111, 120, 63], 1, 1), ([108, 101, 110, 103, 116, 104], 1, 1), ([119, 114, 97, 112], 1, 1), ([114, 101, 118, 101, 114, 115, 101], 1, 1), ([62, 115, 116, 114], 1, 1), ([62, 105, 110, 116], 1, 1), ([98, 111, 120], 1, 1), ([103, 101, 116], 1, 1), ([100, 117, 112], 1, 2), ([117, 110, 112, 97, 105, 114], 1, 2), ([112, 117, 116], 2, 0), ([110, 105, 112], 2, 1), ([43], 2, 1), ([45], 2, 1), ([42], 2, 1), ([47], 2, 1), ([109, 111, 100], 2, 1), ([109, 105, 110], 2, 1), ([109, 97, 120], 2, 1), ([60], 2, 1), ([62], 2, 1), ([61], 2, 1), ([97, 110, 100], 2, 1), ([111, 114], 2, 1), ([97, 112, 112, 101, 110, 100], 2, 1), ([110, 116, 104], 2, 1), ([112, 97, 105, 114], 2, 1), ([99, 117, 114, 114, 121], 2, 1), ([99, 111, 109, 112, 111, 115, 101], 2, 1), ([115, 119, 97, 112], 2, 2), ([111, 118, 101, 114], 2, 3), ([116, 117, 99, 107], 2, 3), ([115, 108, 105, 99, 101], 3, 1), ([114, 111, 116], 3, 3)]
def pmF (l : List UInt8) : List (List UInt8 × Int × Int) → Int × Int × Bool
  | [] => (0, 0, false)
  | x :: r => if l = x.1 then (x.2.1, x.2.2, true) else pmF l r
/-- a primitive's effect, if it has one -/
def pmR (s : ByteArray) : Int × Int × Bool := pmF s.toList pmL
theorem pmF_no (l : List UInt8) : ∀ q : List (List UInt8 × Int × Int), (∀ x ∈ q, l ≠ x.1) → pmF l q = (0, 0, false)
  | [], _ => rfl
  | x :: r, h => by
    unfold pmF
    rw [if_neg (h x (by simp)), pmF_no l r (fun y hy => h y (by simp [hy]))]
theorem to_lit {s : ByteArray} {l : List UInt8} (h : s.toList = l) : s = ⟨l.toArray⟩ := by
  subst h
  obtain ⟨⟨d⟩⟩ := s
  simp [ByteArray.toList_eq]
/-- what Prim answers -/
def PmC (s : ByteArray) : Prop := ∀ w : World, Calls Tryz.prog 16 #[.string s] w fun e w' => e = .returned (.tuple #[efV (pmR s).1 (pmR s).2.1, .bool (pmR s).2.2]) ∧ Only (fun _ => False) w w'
/-- what the document's Prim answers -/
def RmC (s : ByteArray) : Prop := ∀ w : World, Calls Tryz.prog 17 #[.string s] w fun e w' => e = .returned (.tuple #[.int .i64 (pmR s).1, .int .i64 (pmR s).2.1, .bool (pmR s).2.2]) ∧ Only (fun _ => False) w w'
end Go.Proofs.YtodbkihobgdpdaaGreatDoor
