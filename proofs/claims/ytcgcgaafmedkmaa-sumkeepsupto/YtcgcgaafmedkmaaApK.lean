/- A book's Apart: three of its four lists are empty. -/
import Derived.Test.YtcgcgaafmedkmaaApB
namespace Go.Proofs.Ytcgcgaafmedkmaa
open Go.RowKit
set_option linter.unusedSimpArgs false
set_option linter.unusedVariables false

set_option maxRecDepth 100000 in
set_option maxHeartbeats 1000000 in
theorem apart_ints0 (w : World) : Calls Try.prog 30 #[.slice none 0 0] w fun e w' => e = .returned (.bool true) ∧ w' = w := by
  go_enter Try.func30, Try.ntmps30
  go_wp2_with fail
  go_loopw [3, 4, 5] (fun a b c wr => a = .int .i64 1000000 ∧ b = .slice none 0 0 ∧ c = .int .i64 0 ∧ w = wr) (fun _ _ _ _ => 0)
  case atStart => exact ⟨rfl, rfl, rfl, rfl⟩
  case round =>
    obtain ⟨rfl, rfl, rfl, rfl⟩ := hrel
    go_wp2_with fail
    go_loopw [3, 9] (fun a c wr => a = .int .i64 1000000 ∧ c = .int .i64 0 ∧ w = wr) (fun _ _ _ => 0)
    case atStart => exact ⟨rfl, rfl, rfl⟩
    case round =>
      obtain ⟨rfl, rfl, rfl⟩ := hrel
      go_wp2
      go_ret
      exact ⟨rfl, rfl⟩
set_option maxRecDepth 100000 in
set_option maxHeartbeats 1000000 in
theorem apart_words0 (w : World) : Calls Try.prog 31 #[.slice none 0 0] w fun e w' => e = .returned (.bool true) ∧ w' = w := by
  go_enter Try.func31, Try.ntmps31
  go_wp2_with fail
  go_loopw [3, 4, 5] (fun a b c wr => a = .int .i64 1000000 ∧ b = .slice none 0 0 ∧ c = .int .i64 0 ∧ w = wr) (fun _ _ _ _ => 0)
  case atStart => exact ⟨rfl, rfl, rfl, rfl⟩
  case round =>
    obtain ⟨rfl, rfl, rfl, rfl⟩ := hrel
    go_wp2_with fail
    go_loopw [3, 9] (fun a c wr => a = .int .i64 1000000 ∧ c = .int .i64 0 ∧ w = wr) (fun _ _ _ => 0)
    case atStart => exact ⟨rfl, rfl, rfl⟩
    case round =>
      obtain ⟨rfl, rfl, rfl⟩ := hrel
      go_wp2
      go_ret
      exact ⟨rfl, rfl⟩
set_option maxRecDepth 100000 in
set_option maxHeartbeats 1000000 in
theorem apart_texts0 (w : World) : Calls Try.prog 33 #[.slice none 0 0] w fun e w' => e = .returned (.bool true) ∧ w' = w := by
  go_enter Try.func33, Try.ntmps33
  go_wp2_with fail
  go_loopw [3, 4, 5] (fun a b c wr => a = .int .i64 0 ∧ b = .slice none 0 0 ∧ c = .int .i64 0 ∧ w = wr) (fun _ _ _ _ => 0)
  case atStart => exact ⟨rfl, rfl, rfl, rfl⟩
  case round =>
    obtain ⟨rfl, rfl, rfl, rfl⟩ := hrel
    go_wp2_with fail
    go_loopw [3, 9] (fun a c wr => a = .int .i64 0 ∧ c = .int .i64 0 ∧ w = wr) (fun _ _ _ => 0)
    case atStart => exact ⟨rfl, rfl, rfl⟩
    case round =>
      obtain ⟨rfl, rfl, rfl⟩ := hrel
      go_wp2
      go_ret
      exact ⟨rfl, rfl⟩
/-- A book of lists of bytes alone. -/
theorem apart_book (p k : Nat) (xs : Nat → Value) (ns : Nat → Nat) (lv : Value) (w : World) (c0 : w.cell? ⟨p, 0, none⟩ = some (.slice none 0 0)) (c1 : w.cell? ⟨p, 1, none⟩ = some (.slice none 0 0)) (c2 : w.cell? ⟨p, 2, none⟩ = some lv) (c3 : w.cell? ⟨p, 3, none⟩ = some (.slice none 0 0)) (hp : ¬ lsB k xs p)
    (hlv : Whole w lv k xs) (hlb : ∀ b, lv.ownBlock = some b → ¬ lsB k xs b) (hL : Lists w k xs ns) (hk : k * 24 ≤ 140737488355328) :
    Calls Try.prog 24 #[.pointer (some ⟨p, 0, none⟩)] w fun e w' => e = .returned (.bool true) ∧ Only (lsB k xs) w w' ∧ Th w w' := by
  obtain ⟨la, lc, hlv'⟩ := hlv.slice
  have HB := apart_bytes k xs ns lv w hlv hlb hL hk
  clear hlv hlb hL
  subst hlv'
  have HB' : Calls Try.prog 32 #[.slice la k lc] w fun e w' => e = .returned (.bool true) ∧ w'.cell? ⟨p, 3, none⟩ = some (.slice none 0 0) ∧ Hid (Only (lsB k xs) w w' ∧ Th w w') := by
    refine HB.mono ?_
    rintro e w' ⟨rfl, h1, h2⟩
    exact ⟨rfl, h1.cell c3 hp, h1, h2⟩
  clear HB
  go_enter Try.func24, Try.ntmps24
  go_wp2_with fail
  refine (apart_ints0 w).mono ?_
  rintro e w1 ⟨rfl, rfl⟩
  go_wp2_with fail
  refine (apart_words0 w1).mono ?_
  rintro e w2 ⟨rfl, rfl⟩
  go_wp2_with fail
  refine HB'.mono ?_
  rintro e w3 ⟨rfl, y3, HE⟩
  clear HB' c0 c1 c2 c3
  go_wp2_with fail
  refine (apart_texts0 w3).mono ?_
  rintro e w4 ⟨rfl, rfl⟩
  go_wp2
  go_ret
  exact ⟨rfl, HE.out⟩
end Go.Proofs.Ytcgcgaafmedkmaa
