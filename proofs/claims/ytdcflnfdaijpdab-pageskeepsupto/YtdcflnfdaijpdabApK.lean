/- A book's Apart: lists of numbers and lists of bytes. -/
import Derived.Test.YtdcflnfdaijpdabApB
import Derived.Test.YtdcflnfdaijpdabApI
namespace Go.Proofs.Ytdcflnfdaijpdab
open Go.RowKit
set_option linter.unusedSimpArgs false
set_option linter.unusedVariables false

set_option maxRecDepth 100000 in
set_option maxHeartbeats 1000000 in
theorem apart_words0 (w : World) : Calls Try.prog 17 #[.slice none 0 0] w fun e w' => e = .returned (.bool true) ∧ w' = w := by
  go_enter Try.func17, Try.ntmps17
  go_wp2_with fail
  go_loopw [3, 4, 5] (fun a b c wr => a = .int .i64 1000000 ∧ b = .slice none 0 0 ∧ c = .int .i64 0 ∧ w = wr) (fun _ _ _ _ => 0)
  case atStart => exact ⟨rfl, rfl, rfl, rfl⟩
  case round =>
    obtain ⟨rfl, rfl, rfl, rfl⟩ := hrel
    go_wp2_with fail
    go_loopw [3, 9] (fun a c wr => a = .int .i64 1000000 ∧ c = .int .i64 0 ∧ w = wr) (fun _ _ _ => 0)
    case atStart => exact ⟨rfl, rfl, rfl⟩
    case round =>
      obtain ⟨rfl, rfl, rfl⟩ := hrel
      go_wp2
      go_ret
      exact ⟨rfl, rfl⟩
set_option maxRecDepth 100000 in
set_option maxHeartbeats 1000000 in
theorem apart_texts0 (w : World) : Calls Try.prog 19 #[.slice none 0 0] w fun e w' => e = .returned (.bool true) ∧ w' = w := by
  go_enter Try.func19, Try.ntmps19
  go_wp2_with fail
  go_loopw [3, 4, 5] (fun a b c wr => a = .int .i64 0 ∧ b = .slice none 0 0 ∧ c = .int .i64 0 ∧ w = wr) (fun _ _ _ _ => 0)
  case atStart => exact ⟨rfl, rfl, rfl, rfl⟩
  case round =>
    obtain ⟨rfl, rfl, rfl, rfl⟩ := hrel
    go_wp2_with fail
    go_loopw [3, 9] (fun a c wr => a = .int .i64 0 ∧ c = .int .i64 0 ∧ w = wr) (fun _ _ _ => 0)
    case atStart => exact ⟨rfl, rfl, rfl⟩
    case round =>
      obtain ⟨rfl, rfl, rfl⟩ := hrel
      go_wp2
      go_ret
      exact ⟨rfl, rfl⟩
set_option maxRecDepth 100000 in
set_option maxHeartbeats 1000000 in
/-- A book of lists of numbers and of bytes. -/
theorem apart_book (p : Nat) (k1 : Nat) (xs1 : Nat → Value) (ns1 : Nat → Nat) (lv1 : Value) (k2 : Nat) (xs2 : Nat → Value) (ns2 : Nat → Nat) (lv2 : Value) (w : World) (c0 : w.cell? ⟨p, 0, none⟩ = some lv1) (c1 : w.cell? ⟨p, 1, none⟩ = some (.slice none 0 0)) (c2 : w.cell? ⟨p, 2, none⟩ = some lv2) (c3 : w.cell? ⟨p, 3, none⟩ = some (.slice none 0 0)) (hp1 : ¬ lsB k1 xs1 p) (hp2 : ¬ lsB k2 xs2 p)
    (hlv1 : Whole w lv1 k1 xs1) (hlb1 : ∀ b, lv1.ownBlock = some b → ¬ lsB k1 xs1 b) (hL1 : Lists w k1 xs1 ns1) (hk1 : k1 * 24 ≤ 140737488355328) (hoff : ∀ q, q ≤ k1 → offN ns1 q ≤ 4611686018427387904) (hmx : ∀ q, q < k1 → ns1 q ≤ 1048576)
    (hlv2 : Whole w lv2 k2 xs2) (hlb2 : ∀ b, lv2.ownBlock = some b → ¬ lsB k2 xs2 b) (hlb3 : ∀ b, lv2.ownBlock = some b → ¬ lsB k1 xs1 b) (hL2 : Lists w k2 xs2 ns2) (hk2 : k2 * 24 ≤ 140737488355328) :
    Calls Try.prog 10 #[.pointer (some ⟨p, 0, none⟩)] w fun e w' => e = .returned (.bool true) ∧ Only (fun b => lsB k1 xs1 b ∨ lsB k2 xs2 b) w w' := by
  have HI : Hid (Calls Try.prog 16 #[lv1] w fun e w' => e = .returned (.bool true) ∧ Only (lsB k1 xs1) w w' ∧ Th w w') := apart_ints k1 xs1 ns1 lv1 w hlv1 hlb1 hL1 hk1 hoff hmx
  have HB : Hid (∀ w1, Only (lsB k1 xs1) w w1 → Th w w1 → Calls Try.prog 18 #[lv2] w1 fun e w' => e = .returned (.bool true) ∧ Only (lsB k2 xs2) w1 w' ∧ Th w1 w') := fun w1 o t => apart_bytes k2 xs2 ns2 lv2 w1 (hlv2.frame o hlb3) hlb2 (hL2.next t o.size) hk2
  have HC : Hid (∀ w1, Only (lsB k1 xs1) w w1 → w1.cell? ⟨p, 1, none⟩ = some (.slice none 0 0) ∧ w1.cell? ⟨p, 2, none⟩ = some lv2 ∧ w1.cell? ⟨p, 3, none⟩ = some (.slice none 0 0)) := fun w1 o => ⟨o.cell c1 hp1, o.cell c2 hp1, o.cell c3 hp1⟩
  have HC3 : Hid (∀ w1 w3, w1.cell? ⟨p, 3, none⟩ = some (.slice none 0 0) → Only (lsB k2 xs2) w1 w3 → w3.cell? ⟨p, 3, none⟩ = some (.slice none 0 0)) := fun w1 w3 h o => o.cell h hp2
  obtain ⟨la1, lc1, hv1⟩ := hlv1.slice
  obtain ⟨la2, lc2, hv2⟩ := hlv2.slice
  subst hv1 hv2
  clear c1 c2 c3 hp1 hp2 hlv1 hlb1 hL1 hoff hmx hlv2 hlb2 hlb3 hL2
  go_enter Try.func10, Try.ntmps10
  go_wp2_with fail
  refine (show Calls Try.prog 16 _ _ _ from HI.out).mono ?_
  rintro e w1 ⟨rfl, o1, t1⟩
  have HO1 : Hid (Only (lsB k1 xs1) w w1) := o1
  have HB1 : Hid (Calls Try.prog 18 #[.slice la2 k2 lc2] w1 fun e w' => e = .returned (.bool true) ∧ Only (lsB k2 xs2) w1 w' ∧ Th w1 w') := HB.out w1 o1 t1
  obtain ⟨y1, y2, y3⟩ := HC.out w1 o1
  have HY3 : Hid (w1.cell? ⟨p, 3, none⟩ = some (.slice none 0 0)) := y3
  clear HI HB HC o1 t1 c0 y3
  go_wp2_with fail
  refine (apart_words0 w1).mono ?_
  rintro e w2 ⟨rfl, rfl⟩
  go_wp2_with fail
  refine (show Calls Try.prog 18 _ _ _ from HB1.out).mono ?_
  rintro e w3 ⟨rfl, o3, t3⟩
  have y3 := HC3.out _ _ HY3.out o3
  have HO3 : Hid (Only (fun b => lsB k1 xs1 b ∨ lsB k2 xs2 b) w w3) := (HO1.out.mono (fun _ _ e => .inl e)).trans o3 (fun _ _ e => .inr e)
  clear HB1 HC3 o3 t3 y1 y2
  go_wp2_with fail
  refine (apart_texts0 w3).mono ?_
  rintro e w4 ⟨rfl, rfl⟩
  go_wp2
  go_ret
  exact ⟨rfl, HO3.out⟩
end Go.Proofs.Ytdcflnfdaijpdab
