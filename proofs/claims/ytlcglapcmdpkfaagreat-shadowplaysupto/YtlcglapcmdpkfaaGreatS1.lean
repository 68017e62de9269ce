import Derived.Test.YtlcglapcmdpkfaaGreatRows
import Derived.Test.YtlcglapcmdpkfaaGreatBase
import Derived.Test.YtlcglapcmdpkfaaGreatCrc
import Derived.Laws.BitsLemmas
import Derived.WalkKit
import Derived.WalkSpells
import Derived.WalkLawsBesides
import Derived.Deep.RegionHeld3
import Derived.Deep.MidRow
import Derived.Deep.AppendLies
import Derived.Deep.DrawnRows
namespace Go.Proofs.YtlcglapcmdpkfaaGreat
open Go.RowKit
set_option linter.unusedSimpArgs false
set_option linter.unusedVariables false
theorem bx32 (a b : Nat) (ha : a < 4294967296) (hb : b < 4294967296) : bits .xor .u32 (a : Int) (b : Int) = ((a ^^^ b : Nat) : Int) := by
 have hx : a ^^^ b < 4294967296 := Nat.xor_lt_two_pow (n := 32) ha hb
 have e1 : a % 2 ^ IntKind.u32.bits = a := Nat.mod_eq_of_lt ha
 have e2 : b % 2 ^ IntKind.u32.bits = b := Nat.mod_eq_of_lt hb
 simp only [bits, BitVec.ofInt_natCast, BitVec.toNat_xor, BitVec.toNat_ofNat, e1, e2]
 rw [IntKind.wrap_u32]
 omega
theorem ba32 (a : Nat) (ha : a < 4294967296) : bits .and .u32 (a : Int) 1 = ((a % 2 : Nat) : Int) := by
 have e1 : a % 2 ^ IntKind.u32.bits = a := Nat.mod_eq_of_lt ha
 have e2 : (1 : Int) = ((1 : Nat) : Int) := rfl
 have e3 : 1 % 2 ^ IntKind.u32.bits = 1 := rfl
 rw [e2]
 simp only [bits, BitVec.ofInt_natCast, BitVec.toNat_and, BitVec.toNat_ofNat, e1, e3]
 rw [IntKind.wrap_u32, Nat.and_one_is_mod]
 omega
set_option maxHeartbeats 400000 in
theorem shift_any (r : Nat) (w : World) (h : r < 4294967296) :
  Calls Tryz.prog 135 #[.int .u32 r] w fun e w' => e = .returned (.int .u32 (it 8 r : Nat)) ∧ w' = w := by
 go_enter Tryz.func135, Tryz.ntmps135
 go_wp2
 go_loopw [0, 4] (fun a t wr => ∃ k : Nat, k ≤ 8 ∧ t = .int .i64 k ∧ a = .int .u32 (it k r : Nat) ∧ w = wr) (fun _ t _ => 8 - (intOf t).toNat)
 case atStart => exact ⟨0, by omega, rfl, rfl, rfl⟩
 case round =>
  obtain ⟨k, hk, rfl, rfl, rfl⟩ := hrel
  by_cases hlt : k < 8
  ·have k0 : (k : Int) < 8 := by omega
   have HX : Hid (it (k + 1) r = st (it k r)) := rfl
   have hx := it_lt h k
   obtain ⟨x, hxx⟩ : ∃ x, x = it k r := ⟨_, rfl⟩
   rw [← hxx] at hx
   have HXX : Hid (x = it k r) := hxx
   rw [← hxx]
   clear hxx
   have hb := ba32 x hx
   by_cases h1 : x % 2 = 1
   ·rw [h1] at hb
    have hs : bits .xor .u32 ((x : Int) / 2) 3988292384 = ((st x : Nat) : Int) := by
     have := bx32 (x / 2) 3988292384 (by omega) (by omega)
     simp only [st, h1, if_true]
     rw [← this]; rfl
    have H1 : Hid (x % 2 = 1) := h1
    clear h1
    go_wp2
    go_roundw
    case rel => exact ⟨k + 1, by omega, by go_num, by rw [HX.out, ← HXX.out], trivial⟩
    case measure => simp [intOf]; omega
   ·have h2 : x % 2 = 0 := by omega
    rw [h2] at hb
    have hs : (x : Int) / 2 = ((st x : Nat) : Int) := by
     simp only [st, h2]; rfl
    have H1 : Hid (x % 2 = 0) := h2
    clear h1 h2
    go_wp2
    go_roundw
    case rel => exact ⟨k + 1, by omega, by go_num, by rw [HX.out, ← HXX.out], trivial⟩
    case measure => simp [intOf]; omega
  ·obtain rfl : k = 8 := by omega
   go_wp2
   go_ret
   exact ⟨rfl, rfl⟩
end Go.Proofs.YtlcglapcmdpkfaaGreat
