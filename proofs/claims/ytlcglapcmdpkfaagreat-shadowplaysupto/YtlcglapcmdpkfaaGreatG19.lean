import Derived.Test.YtlcglapcmdpkfaaGreatG12
import Derived.Test.YtlcglapcmdpkfaaGreatE2
namespace Go.Proofs.YtlcglapcmdpkfaaGreat
open Go.RowKit
set_option linter.unusedSimpArgs false
set_option linter.unusedVariables false
def tkOk (N : Nat) (f : Nat → Bool) (n : Nat) : Bool := decide (2 ≤ n ∧ n < N) && !f n
set_option maxRecDepth 100000 in
set_option maxHeartbeats 1000000 in
theorem take4_any (q dn g N n : Nat) (f : Nat → Bool) (w : World) (hq : w.cell? ⟨q, 0, none⟩ = some (.int .i64 dn)) (hdn : dn ≤ 8192) (hN : dn / 4 = N) (hf : FBlk w g N f) (hn : n < 18446744073709551616) :
  Calls Tryz.prog 99 #[.pointer (some ⟨q, 0, none⟩), .slice (some ⟨g, 0, none⟩) N N, .int .u64 (n : Nat)] w fun e w' => e = .returned (.bool (tkOk N f n)) ∧ Hid ((tkOk N f n = false → w' = w) ∧ (tkOk N f n = true → FBlk w' g N (fun j => f j || j == n) ∧ Only (fun b => b = g) w w')) := by
 have HC := rcount_any q dn w hdn hq
 rw [hN] at HC
 have hN9 : N ≤ 2048 := by omega
 have hu : IntKind.u64.wrap (N : Int) = (N : Int) := by rw [IntKind.wrap_u64]; omega
 by_cases h2 : n < 2
 ·have e : tkOk N f n = false := by unfold tkOk; rw [decide_eq_false (by omega)]; rfl
  rw [e]
  have i1 : (n : Int) < 2 := by omega
  clear hf HC hq
  go_enter Tryz.func99, Tryz.ntmps99
  go_wp2
  go_ret
  exact ⟨rfl, fun _ => rfl, (fun e => by cases e)⟩
 ·have i1 : ¬ (n : Int) < 2 := by omega
  have d1 : decide ((n : Int) < 2) = false := by simpa using i1
  by_cases h3 : n < N
  ·have i2 : ¬ (N : Int) ≤ (n : Int) := by omega
   have d2 : decide ((N : Int) ≤ (n : Int)) = false := by simpa using i2
   have e : tkOk N f n = !f n := by unfold tkOk; rw [decide_eq_true (by omega)]; rfl
   rw [e]
   have hc := hf.cell n h3
   have hz := hf.frozen n
   have hw : wrap64 (n : Int) = (n : Int) := by unfold wrap64; omega
   have hw2 : IntKind.i64.wrap (n : Int) = (n : Int) := by rw [IntKind.wrap_i64]; omega
   have j0 : (0 : Int) ≤ (n : Int) := by omega
   have j1 : (n : Int) < (N : Int) := by omega
   have HS : Hid (FBlk (w.setCell ⟨g, n, none⟩ (.bool true)) g N (fun j => f j || j == n) ∧ Only (fun b => b = g) w (w.setCell ⟨g, n, none⟩ (.bool true))) := ⟨hf.set n, (Only.refl _ _).setCell _ _ (fun _ => rfl)⟩
   clear hf e hq
   cases hfn : f n
   ·rw [hfn] at hc
    clear hfn
    go_enter Tryz.func99, Tryz.ntmps99
    go_wp2_with fail
    refine HC.mono ?_
    rintro e w1 ⟨rfl, rfl⟩
    clear HC
    go_wp2
    go_ret
    exact ⟨rfl, (fun e => by cases e), fun _ => HS.out⟩
   ·rw [hfn] at hc
    clear hfn
    go_enter Tryz.func99, Tryz.ntmps99
    go_wp2_with fail
    refine HC.mono ?_
    rintro e w1 ⟨rfl, rfl⟩
    clear HC
    go_wp2
    go_ret
    exact ⟨rfl, fun _ => rfl, (fun e => by cases e)⟩
  ·have i2 : (N : Int) ≤ (n : Int) := by omega
   have e : tkOk N f n = false := by unfold tkOk; rw [decide_eq_false (by omega)]; rfl
   rw [e]
   clear hf hq
   go_enter Tryz.func99, Tryz.ntmps99
   go_wp2_with fail
   refine HC.mono ?_
   rintro e w1 ⟨rfl, rfl⟩
   clear HC
   go_wp2
   go_ret
   exact ⟨rfl, fun _ => rfl, (fun e => by cases e)⟩
end Go.Proofs.YtlcglapcmdpkfaaGreat
