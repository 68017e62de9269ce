/- CellPlays: the walk. -/
import Derived.Test.YtedoaiapjjocdaaC2
import Derived.Below
namespace Go.Proofs.Ytedoaiapjjocdaa
open Go.RowKit
set_option linter.unusedSimpArgs false
set_option linter.unusedVariables false

theorem two (p : Prop) [Decidable p] (a b c d : Value) : (if p then Value.tuple #[a, b] else Value.tuple #[c, d]) = Value.tuple #[if p then a else c, if p then b else d] := by split <;> rfl
theorem if_int (p : Prop) [Decidable p] (k : IntKind) (a b : Int) : (if p then Value.int k a else Value.int k b) = Value.int k (if p then a else b) := by split <;> rfl
theorem if_bool (p : Prop) [Decidable p] (a b : Bool) : (if p then Value.bool a else Value.bool b) = Value.bool (if p then a else b) := by split <;> rfl

set_option maxHeartbeats 400000 in
theorem plays_any (n a c : Int) (w : World) (hn : -9223372036854775808 ≤ n ∧ n ≤ 9223372036854775807) (ha : U a) (hc : U c) :
    Calls Try.prog 3 #[.int .i64 n, .int .u64 a, .int .u64 c] w fun e w' => e = .returned (.bool true) ∧ w' = w := by
  have h0 := awake_any w
  have h1 := fix_any n w hn
  have h2 := rfix_any n w hn
  have h3 := ptr_any a w ha
  have h4 := rptr_any a w ha
  have h5 := kind_any c w hc
  have h6 := rkind_any c w hc
  have h7 := num_any c w hc
  have h8 := rnum_any c w hc
  have h9 := addr_any c w hc
  have h10 := raddr_any c w hc
  have h11 := bool_any c w hc
  have h12 := rbool_any c w hc
  simp only [two, if_int, if_bool] at h1 h2 h3 h4 h7 h8 h9 h10 h11 h12
  clear hn ha hc
  generalize (if fit n then 4 * n % 18446744073709551616 else 0) = x1 at *
  generalize (if fit n then (0 : Int) else 18) = e1 at *
  generalize (if a < 4611686018427387904 then 4 * a + 1 else 0) = x2 at *
  generalize (if a < 4611686018427387904 then (0 : Int) else 18) = e2 at *
  generalize (if kindN c = 1 then wd c / 4 else 0) = x3 at *
  generalize (if kindN c = 1 then (0 : Int) else 17) = e3 at *
  generalize (if kindN c = 2 then c / 4 else 0) = x4 at *
  generalize (if kindN c = 2 then (0 : Int) else 17) = e4 at *
  generalize (if kindN c = 3 then (c == 6) else false) = x5 at *
  generalize (if kindN c = 3 then (0 : Int) else 17) = e5 at *
  generalize kindN c = k at *
  go_enter Try.func3, Try.ntmps3
  go_wp2_with fail
  refine h0.mono ?_
  rintro e w1 ⟨rfl, rfl⟩
  go_wp2_with fail
  refine h1.mono ?_
  rintro e w1 ⟨rfl, rfl⟩
  go_wp2_with fail
  refine h2.mono ?_
  rintro e w1 ⟨rfl, rfl⟩
  go_wp2_with fail
  refine h3.mono ?_
  rintro e w1 ⟨rfl, rfl⟩
  go_wp2_with fail
  refine h4.mono ?_
  rintro e w1 ⟨rfl, rfl⟩
  go_wp2_with fail
  refine h5.mono ?_
  rintro e w1 ⟨rfl, rfl⟩
  go_wp2_with fail
  refine h6.mono ?_
  rintro e w1 ⟨rfl, rfl⟩
  go_wp2_with fail
  refine h7.mono ?_
  rintro e w1 ⟨rfl, rfl⟩
  go_wp2_with fail
  refine h8.mono ?_
  rintro e w1 ⟨rfl, rfl⟩
  go_wp2_with fail
  refine h9.mono ?_
  rintro e w1 ⟨rfl, rfl⟩
  go_wp2_with fail
  refine h10.mono ?_
  rintro e w1 ⟨rfl, rfl⟩
  go_wp2_with fail
  refine h11.mono ?_
  rintro e w1 ⟨rfl, rfl⟩
  go_wp2_with fail
  refine h12.mono ?_
  rintro e w1 ⟨rfl, rfl⟩
  go_wp2
  go_ret
  exact ⟨rfl, rfl⟩
end Go.Proofs.Ytedoaiapjjocdaa
