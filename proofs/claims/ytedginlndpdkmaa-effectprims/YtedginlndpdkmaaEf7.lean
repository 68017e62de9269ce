/- The document on effects; what primitives there are: the law's walk. -/
import Derived.Test.YtedginlndpdkmaaEf6
namespace Go.Proofs.Ytedginlndpdkmaa
open Go.RowKit
set_option linter.unusedSimpArgs false
set_option linter.unusedVariables false
def inB (n : Int) : Bool := decide (0 ≤ n ∧ n ≤ 16)
set_option maxRecDepth 100000 in
theorem in_any (n : Int) (w : World) : Calls Try.prog 12 #[.int .i64 n] w fun e w' => e = .returned (.bool (inB n)) ∧ w' = w := by
  go_enter Try.func12, Try.ntmps12
  go_wp2
  all_goals
    go_ret
    refine ⟨congrArg Ending.returned (congrArg Value.bool ?_), rfl⟩
    first
      | (show false = inB n; symm; apply decide_eq_false; omega)
      | (show decide (n ≤ 16) = inB n; unfold inB; rw [decide_eq_decide]; omega)
theorem bd_in (a b : Int) : bdB a b = (inB a && inB b) := by
  unfold bdB inB
  rw [← Bool.decide_and, decide_eq_decide]
  omega
theorem fin_eff {fn : Func} {t u : Tmp} (h : fn.results = #[.cell u 23, .tmp t]) (tmps : Array Value) (w : World) (o1 o2 : Obj) (x y : Int) (ha : tmps.getD u undef = .pointer (some ⟨w.heap.size + 1 + 1, 0, none⟩)) :
    (results fn tmps).run Try.prog (((w.alloc o1).alloc o2).alloc (.cells #[.int .i64 x, .int .i64 y] 23)) = .ok (.tuple #[.agg #[.int .i64 x, .int .i64 y], tmps.getD t undef]) (((w.alloc o1).alloc o2).alloc (.cells #[.int .i64 x, .int .i64 y] 23)) := by
  have hq : TwC (((w.alloc o1).alloc o2).alloc (.cells #[.int .i64 x, .int .i64 y] 23)) (w.heap.size + 1 + 1) x y := alloc_at _ _ _ (by simp)
  obtain ⟨q0, q1, _, _⟩ := hq.cells
  exact results_eff h _ _ _ q0 q1 ha
theorem ef_eq {x y k x' y' k' : Int} (h1 : x = x') (h2 : y = y') (h3 : k = k') : Ending.returned (.tuple #[.agg #[.int .i64 x, .int .i64 y], .int .i64 k]) = Ending.returned (.tuple #[.agg #[.int .i64 x', .int .i64 y'], .int .i64 k']) := by
  subst h1 h2 h3
  rfl
set_option maxRecDepth 100000 in
set_option maxHeartbeats 2000000 in
theorem rthen_any (a b c d : Int) (w : World) : Calls Try.prog 9 #[efV a b, efV c d] w fun e w' => e = .returned (.tuple #[efV (thR a b c d).1 (thR a b c d).2.1, .int .i64 (thR a b c d).2.2]) ∧ Only (fun _ => False) w w' := by
  have HI : Hid (∀ n w1, Calls Try.prog 12 #[.int .i64 n] w1 fun e w' => e = .returned (.bool (inB n)) ∧ w' = w1) := in_any
  have HR0 : Hid ((inB a && inB b && inB c && inB d) = false → thR a b c d = (0, 0, 2)) := fun h => by
    unfold thR
    rw [bd_in, bd_in, ← Bool.and_assoc, h]
    rfl
  have HR1 : Hid ((inB a && inB b && inB c && inB d) = true → thR a b c d = if bdB (a + max 0 (c - b)) (d + max 0 (b - c)) then (a + max 0 (c - b), d + max 0 (b - c), 0) else (0, 0, 11)) := fun h => by
    unfold thR
    rw [bd_in a b, bd_in c d, ← Bool.and_assoc, h]
    rfl
  unfold efV
  go_enter Try.func9, Try.ntmps9
  go_wp2_with fail
  refine (show Calls Try.prog 12 _ _ _ from HI.out _ _).mono ?_
  rintro e w0 ⟨rfl, rfl⟩
  cases h0 : inB a with
  | false =>
    go_wp2_with fail
    rw [HR0.out (by simp [h0])]
    have hq : TwC (((w.alloc (.cells #[.int .i64 a, .int .i64 b] 23)).alloc (.cells #[.int .i64 c, .int .i64 d] 23)).alloc (.cells #[.int .i64 0, .int .i64 0] 23)) (w.heap.size + 1 + 1) 0 0 := alloc_at _ _ _ (by simp)
    obtain ⟨q0, q1, _, _⟩ := hq.cells
    refine bodyPost_ret (results_eff rfl _ _ (w.heap.size + 1 + 1) q0 q1 rfl) rfl ?_
    exact ⟨rfl, (((Only.refl _ w).alloc _).alloc _).alloc _⟩
  | true =>
    go_wp2_with fail
    refine (show Calls Try.prog 12 _ _ _ from HI.out _ _).mono ?_
    rintro e w1 ⟨rfl, rfl⟩
    cases h1 : inB b with
    | false =>
      go_wp2_with fail
      rw [HR0.out (by simp [h0, h1])]
      have hq : TwC (((w.alloc (.cells #[.int .i64 a, .int .i64 b] 23)).alloc (.cells #[.int .i64 c, .int .i64 d] 23)).alloc (.cells #[.int .i64 0, .int .i64 0] 23)) (w.heap.size + 1 + 1) 0 0 := alloc_at _ _ _ (by simp)
      obtain ⟨q0, q1, _, _⟩ := hq.cells
      refine bodyPost_ret (results_eff rfl _ _ (w.heap.size + 1 + 1) q0 q1 rfl) rfl ?_
      exact ⟨rfl, (((Only.refl _ w).alloc _).alloc _).alloc _⟩
    | true =>
      go_wp2_with fail
      refine (show Calls Try.prog 12 _ _ _ from HI.out _ _).mono ?_
      rintro e w2 ⟨rfl, rfl⟩
      cases h2 : inB c with
      | false =>
        go_wp2_with fail
        rw [HR0.out (by simp [h0, h1, h2])]
        have hq : TwC (((w.alloc (.cells #[.int .i64 a, .int .i64 b] 23)).alloc (.cells #[.int .i64 c, .int .i64 d] 23)).alloc (.cells #[.int .i64 0, .int .i64 0] 23)) (w.heap.size + 1 + 1) 0 0 := alloc_at _ _ _ (by simp)
        obtain ⟨q0, q1, _, _⟩ := hq.cells
        refine bodyPost_ret (results_eff rfl _ _ (w.heap.size + 1 + 1) q0 q1 rfl) rfl ?_
        exact ⟨rfl, (((Only.refl _ w).alloc _).alloc _).alloc _⟩
      | true =>
        go_wp2_with fail
        refine (show Calls Try.prog 12 _ _ _ from HI.out _ _).mono ?_
        rintro e w3 ⟨rfl, rfl⟩
        cases h3 : inB d with
        | false =>
          go_wp2_with fail
          rw [HR0.out (by simp [h0, h1, h2, h3])]
          have hq : TwC (((w.alloc (.cells #[.int .i64 a, .int .i64 b] 23)).alloc (.cells #[.int .i64 c, .int .i64 d] 23)).alloc (.cells #[.int .i64 0, .int .i64 0] 23)) (w.heap.size + 1 + 1) 0 0 := alloc_at _ _ _ (by simp)
          obtain ⟨q0, q1, _, _⟩ := hq.cells
          refine bodyPost_ret (results_eff rfl _ _ (w.heap.size + 1 + 1) q0 q1 rfl) rfl ?_
          exact ⟨rfl, (((Only.refl _ w).alloc _).alloc _).alloc _⟩
        | true =>
          have hr := HR1.out (by simp [h0, h1, h2, h3])
          have g0 : 0 ≤ a ∧ a ≤ 16 := of_decide_eq_true h0
          have g1 : 0 ≤ b ∧ b ≤ 16 := of_decide_eq_true h1
          have g2 : 0 ≤ c ∧ c ≤ 16 := of_decide_eq_true h2
          have g3 : 0 ≤ d ∧ d ≤ 16 := of_decide_eq_true h3
          obtain ⟨g0a, g0b⟩ := g0
          obtain ⟨g1a, g1b⟩ := g1
          obtain ⟨g2a, g2b⟩ := g2
          obtain ⟨g3a, g3b⟩ := g3
          have HR : Hid _ := hr
          clear hr h0 h1 h2 h3
          go_wp2_with fail
          all_goals
            refine bodyPost_ret (fin_eff rfl _ w _ _ _ _ rfl) rfl ?_
            refine ⟨?_, (((Only.refl _ w).alloc _).alloc _).alloc _⟩
            rw [HR.out]
            first
              | (rw [if_pos (show bdB (a + max 0 (c - b)) (d + max 0 (b - c)) = true from decide_eq_true (by omega))]; exact ef_eq (show _ = a + max 0 (c - b) by omega) (show _ = d + max 0 (b - c) by omega) rfl)
              | (rw [if_neg (show ¬ bdB (a + max 0 (c - b)) (d + max 0 (b - c)) = true from fun h => by have := of_decide_eq_true h; omega)]; exact ef_eq rfl rfl rfl)
set_option maxRecDepth 100000 in
set_option maxHeartbeats 2000000 in
theorem prims_walk (s : ByteArray) (a b c d : Int) (w : World) : Calls Try.prog 3 #[.string s, efV a b, efV c d] w fun e w' => e = .returned (.bool true) ∧ Below w.heap.size w w' := by
  have HA : Hid (∀ w1, Calls Try.prog 5 #[] w1 fun e w' => e = .returned (.bool true) ∧ Only (fun _ => False) w1 w') := awake_any
  obtain ⟨i, o, k, hr, _⟩ := thR_cases a b c d
  have HT : Hid (∀ w1, Calls Try.prog 8 #[.agg #[.int .i64 a, .int .i64 b], .agg #[.int .i64 c, .int .i64 d]] w1 fun e w' => e = .returned (.tuple #[.agg #[.int .i64 i, .int .i64 o], .int .i64 k]) ∧ Only (fun _ => False) w1 w') := fun w1 => by
    have := then_any a b c d w1
    rw [hr] at this
    exact this
  have HU : Hid (∀ w1, Calls Try.prog 9 #[.agg #[.int .i64 a, .int .i64 b], .agg #[.int .i64 c, .int .i64 d]] w1 fun e w' => e = .returned (.tuple #[.agg #[.int .i64 i, .int .i64 o], .int .i64 k]) ∧ Only (fun _ => False) w1 w') := fun w1 => by
    have := rthen_any a b c d w1
    rw [hr] at this
    exact this
  clear hr
  obtain ⟨x, y, z, hp⟩ : ∃ x y z, pmR s = (x, y, z) := ⟨_, _, _, rfl⟩
  have HP : Hid (∀ w1, Calls Try.prog 6 #[.string s] w1 fun e w' => e = .returned (.tuple #[.agg #[.int .i64 x, .int .i64 y], .bool z]) ∧ Only (fun _ => False) w1 w') := fun w1 => by
    have := prim_any s w1
    rw [hp] at this
    exact this
  have HQ : Hid (∀ w1, Calls Try.prog 7 #[.string s] w1 fun e w' => e = .returned (.tuple #[.int .i64 x, .int .i64 y, .bool z]) ∧ Only (fun _ => False) w1 w') := fun w1 => by
    have := rprim_any s w1
    rw [hp] at this
    exact this
  clear hp
  suffices H : Calls Try.prog 3 #[.string s, efV a b, efV c d] w fun e w' => e = .returned (.bool true) ∧ Only (fun _ => False) w w' from
    H.mono fun e w' h => ⟨h.1, h.2.os, h.2.tape, h.2.output, h.2.size, fun k hk => h.2.block k hk (fun g => g)⟩
  unfold efV
  obtain ⟨N, hN⟩ : ∃ N, N = w.heap.size := ⟨_, rfl⟩
  go_enter Try.func3, Try.ntmps3
  go_wp2_with fail
  refine (show Calls Try.prog 5 _ _ _ from HA.out _).mono ?_
  rintro e0 w1 ⟨rfl, o1⟩
  have O1 : Hid (Only (fun _ => False) w w1) := ((((Only.refl (fun _ => False) w).alloc _).alloc _)).trans o1 (fun _ _ g => g)
  have B1 : Hid (Bx w1 [(N, a, b), (N + 1, c, d)]) := by
    have := (((Bx.nil w).new a b).new c d).on o1
    simp only [List.nil_append, List.cons_append, World.size_alloc, ← hN] at this
    exact this
  rw [← hN]
  clear HA o1 hN
  go_wp2_with fail
  refine (show Calls Try.prog 6 _ _ _ from HP.out _).mono ?_
  rintro e0 w2 ⟨rfl, o2⟩
  have O2 : Hid (Only (fun _ => False) w w2) := O1.out.trans o2 (fun _ _ g => g)
  have B2 : Hid (Bx w2 [(N, a, b), (N + 1, c, d)]) := B1.out.on o2
  clear HP O1 B1 o2
  go_wp2_with fail
  refine (show Calls Try.prog 7 _ _ _ from HQ.out _).mono ?_
  rintro e0 w3 ⟨rfl, o3⟩
  obtain ⟨P, hP⟩ : ∃ P, P = w2.heap.size := ⟨_, rfl⟩
  have O3 : Hid (Only (fun _ => False) w w3) := (O2.out.alloc _).trans o3 (fun _ _ g => g)
  have B3 : Hid (Bx w3 [(N, a, b), (N + 1, c, d), (P, x, y)]) := by
    have := (B2.out.new x y).on o3
    rw [← hP] at this
    exact this
  rw [← hP]
  clear HQ O2 B2 o3 hP
  obtain ⟨a0, a1, _, _⟩ := (B3.out (N, a, b) (by simp)).cells
  obtain ⟨b0, b1, _, _⟩ := (B3.out (N + 1, c, d) (by simp)).cells
  dsimp only at a0 a1 b0 b1
  go_wp2_with fail
  refine (show Calls Try.prog 8 _ _ _ from HT.out _).mono ?_
  rintro e0 w4 ⟨rfl, o4⟩
  have O4 : Hid (Only (fun _ => False) w w4) := O3.out.trans o4 (fun _ _ g => g)
  have B4 : Hid (Bx w4 [(N, a, b), (N + 1, c, d), (P, x, y)]) := B3.out.on o4
  clear HT O3 B3 o4 a0 a1 b0 b1
  have B4n := B4.out.new i o
  obtain ⟨a0, a1, _, _⟩ := (B4n (N, a, b) (by simp)).cells
  obtain ⟨b0, b1, _, _⟩ := (B4n (N + 1, c, d) (by simp)).cells
  clear B4n
  dsimp only at a0 a1 b0 b1
  go_wp2_with fail
  refine (show Calls Try.prog 9 _ _ _ from HU.out _).mono ?_
  rintro e0 w5 ⟨rfl, o5⟩
  obtain ⟨Q, hQ⟩ : ∃ P, P = w4.heap.size := ⟨_, rfl⟩
  have O5 : Hid (Only (fun _ => False) w w5) := (O4.out.alloc _).trans o5 (fun _ _ g => g)
  have B5 : Hid (Bx w5 [(N, a, b), (N + 1, c, d), (P, x, y), (Q, i, o)]) := by
    have := (B4.out.new i o).on o5
    rw [← hQ] at this
    exact this
  rw [← hQ]
  clear HU O4 B4 o5 hQ a0 a1 b0 b1
  have B5n := B5.out.new i o
  obtain ⟨p0, p1, _, _⟩ := (B5n (P, x, y) (by simp)).cells
  obtain ⟨q0, q1, _, _⟩ := (B5n (Q, i, o) (by simp)).cells
  clear B5n
  dsimp only at p0 p1 q0 q1
  cases z
  · go_wp2
    all_goals
      go_ret
      exact ⟨rfl, O5.out.alloc _⟩
  · go_wp2
    all_goals
      go_ret
      exact ⟨rfl, O5.out.alloc _⟩
end Go.Proofs.Ytedginlndpdkmaa
