/- One effect behind another: the law's walk. -/
import Derived.Test.YtedginlndpdkmaaEf5
namespace Go.Proofs.Ytedginlndpdkmaa
open Go.RowKit
set_option linter.unusedSimpArgs false
set_option linter.unusedVariables false
set_option maxRecDepth 100000 in
theorem awake_any (w : World) : Calls Try.prog 5 #[] w fun e w' => e = .returned (.bool true) ∧ Only (fun _ => False) w w' := by
  have HP : Hid (∀ w1, Calls Try.prog 6 #[.string ⟨#[100, 117, 112]⟩] w1 fun e w' => e = .returned (.tuple #[.agg #[.int .i64 1, .int .i64 2], .bool true]) ∧ Only (fun _ => False) w1 w') := fun w1 => by
    have := prim_any ⟨#[100, 117, 112]⟩ w1
    rwa [show pmR ⟨#[100, 117, 112]⟩ = (1, 2, true) from by kernel_rfl] at this
  go_enter Try.func5, Try.ntmps5
  go_wp2_with fail
  refine (show Calls Try.prog 6 _ _ _ from HP.out _).mono ?_
  rintro e w1 ⟨rfl, o1⟩
  have O1 : Hid (Only (fun _ => False) w w1) := o1
  clear HP o1
  go_wp2
  all_goals
    go_ret
    refine ⟨rfl, ?_⟩
    exact O1.out.alloc _
theorem thR_cases (a b c d : Int) : ∃ i o k, thR a b c d = (i, o, k) ∧ ((k = 0 ∧ (0 ≤ a ∧ a ≤ 16 ∧ 0 ≤ b ∧ b ≤ 16) ∧ (0 ≤ c ∧ c ≤ 16 ∧ 0 ≤ d ∧ d ≤ 16) ∧ (0 ≤ i ∧ i ≤ 16 ∧ 0 ≤ o ∧ o ≤ 16) ∧ i = a + max 0 (c - b) ∧ o = d + max 0 (b - c)) ∨ k = 2 ∨ k = 11) := by
  unfold thR
  cases h1 : bdB a b with
  | false => exact ⟨_, _, _, rfl, .inr (.inl rfl)⟩
  | true =>
    cases h2 : bdB c d with
    | false => exact ⟨_, _, _, rfl, .inr (.inl rfl)⟩
    | true =>
      cases h3 : bdB (a + max 0 (c - b)) (d + max 0 (b - c)) with
      | false => exact ⟨0, 0, 11, by simp, .inr (.inr rfl)⟩
      | true => exact ⟨_, _, _, by simp, .inl ⟨rfl, of_decide_eq_true h1, of_decide_eq_true h2, of_decide_eq_true h3, rfl, rfl⟩⟩
def Th (a b c d i o k : Int) : Prop := thR a b c d = (i, o, k) ∧ ((k = 0 ∧ (0 ≤ a ∧ a ≤ 16 ∧ 0 ≤ b ∧ b ≤ 16) ∧ (0 ≤ c ∧ c ≤ 16 ∧ 0 ≤ d ∧ d ≤ 16) ∧ (0 ≤ i ∧ i ≤ 16 ∧ 0 ≤ o ∧ o ≤ 16) ∧ i = a + max 0 (c - b) ∧ o = d + max 0 (b - c)) ∨ k = 2 ∨ k = 11)
theorem thR_nil {a b : Int} (h : 0 ≤ a ∧ a ≤ 16 ∧ 0 ≤ b ∧ b ≤ 16) : thR a b 0 0 = (a, b, 0) := by
  have e1 : bdB a b = true := decide_eq_true h
  have e2 : bdB 0 0 = true := rfl
  unfold thR
  rw [e1, e2, show a + max 0 (0 - b) = a by omega, show (0 : Int) + max 0 (b - 0) = b by omega, e1]
  rfl
/-- effects in blocks -/
def Bx (w : World) (l : List (Nat × Int × Int)) : Prop := ∀ x ∈ l, TwC w x.1 x.2.1 x.2.2
theorem Bx.on {w w1 : World} {l : List (Nat × Int × Int)} (h : Bx w l) (o : Only (fun _ => False) w w1) : Bx w1 l := fun x hx => o.at (h x hx)
theorem Bx.new {w : World} {l : List (Nat × Int × Int)} (h : Bx w l) (x y : Int) : Bx (w.alloc (.cells #[.int .i64 x, .int .i64 y] 23)) (l ++ [(w.heap.size, x, y)]) := fun z hz => by
  rw [List.mem_append] at hz
  rcases hz with hz | hz
  · exact alloc_old (h z hz)
  · simp only [List.mem_singleton] at hz
    subst hz
    exact alloc_at _ _ _ rfl
theorem Bx.nil (w : World) : Bx w [] := fun x hx => by simp at hx
set_option maxRecDepth 100000 in
set_option maxHeartbeats 2000000 in
theorem then_walk (a b c d e f : Int) (w : World) : Calls Try.prog 4 #[efV a b, efV c d, efV e f] w fun e w' => e = .returned (.bool true) ∧ Below w.heap.size w w' := by
  have HA : Hid (∀ w1, Calls Try.prog 5 #[] w1 fun e w' => e = .returned (.bool true) ∧ Only (fun _ => False) w1 w') := awake_any
  have HT : Hid (∀ a b c d w1, Calls Try.prog 8 #[.agg #[.int .i64 a, .int .i64 b], .agg #[.int .i64 c, .int .i64 d]] w1 fun e w' => ∃ i o k, e = .returned (.tuple #[.agg #[.int .i64 i, .int .i64 o], .int .i64 k]) ∧ Hid (Th a b c d i o k) ∧ Hid (Only (fun _ => False) w1 w')) := fun a b c d w1 => (then_any a b c d w1).mono fun e w' h => by
    obtain ⟨i, o, k, h1, h2⟩ := thR_cases a b c d
    rw [h1] at h
    exact ⟨i, o, k, h.1, ⟨h1, h2⟩, h.2⟩
  suffices H : Calls Try.prog 4 #[efV a b, efV c d, efV e f] w fun e w' => e = .returned (.bool true) ∧ Only (fun _ => False) w w' from
    H.mono fun e w' h => ⟨h.1, h.2.os, h.2.tape, h.2.output, h.2.size, fun k hk => h.2.block k hk (fun g => g)⟩
  unfold efV
  obtain ⟨N, hN⟩ : ∃ N, N = w.heap.size := ⟨_, rfl⟩
  go_enter Try.func4, Try.ntmps4
  go_wp2_with fail
  refine (show Calls Try.prog 5 _ _ _ from HA.out _).mono ?_
  rintro e0 w1 ⟨rfl, o1⟩
  have O1 : Hid (Only (fun _ => False) w w1) := (((((Only.refl (fun _ => False) w).alloc _).alloc _).alloc _)).trans o1 (fun _ _ g => g)
  have B1 : Hid (Bx w1 [(N, a, b), (N + 1, c, d), (N + 1 + 1, e, f)]) := by
    have := ((((Bx.nil w).new a b).new c d).new e f).on o1
    simp only [List.nil_append, List.cons_append, World.size_alloc, ← hN] at this
    exact this
  rw [← hN]
  clear HA o1 hN
  obtain ⟨a0, a1, _, _⟩ := (B1.out (N, a, b) (by simp)).cells
  obtain ⟨b0, b1, _, _⟩ := (B1.out (N + 1, c, d) (by simp)).cells
  obtain ⟨c0, c1, _, _⟩ := (B1.out (N + 1 + 1, e, f) (by simp)).cells
  go_wp2_with fail
  refine (show Calls Try.prog 8 _ _ _ from HT.out _ _ _ _ _).mono ?_
  rintro e1 w2 ⟨i, o, k, rfl, T1, o2⟩
  have O2 : Hid (Only (fun _ => False) w w2) := O1.out.trans o2.out (fun _ _ g => g)
  have B2 : Hid (Bx w2 [(N, a, b), (N + 1, c, d), (N + 1 + 1, e, f)]) := B1.out.on o2.out
  clear a0 a1 b0 b1 c0 c1 O1 B1 o2
  have B2n := B2.out.new i o
  obtain ⟨a0, a1, _, _⟩ := (B2n (N, a, b) (by simp)).cells
  obtain ⟨b0, b1, _, _⟩ := (B2n (N + 1, c, d) (by simp)).cells
  obtain ⟨c0, c1, _, _⟩ := (B2n (N + 1 + 1, e, f) (by simp)).cells
  clear B2n
  dsimp only at a0 a1 b0 b1 c0 c1
  go_wp2_with fail
  refine (show Calls Try.prog 8 _ _ _ from HT.out _ _ _ _ _).mono ?_
  rintro e1 w3 ⟨i2, p2, k2, rfl, T2, o3⟩
  obtain ⟨P, hP⟩ : ∃ P, P = w2.heap.size := ⟨_, rfl⟩
  have O3 : Hid (Only (fun _ => False) w w3) := (O2.out.alloc _).trans o3.out (fun _ _ g => g)
  have B3 : Hid (Bx w3 [(N, a, b), (N + 1, c, d), (N + 1 + 1, e, f), (P, i, o)]) := by
    have := (B2.out.new i o).on o3.out
    rw [← hP] at this
    exact this
  rw [← hP]
  clear a0 a1 b0 b1 c0 c1 O2 B2 o3 hP
  have B3n := B3.out.new i2 p2
  obtain ⟨a0, a1, _, _⟩ := (B3n (N, a, b) (by simp)).cells
  obtain ⟨b0, b1, _, _⟩ := (B3n (N + 1, c, d) (by simp)).cells
  obtain ⟨c0, c1, _, _⟩ := (B3n (N + 1 + 1, e, f) (by simp)).cells
  obtain ⟨p0, p1, _, _⟩ := (B3n (P, i, o) (by simp)).cells
  clear B3n
  dsimp only at a0 a1 b0 b1 c0 c1 p0 p1
  rcases T1.out.2 with ⟨rfl, ga, gb, gi, ei, eo⟩ | hk
  · obtain ⟨ga0, ga1, ga2, ga3⟩ := ga
    obtain ⟨gb0, gb1, gb2, gb3⟩ := gb
    obtain ⟨gi0, gi1, gi2, gi3⟩ := gi
    have hd : o - i = b - a + d - c := by omega
    have HE : Hid (i = a + max 0 (c - b) ∧ o = d + max 0 (b - c)) := ⟨ei, eo⟩
    clear ei eo
    rcases T2.out.2 with ⟨rfl, gc, gd, gj, ej, ep⟩ | hk2
    · have HF : Hid ((0 ≤ e ∧ e ≤ 16 ∧ 0 ≤ f ∧ f ≤ 16) ∧ (0 ≤ i2 ∧ i2 ≤ 16 ∧ 0 ≤ p2 ∧ p2 ≤ 16) ∧ i2 = c + max 0 (e - d) ∧ p2 = f + max 0 (d - e)) := ⟨gd, gj, ej, ep⟩
      clear gc gd gj ej ep
      go_wp2_with fail
      refine (show Calls Try.prog 8 _ _ _ from HT.out _ _ _ _ _).mono ?_
      rintro e1 w4 ⟨i3, p3, k3, rfl, T3, o4⟩
      obtain ⟨Q, hQ⟩ : ∃ P, P = w3.heap.size := ⟨_, rfl⟩
      have O4 : Hid (Only (fun _ => False) w w4) := (O3.out.alloc _).trans o4.out (fun _ _ g => g)
      have B4 : Hid (Bx w4 [(N, a, b), (N + 1, c, d), (N + 1 + 1, e, f), (P, i, o), (Q, i2, p2)]) := by
        have := (B3.out.new i2 p2).on o4.out
        rw [← hQ] at this
        exact this
      rw [← hQ]
      clear a0 a1 b0 b1 c0 c1 p0 p1 O3 B3 o4 hQ
      have B4n := B4.out.new i3 p3
      obtain ⟨a0, a1, _, _⟩ := (B4n (N, a, b) (by simp)).cells
      obtain ⟨q0, q1, _, _⟩ := (B4n (Q, i2, p2) (by simp)).cells
      clear B4n
      dsimp only at a0 a1 q0 q1
      go_wp2_with fail
      refine (show Calls Try.prog 8 _ _ _ from HT.out _ _ _ _ _).mono ?_
      rintro e1 w5 ⟨i4, p4, k4, rfl, T4, o5⟩
      obtain ⟨R, hR⟩ : ∃ P, P = w4.heap.size := ⟨_, rfl⟩
      have O5 : Hid (Only (fun _ => False) w w5) := (O4.out.alloc _).trans o5.out (fun _ _ g => g)
      have B5 : Hid (Bx w5 [(N, a, b), (N + 1, c, d), (N + 1 + 1, e, f), (P, i, o), (Q, i2, p2), (R, i3, p3)]) := by
        have := (B4.out.new i3 p3).on o5.out
        rw [← hR] at this
        exact this
      rw [← hR]
      clear a0 a1 q0 q1 O4 B4 o5 hR
      have B5n := B5.out.new i4 p4
      obtain ⟨a0, a1, _, _⟩ := (B5n (N, a, b) (by simp)).cells
      clear B5n
      dsimp only at a0 a1
      go_wp2_with fail
      refine (show Calls Try.prog 8 _ _ _ from HT.out _ _ _ _ _).mono ?_
      rintro e1 w6 ⟨i5, p5, k5, rfl, T5, o6⟩
      obtain ⟨S, hS⟩ : ∃ P, P = w5.heap.size := ⟨_, rfl⟩
      have O6 : Hid (Only (fun _ => False) w w6) := (O5.out.alloc _).trans o6.out (fun _ _ g => g)
      have B6 : Hid (Bx w6 [(N, a, b), (N + 1, c, d), (N + 1 + 1, e, f), (P, i, o), (Q, i2, p2), (R, i3, p3), (S, i4, p4)]) := by
        have := (B5.out.new i4 p4).on o6.out
        rw [← hS] at this
        exact this
      rw [← hS]
      clear a0 a1 O5 B5 o6 hS
      have h5 := T5.out.1
      rw [thR_nil ⟨ga0, ga1, ga2, ga3⟩] at h5
      simp only [Prod.mk.injEq] at h5
      obtain ⟨rfl, rfl, rfl⟩ := h5
      have B6n := B6.out.new a b
      obtain ⟨a0, a1, _, _⟩ := (B6n (N, a, b) (by simp)).cells
      obtain ⟨r0, r1, _, _⟩ := (B6n (R, i3, p3) (by simp)).cells
      obtain ⟨s0, s1, _, _⟩ := (B6n (S, i4, p4) (by simp)).cells
      clear B6n
      dsimp only at a0 a1 r0 r1 s0 s1
      have hx : Hid (k3 = 0 → k4 = 0 → i3 = i4 ∧ p3 = p4) := fun h3 h4 => by
        obtain ⟨e1, e2⟩ := HE.out
        obtain ⟨f0, f1, e3, e4⟩ := HF.out
        rcases T3.out.2 with ⟨_, _, _, _, e5, e6⟩ | h | h
        · rcases T4.out.2 with ⟨_, _, _, _, e7, e8⟩ | h | h
          · omega
          · omega
          · omega
        · omega
        · omega
      by_cases h3 : k3 = 0
      · by_cases h4 : k4 = 0
        · obtain ⟨rfl, rfl⟩ := hx.out h3 h4
          subst h3 h4
          go_wp2
          all_goals
            go_ret
            exact ⟨rfl, O6.out.alloc _⟩
        · go_wp2
          all_goals
            go_ret
            exact ⟨rfl, O6.out.alloc _⟩
      · go_wp2
        all_goals
          go_ret
          exact ⟨rfl, O6.out.alloc _⟩
    · have hk3 : k2 ≠ 0 := by omega
      clear hk2
      go_wp2
      all_goals
        go_ret
        exact ⟨rfl, O3.out.alloc _⟩
  · rcases hk with rfl | rfl
    · go_wp2
      all_goals
        go_ret
        exact ⟨rfl, O3.out.alloc _⟩
    · go_wp2
      all_goals
        go_ret
        exact ⟨rfl, O3.out.alloc _⟩
end Go.Proofs.Ytedginlndpdkmaa
