/- Effects: bounded, and one behind another. -/
import Derived.Test.YtodbkihobgdpdaaGreatDoorBase
import Derived.Test.YtodbkihobgdpdaaGreatDoorRows
namespace Go.Proofs.YtodbkihobgdpdaaGreatDoor
open Go.RowKit
set_option linter.unusedSimpArgs false
set_option linter.unusedVariables false
/-- is an effect one that a word may have? -/
def bdB (x y : Int) : Bool := decide (0 ≤ x ∧ x ≤ 16 ∧ 0 ≤ y ∧ y ≤ 16)
/-- an effect's value -/
def efV (x y : Int) : Value := .agg #[.int .i64 x, .int .i64 y]
set_option maxRecDepth 100000 in
theorem bounded_any (x y : Int) (w : World) : Calls Tryz.prog 24 #[efV x y] w fun e w' => e = .returned (.bool (bdB x y)) ∧ Only (fun _ => False) w w' := by
  unfold efV
  go_enter Tryz.func24, Tryz.ntmps24
  go_wp2
  all_goals
    go_ret
    refine ⟨?_, (Only.refl _ w).alloc _⟩
    refine congrArg Ending.returned (congrArg Value.bool ?_)
    first
      | (show false = bdB x y; symm; apply decide_eq_false; omega)
      | (show decide (y ≤ 16) = bdB x y; unfold bdB; rw [decide_eq_decide]; omega)
/-- an effect behind another -/
def thR (a b c d : Int) : Int × Int × Int :=
  if bdB a b && bdB c d then (if bdB (a + max 0 (c - b)) (d + max 0 (b - c)) then (a + max 0 (c - b), d + max 0 (b - c), 0) else (0, 0, 11)) else (0, 0, 2)
theorem results_eff {fn : Func} {t u : Tmp} (h : fn.results = #[.cell u 30, .tmp t]) (tmps : Array Value) (w : World) (B : Nat) {x y : Value} (h0 : w.cell? ⟨B, 0, none⟩ = some x) (h1 : w.cell? ⟨B, 1, none⟩ = some y) (ha : tmps.getD u undef = .pointer (some ⟨B, 0, none⟩)) :
    (results fn tmps).run Tryz.prog w = .ok (.tuple #[.agg #[x, y], tmps.getD t undef]) w := by
  have ha' : tmps[u]?.getD undef = .pointer (some ⟨B, 0, none⟩) := by simpa using ha
  simp [results, h, ha', asAddr, go_sem, loadVar, isAgg, Tryz.underlying30, h0, h1]
theorem eblk_cells {w : World} {B : Nat} {c : Array Value} {t : TypeId} (h : w.heap[B]? = some (.cells c t)) (j : Nat) : w.cell? ⟨B, j, none⟩ = c[j]? := by
  simp [World.cell?, h]
theorem eblk_froz {w : World} {B : Nat} {c : Array Value} {t : TypeId} (h : w.heap[B]? = some (.cells c t)) (j : Nat) : w.frozen? ⟨B, j, none⟩ = false := by
  simp [World.frozen?, h]
theorem ealloc_at (W : World) (o : Obj) (n : Nat) (h : n = W.heap.size) : (W.alloc o).heap[n]? = some o := by
  subst h
  exact Array.getElem?_push_size ..
theorem Only.at {w w1 : World} {B : Nat} {o : Obj} (h : Only (fun _ => False) w w1) (g : w.heap[B]? = some o) : w1.heap[B]? = some o :=
  (h.block B (Array.getElem?_eq_some_iff.1 g).1 (fun g => g)).trans g
theorem alloc_old {W : World} {o p : Obj} {n : Nat} (h : W.heap[n]? = some o) : (W.alloc p).heap[n]? = some o :=
  ((Only.refl (fun _ => False) W).alloc p).at h
/-- two cells -/
def TwC (w : World) (B : Nat) (x y : Int) : Prop := w.heap[B]? = some (.cells #[.int .i64 x, .int .i64 y] 30)
theorem TwC.cells {w : World} {B : Nat} {x y : Int} (h : TwC w B x y) : w.cell? ⟨B, 0, none⟩ = some (.int .i64 x) ∧ w.cell? ⟨B, 1, none⟩ = some (.int .i64 y) ∧ w.frozen? ⟨B, 0, none⟩ = false ∧ w.frozen? ⟨B, 1, none⟩ = false :=
  ⟨eblk_cells h 0, eblk_cells h 1, eblk_froz h 0, eblk_froz h 1⟩
theorem eset2 {w : World} {B : Nat} {x y : Int} (h : TwC w B x y) (u v : Value) : ((w.setCell ⟨B, 0, none⟩ u).setCell ⟨B, 1, none⟩ v).cell? ⟨B, 0, none⟩ = some u ∧ ((w.setCell ⟨B, 0, none⟩ u).setCell ⟨B, 1, none⟩ v).cell? ⟨B, 1, none⟩ = some v := by
  obtain ⟨c0, c1, _, _⟩ := h.cells
  have ne : ∀ (W : World) (i j : Nat) (v : Value), i ≠ j → (W.setCell ⟨B, i, none⟩ v).cell? ⟨B, j, none⟩ = W.cell? ⟨B, j, none⟩ := fun W i j v g => by apply World.cell?_setCell_other; intro e; exact g (by injection e)
  refine ⟨?_, ?_⟩
  · rw [ne _ 1 0 _ (by omega)]
    exact World.cell?_setCell_same' _ _ _ (by rw [c0]; rfl)
  · exact World.cell?_setCell_same' _ _ _ (by rw [ne _ 0 1 _ (by omega), c1]; rfl)
set_option maxRecDepth 100000 in
theorem then_any (a b c d : Int) (w : World) : Calls Tryz.prog 10 #[efV a b, efV c d] w fun e w' => e = .returned (.tuple #[efV (thR a b c d).1 (thR a b c d).2.1, .int .i64 (thR a b c d).2.2]) ∧ Only (fun _ => False) w w' := by
  have HB : Hid (∀ x y w1, Calls Tryz.prog 24 #[.agg #[.int .i64 x, .int .i64 y]] w1 fun e w' => e = .returned (.bool (bdB x y)) ∧ Only (fun _ => False) w1 w') := bounded_any
  obtain ⟨N, hN⟩ : ∃ N, N = w.heap.size := ⟨_, rfl⟩
  have HN : Hid (N = w.heap.size) := hN
  unfold efV
  go_enter Tryz.func10, Tryz.ntmps10
  go_wp2_with fail
  refine (show Calls Tryz.prog 24 _ _ _ from HB.out _ _ _).mono ?_
  rintro e w1 ⟨rfl, o1⟩
  have O1 : Hid (Only (fun _ => False) w w1) := (((((Only.refl (fun _ => False) w).alloc _).alloc _).alloc _)).trans o1 (fun _ _ g => g)
  have A1 : TwC w1 N a b := o1.at (alloc_old (alloc_old (ealloc_at _ _ _ hN)))
  have B1 : TwC w1 (N + 1) c d := o1.at (alloc_old (ealloc_at _ _ _ (by simp [hN])))
  have R1 : TwC w1 (N + 1 + 1) 0 0 := o1.at (ealloc_at _ _ _ (by simp [hN]))
  rw [← hN]
  clear o1
  obtain ⟨a0, a1, _, _⟩ := A1.cells
  obtain ⟨b0, b1, _, _⟩ := B1.cells
  obtain ⟨r0, r1, z0, z1⟩ := R1.cells
  have HA : Hid (TwC w1 N a b ∧ TwC w1 (N + 1) c d ∧ TwC w1 (N + 1 + 1) 0 0) := ⟨A1, B1, R1⟩
  clear A1 B1 R1 hN
  cases h1 : bdB a b with
  | false =>
    go_wp2_with fail
    obtain ⟨q0, q1⟩ := eset2 HA.out.2.2 (.int .i64 0) (.int .i64 0)
    refine bodyPost_ret (results_eff rfl _ _ (N + 1 + 1) q0 q1 rfl) rfl ?_
    have hr : thR a b c d = (0, 0, 2) := by unfold thR; rw [h1]; rfl
    rw [hr]
    exact ⟨rfl, (O1.out.setCell _ _ (fun g => by have : N = w.heap.size := HN.out; simp only at g; omega)).setCell _ _ (fun g => by have : N = w.heap.size := HN.out; simp only at g; omega)⟩
  | true =>
    go_wp2_with fail
    refine (show Calls Tryz.prog 24 _ _ _ from HB.out _ _ _).mono ?_
    rintro e w2 ⟨rfl, o2⟩
    have O2 : Hid (Only (fun _ => False) w w2) := O1.out.trans o2 (fun _ _ g => g)
    have HA2 : Hid (TwC w2 N a b ∧ TwC w2 (N + 1) c d ∧ TwC w2 (N + 1 + 1) 0 0) := ⟨o2.at HA.out.1, o2.at HA.out.2.1, o2.at HA.out.2.2⟩
    clear a0 a1 b0 b1 r0 r1 z0 z1 HA O1 o2
    obtain ⟨a0, a1, _, _⟩ := HA2.out.1.cells
    obtain ⟨b0, b1, _, _⟩ := HA2.out.2.1.cells
    obtain ⟨r0, r1, z0, z1⟩ := HA2.out.2.2.cells
    cases h2 : bdB c d with
    | false =>
      go_wp2_with fail
      obtain ⟨q0, q1⟩ := eset2 HA2.out.2.2 (.int .i64 0) (.int .i64 0)
      refine bodyPost_ret (results_eff rfl _ _ (N + 1 + 1) q0 q1 rfl) rfl ?_
      have hr : thR a b c d = (0, 0, 2) := by unfold thR; rw [h1, h2]; rfl
      rw [hr]
      exact ⟨rfl, (O2.out.setCell _ _ (fun g => by have : N = w.heap.size := HN.out; simp only at g; omega)).setCell _ _ (fun g => by have : N = w.heap.size := HN.out; simp only at g; omega)⟩
    | true =>
      have g1 : 0 ≤ a ∧ a ≤ 16 ∧ 0 ≤ b ∧ b ≤ 16 := of_decide_eq_true h1
      have g2 : 0 ≤ c ∧ c ≤ 16 ∧ 0 ≤ d ∧ d ≤ 16 := of_decide_eq_true h2
      have hr : Hid (thR a b c d = if bdB (a + max 0 (c - b)) (d + max 0 (b - c)) then (a + max 0 (c - b), d + max 0 (b - c), 0) else (0, 0, 11)) := by unfold thR; rw [h1, h2]; rfl
      clear h1 h2
      obtain ⟨a_0, a_1, a_2, a_3⟩ := g1
      obtain ⟨b_0, b_1, b_2, b_3⟩ := g2
      go_wp2_with fail
      · have hI : a + max 0 (c - b) = a + (c - b) := by omega
        have hO : d + max 0 (b - c) = d := by omega
        rw [hI, hO] at hr
        refine (show Calls Tryz.prog 24 _ _ _ from HB.out _ _ _).mono ?_
        rintro e w3 ⟨rfl, o3⟩
        have O3 : Hid (Only (fun _ => False) w w3) := (O2.out.alloc _).trans o3 (fun _ _ g => g)
        have R3 : TwC w3 (N + 1 + 1) 0 0 := o3.at (alloc_old HA2.out.2.2)
        have X3 : TwC w3 w2.heap.size (a + (c - b)) (d) := o3.at (ealloc_at w2 _ _ rfl)
        clear a0 a1 b0 b1 r0 r1 z0 z1 HA2 O2 o3 hI hO
        obtain ⟨r0, r1, z0, z1⟩ := R3.cells
        obtain ⟨x0, x1, _, _⟩ := X3.cells
        have HR : Hid (TwC w3 (N + 1 + 1) 0 0) := R3
        clear R3 X3
        cases h3 : bdB (a + (c - b)) (d) with
        | false =>
          have hr2 : thR a b c d = (0, 0, 11) := by rw [hr.out, h3]; rfl
          go_wp2_with fail
          obtain ⟨q0, q1⟩ := eset2 HR.out (.int .i64 0) (.int .i64 0)
          refine bodyPost_ret (results_eff rfl _ _ (N + 1 + 1) q0 q1 rfl) rfl ?_
          rw [hr2]
          exact ⟨rfl, (O3.out.setCell _ _ (fun g => by have : N = w.heap.size := HN.out; simp only at g; omega)).setCell _ _ (fun g => by have : N = w.heap.size := HN.out; simp only at g; omega)⟩
        | true =>
          have hr2 : thR a b c d = (a + (c - b), d, 0) := by rw [hr.out, h3]; rfl
          go_wp2_with fail
          obtain ⟨q0, q1⟩ := eset2 HR.out (.int .i64 (a + (c - b))) (.int .i64 (d))
          refine bodyPost_ret (results_eff rfl _ _ (N + 1 + 1) q0 q1 rfl) rfl ?_
          rw [hr2]
          exact ⟨rfl, (O3.out.setCell _ _ (fun g => by have : N = w.heap.size := HN.out; simp only at g; omega)).setCell _ _ (fun g => by have : N = w.heap.size := HN.out; simp only at g; omega)⟩
      · have hI : a + max 0 (c - b) = a := by omega
        have hO : d + max 0 (b - c) = d + (b - c) := by omega
        rw [hI, hO] at hr
        refine (show Calls Tryz.prog 24 _ _ _ from HB.out _ _ _).mono ?_
        rintro e w3 ⟨rfl, o3⟩
        have O3 : Hid (Only (fun _ => False) w w3) := (O2.out.alloc _).trans o3 (fun _ _ g => g)
        have R3 : TwC w3 (N + 1 + 1) 0 0 := o3.at (alloc_old HA2.out.2.2)
        have X3 : TwC w3 w2.heap.size (a) (d + (b - c)) := o3.at (ealloc_at w2 _ _ rfl)
        clear a0 a1 b0 b1 r0 r1 z0 z1 HA2 O2 o3 hI hO
        obtain ⟨r0, r1, z0, z1⟩ := R3.cells
        obtain ⟨x0, x1, _, _⟩ := X3.cells
        have HR : Hid (TwC w3 (N + 1 + 1) 0 0) := R3
        clear R3 X3
        cases h3 : bdB (a) (d + (b - c)) with
        | false =>
          have hr2 : thR a b c d = (0, 0, 11) := by rw [hr.out, h3]; rfl
          go_wp2_with fail
          obtain ⟨q0, q1⟩ := eset2 HR.out (.int .i64 0) (.int .i64 0)
          refine bodyPost_ret (results_eff rfl _ _ (N + 1 + 1) q0 q1 rfl) rfl ?_
          rw [hr2]
          exact ⟨rfl, (O3.out.setCell _ _ (fun g => by have : N = w.heap.size := HN.out; simp only at g; omega)).setCell _ _ (fun g => by have : N = w.heap.size := HN.out; simp only at g; omega)⟩
        | true =>
          have hr2 : thR a b c d = (a, d + (b - c), 0) := by rw [hr.out, h3]; rfl
          go_wp2_with fail
          obtain ⟨q0, q1⟩ := eset2 HR.out (.int .i64 (a)) (.int .i64 (d + (b - c)))
          refine bodyPost_ret (results_eff rfl _ _ (N + 1 + 1) q0 q1 rfl) rfl ?_
          rw [hr2]
          exact ⟨rfl, (O3.out.setCell _ _ (fun g => by have : N = w.heap.size := HN.out; simp only at g; omega)).setCell _ _ (fun g => by have : N = w.heap.size := HN.out; simp only at g; omega)⟩
      · have hI : a + max 0 (c - b) = a := by omega
        have hO : d + max 0 (b - c) = d := by omega
        rw [hI, hO] at hr
        refine (show Calls Tryz.prog 24 _ _ _ from HB.out _ _ _).mono ?_
        rintro e w3 ⟨rfl, o3⟩
        have O3 : Hid (Only (fun _ => False) w w3) := (O2.out.alloc _).trans o3 (fun _ _ g => g)
        have R3 : TwC w3 (N + 1 + 1) 0 0 := o3.at (alloc_old HA2.out.2.2)
        have X3 : TwC w3 w2.heap.size (a) (d) := o3.at (ealloc_at w2 _ _ rfl)
        clear a0 a1 b0 b1 r0 r1 z0 z1 HA2 O2 o3 hI hO
        obtain ⟨r0, r1, z0, z1⟩ := R3.cells
        obtain ⟨x0, x1, _, _⟩ := X3.cells
        have HR : Hid (TwC w3 (N + 1 + 1) 0 0) := R3
        clear R3 X3
        cases h3 : bdB (a) (d) with
        | false =>
          have hr2 : thR a b c d = (0, 0, 11) := by rw [hr.out, h3]; rfl
          go_wp2_with fail
          obtain ⟨q0, q1⟩ := eset2 HR.out (.int .i64 0) (.int .i64 0)
          refine bodyPost_ret (results_eff rfl _ _ (N + 1 + 1) q0 q1 rfl) rfl ?_
          rw [hr2]
          exact ⟨rfl, (O3.out.setCell _ _ (fun g => by have : N = w.heap.size := HN.out; simp only at g; omega)).setCell _ _ (fun g => by have : N = w.heap.size := HN.out; simp only at g; omega)⟩
        | true =>
          have hr2 : thR a b c d = (a, d, 0) := by rw [hr.out, h3]; rfl
          go_wp2_with fail
          obtain ⟨q0, q1⟩ := eset2 HR.out (.int .i64 (a)) (.int .i64 (d))
          refine bodyPost_ret (results_eff rfl _ _ (N + 1 + 1) q0 q1 rfl) rfl ?_
          rw [hr2]
          exact ⟨rfl, (O3.out.setCell _ _ (fun g => by have : N = w.heap.size := HN.out; simp only at g; omega)).setCell _ _ (fun g => by have : N = w.heap.size := HN.out; simp only at g; omega)⟩
end Go.Proofs.YtodbkihobgdpdaaGreatDoor
