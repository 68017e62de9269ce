/- The document's numbers: script and number. -/
import Derived.Test.YtbijiigobbjlcaaDoorLx33
namespace Go.Proofs.YtbijiigobbjlcaaDoor
open Go.RowKit Go.Lib
set_option linter.unusedSimpArgs false
set_option linter.unusedVariables false
/-- The nought of a digit's script, or 0. -/
def rs (c : Nat) : Nat := if 48 ≤ c ∧ c ≤ 57 then 48 else if 1632 ≤ c ∧ c ≤ 1641 then 1632 else if 65296 ≤ c ∧ c ≤ 65305 then 65296 else 0
set_option maxRecDepth 100000 in
set_option maxHeartbeats 1000000 in
theorem rscript_any (c : Nat) (w : World) : Calls Tryd.prog 42 #[.int .i32 (c : Int)] w fun e w' => e = .returned (.int .i32 (rs c : Int)) ∧ w' = w := by
  unfold rs
  by_cases h1 : 48 ≤ c ∧ c ≤ 57
  · rw [if_pos h1]
    have i1 : (48 : Int) ≤ (c : Int) := by omega
    have i2 : (c : Int) ≤ 57 := by omega
    go_enter Tryd.func42, Tryd.ntmps42
    go_wp2
    go_ret
    exact ⟨rfl, rfl⟩
  · rw [if_neg h1]
    have j1 : (decide ((48 : Int) ≤ (c : Int)) && decide ((c : Int) ≤ 57)) = false := by
      rw [Bool.eq_false_iff]; simp only [ne_eq, Bool.and_eq_true, decide_eq_true_eq]; omega
    by_cases h2 : 1632 ≤ c ∧ c ≤ 1641
    · rw [if_pos h2]
      have i1 : (1632 : Int) ≤ (c : Int) := by omega
      have i2 : (c : Int) ≤ 1641 := by omega
      have i3 : (48 : Int) ≤ (c : Int) := by omega
      have i4 : decide ((c : Int) ≤ 57) = false := decide_eq_false (by omega)
      clear j1 h1 h2
      go_enter Tryd.func42, Tryd.ntmps42
      go_wp2
      go_ret
      exact ⟨rfl, rfl⟩
    · rw [if_neg h2]
      by_cases h3 : 65296 ≤ c ∧ c ≤ 65305
      · rw [if_pos h3]
        have i1 : (65296 : Int) ≤ (c : Int) := by omega
        have i2 : (c : Int) ≤ 65305 := by omega
        have i3 : (48 : Int) ≤ (c : Int) := by omega
        have i4 : decide ((c : Int) ≤ 57) = false := decide_eq_false (by omega)
        have i5 : (1632 : Int) ≤ (c : Int) := by omega
        have i6 : decide ((c : Int) ≤ 1641) = false := decide_eq_false (by omega)
        clear j1 h1 h2 h3
        go_enter Tryd.func42, Tryd.ntmps42
        go_wp2
        go_ret
        exact ⟨rfl, rfl⟩
      · rw [if_neg h3]
        have key : ∀ x y : Int, ¬ (x ≤ (c : Int) ∧ (c : Int) ≤ y) → (decide (x ≤ (c : Int)) = false) ∨ (decide (x ≤ (c : Int)) = true ∧ decide ((c : Int) ≤ y) = false) := fun x y g => by
          by_cases hx : x ≤ (c : Int)
          · exact .inr ⟨decide_eq_true hx, decide_eq_false (fun hy => g ⟨hx, hy⟩)⟩
          · exact .inl (decide_eq_false hx)
        have k1 := key 48 57 (by omega)
        have k2 := key 1632 1641 (by omega)
        have k3 := key 65296 65305 (by omega)
        clear j1 h1 h2 h3 key
        rcases k1 with k1 | ⟨k1, k1'⟩ <;> rcases k2 with k2 | ⟨k2, k2'⟩ <;> rcases k3 with k3 | ⟨k3, k3'⟩
        all_goals
          go_enter Tryd.func42, Tryd.ntmps42
          go_wp2
          go_ret
          exact ⟨rfl, rfl⟩
/-- A row of characters that can be read. -/
def RdC (w : World) (v : Value) (l : List Chr) : Prop := ∃ ao cap, v = .slice ao l.length cap ∧ l.length ≤ cap ∧ ∀ i t, l[i]? = some t → ∃ g o, ao = some ⟨g, o, none⟩ ∧ g < w.heap.size ∧ w.cell? ⟨g, o + i * 4, none⟩ = some (.int .i32 (t.r : Int)) ∧ w.cell? ⟨g, o + i * 4 + 1, none⟩ = some (.int .i64 (t.a : Int)) ∧ w.cell? ⟨g, o + i * 4 + 2, none⟩ = some (.int .i64 (t.z : Int)) ∧ w.cell? ⟨g, o + i * 4 + 3, none⟩ = some (.bool t.b)
theorem RdC.only {w w' : World} {v : Value} {l : List Chr} (h : RdC w v l) (o : Only (fun _ => False) w w') : RdC w' v l := by
  obtain ⟨ao, cap, e, hc, h⟩ := h
  refine ⟨ao, cap, e, hc, fun i t ht => ?_⟩
  obtain ⟨g, oo, e1, hg, c0, c1, c2, c3⟩ := h i t ht
  exact ⟨g, oo, e1, Nat.lt_of_lt_of_le hg o.size, o.cell c0 (fun x => x), o.cell c1 (fun x => x), o.cell c2 (fun x => x), o.cell c3 (fun x => x)⟩
theorem rdc_chr {w : World} {B : Nat} {v : Value} {l : List Chr} (h : ChrAt w B v l) : RdC w v l := by
  obtain ⟨ao, cap, rfl⟩ := h.1
  have hc : l.length ≤ cap := by
    rcases h.2.2 with ⟨e, e2⟩ | ⟨g, cap', cur, fz, hv, _, _, _, hcap, _⟩
    · injection e with e1 e3 e4
      omega
    · injection hv with e1 e3 e4
      omega
  refine ⟨ao, cap, rfl, hc, fun i t ht => ?_⟩
  obtain ⟨g, cap', hv, _, hg, c0, c1, c2, c3⟩ := chr_cells h ht
  injection hv with e1 e2 e3
  exact ⟨g, 0, e1, hg, by rw [Nat.zero_add]; exact c0, by rw [Nat.zero_add]; exact c1, by rw [Nat.zero_add]; exact c2, by rw [Nat.zero_add]; exact c3⟩
/-- The digits of one script, from the first on. -/
def rnum (nt : Nat) : List Nat → Nat → Nat × Bool
  | [], n => (n, true)
  | c :: l, n => if rs c ≠ nt then (0, false) else rnum nt l (min (10 * n + (c - rs c)) 1152921504606846977)
def rminus (l : List Nat) : Bool := decide (l.head? = some 45 ∨ l.head? = some 8722)
def rrest (l : List Nat) : List Nat := if rminus l then l.tail else l
def rnumM (mn : Bool) : List Nat → Nat × Bool × Bool
  | [] => (0, mn, false)
  | c :: r => if rs c = 0 then (0, mn, false) else ((rnum (rs c) (c :: r) 0).1, mn, (rnum (rs c) (c :: r) 0).2)
def rnumL (l : List Nat) : Nat × Bool × Bool := rnumM (rminus l) (rrest l)
theorem rs_digit {c : Nat} (h : rs c ≠ 0) : rs c ≤ c ∧ c - rs c ≤ 9 := by
  unfold rs at h ⊢
  split
  · omega
  · split
    · omega
    · split
      · omega
      · rename_i h1 h2 h3
        simp [h1, h2, h3] at h
end Go.Proofs.YtbijiigobbjlcaaDoor
