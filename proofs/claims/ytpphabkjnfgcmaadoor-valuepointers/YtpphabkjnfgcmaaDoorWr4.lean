/- The text of the number 7, as parse writes it. -/
import Derived.Test.YtpphabkjnfgcmaaDoorWr3
namespace Go.Proofs.YtpphabkjnfgcmaaDoor
open Go.RowKit Go.Lib
set_option linter.unusedSimpArgs false
set_option linter.unusedVariables false
theorem va_hit (T xt : TypeId) (D : TypeDesc) (hD : Tryd.prog.underlying T = some D) (hn : ∀ m, D ≠ .interface m) (x : Value) (W : World) : (Instr.typeAssert (.iface T x) xt T true).run Tryd.prog W = .ok (.tuple #[x, .bool true]) W := by
  simp only [Instr.typeAssert, Sem.run_bind, run_underlying hD, Result.andThen_ok]
  cases D <;> simp_all
theorem va_miss (T U xt : TypeId) (D : TypeDesc) (hD : Tryd.prog.underlying U = some D) (hn : ∀ m, D ≠ .interface m) (hT : T ≠ U) (z : Value) (hz : ∀ W : World, (zeroValue U).run Tryd.prog W = .ok z W) (x : Value) (W : World) : (Instr.typeAssert (.iface T x) xt U true).run Tryd.prog W = .ok (.tuple #[z, .bool false]) W := by
  simp only [Instr.typeAssert, Sem.run_bind, run_underlying hD, Result.andThen_ok]
  cases D <;> simp_all
theorem va_at (W : World) (o : Obj) (n : Nat) (h : n = W.heap.size) : (W.alloc o).heap[n]? = some o := by
  subst h
  exact Array.getElem?_push_size ..
/-- the number 7 as a value, and as an item -/
abbrev i7 : Value := .iface 24 (.agg #[.int .i64 7])
abbrev p7 : Value := .iface 45 (.agg #[i7])
set_option maxRecDepth 100000 in
theorem small7 (w : World) : Calls Tryd.prog 57 #[.int .i64 7] w fun e w' => e = .returned (.string ⟨#[55]⟩) ∧ w' = w := by
  go_enter Tryd.func57, Tryd.ntmps57
  go_wp2
  go_ret
  exact ⟨rfl, rfl⟩
set_option maxRecDepth 100000 in
theorem ifmt7 (w : World) : Calls Tryd.prog 52 #[.int .i64 7, .int .i64 10] w fun e w' => e = .returned (.string ⟨#[55]⟩) ∧ w' = w := by
  have HS : Hid (∀ w1, Calls Tryd.prog 57 #[.int .i64 7] w1 fun e w' => e = .returned (.string ⟨#[55]⟩) ∧ w' = w1) := small7
  go_enter Tryd.func52, Tryd.ntmps52
  go_wp2_with fail
  refine (show Calls Tryd.prog 57 _ _ _ from HS.out _).mono ?_
  rintro e w1 ⟨rfl, rfl⟩
  clear HS
  go_wp2
  go_ret
  exact ⟨rfl, rfl⟩
set_option maxRecDepth 100000 in
theorem fmt7 (w : World) : Calls Tryd.prog 44 #[.int .i64 7, .int .i64 10] w fun e w' => e = .returned (.string ⟨#[55]⟩) ∧ w' = w := by
  have HS : Hid (∀ w1, Calls Tryd.prog 52 #[.int .i64 7, .int .i64 10] w1 fun e w' => e = .returned (.string ⟨#[55]⟩) ∧ w' = w1) := ifmt7
  go_enter Tryd.func44, Tryd.ntmps44
  go_wp2_with fail
  refine (show Calls Tryd.prog 52 _ _ _ from HS.out _).mono ?_
  rintro e w1 ⟨rfl, rfl⟩
  clear HS
  go_wp2
  go_ret
  exact ⟨rfl, rfl⟩
/-- what is left to be counted -/
def MlB (w : World) (M : Nat) (k : Int) : Prop := w.heap[M]? = some (.cells #[.int .i64 k] 115)
set_option maxRecDepth 100000 in
theorem pmore_any (M : Nat) (k : Int) (w : World) (h : MlB w M k) (h1 : 1 ≤ k) (h2 : k ≤ 1024) : Calls Tryd.prog 42 #[.pointer (some ⟨M, 0, none⟩)] w fun e w' => e = .returned (.bool true) ∧ Only (fun b => b = M) w w' ∧ MlB w' M (k - 1) := by
  have c0 := wr_cell h 0
  have f0 := wr_froz h 0
  simp only [List.getElem?_toArray, List.getElem?_cons_zero] at c0
  have HM : Hid (MlB w M k) := h
  have i1 : (0 : Int) ≤ k - 1 := by omega
  clear h
  go_enter Tryd.func42, Tryd.ntmps42
  go_wp2
  go_ret
  exact ⟨by simp [i1], (Only.refl (fun b => b = M) w).setCell _ _ (fun _ => rfl), (heap_setCell_same _ _ _ _ _ _ HM.out).trans rfl⟩
set_option maxRecDepth 100000 in
theorem pval7 (M : Nat) (w : World) (h : MlB w M 1024) : Calls Tryd.prog 41 #[.pointer (some ⟨M, 0, none⟩), i7, .int .i64 32] w fun e w' => e = .returned (.bool true) ∧ Only (fun b => b = M) w w' := by
  have HM : Hid (Calls Tryd.prog 42 #[.pointer (some ⟨M, 0, none⟩)] w fun e w' => e = .returned (.bool true) ∧ Only (fun b => b = M) w w' ∧ MlB w' M (1024 - 1)) := pmore_any M 1024 w h (by omega) (by omega)
  have hInt := va_hit 24 43 _ Tryd.underlying24 (by intro m h; cases h)
  clear h
  go_enter Tryd.func41, Tryd.ntmps41
  go_wp2_with fail
  refine (show Calls Tryd.prog 42 _ _ _ from HM.out).mono ?_
  rintro e w1 ⟨rfl, o1, _⟩
  have O1 : Hid (Only (fun b => b = M) w w1) := o1
  clear HM o1
  go_wp2
  all_goals
    go_ret
    exact ⟨rfl, O1.out.alloc _⟩
set_option maxRecDepth 100000 in
theorem pitem7 (M : Nat) (w : World) (h : MlB w M 1024) : Calls Tryd.prog 37 #[.pointer (some ⟨M, 0, none⟩), p7, .int .i64 32] w fun e w' => e = .returned (.bool true) ∧ Only (fun b => b = M) w w' := by
  have HV : Hid (∀ w1, Only (fun _ => False) w w1 → Calls Tryd.prog 41 #[.pointer (some ⟨M, 0, none⟩), i7, .int .i64 32] w1 fun e w' => e = .returned (.bool true) ∧ Only (fun b => b = M) w1 w') := fun w1 o => pval7 M w1 ((o.block M (Array.getElem?_eq_some_iff.1 h).1 (fun g => g)).trans h)
  have hP := va_hit 45 71 _ Tryd.underlying45 (by intro m h; cases h)
  have O0 : Hid (Only (fun _ => False) w w) := Only.refl _ _
  clear h
  go_enter Tryd.func37, Tryd.ntmps37
  go_wp2_with fail
  refine (show Calls Tryd.prog 41 _ _ _ from HV.out _ (O0.out.alloc _)).mono ?_
  rintro e w1 ⟨rfl, o1⟩
  have O1 : Hid (Only (fun b => b = M) w w1) := ((Only.refl (fun b => b = M) w).alloc _).trans o1 (fun _ _ g => g)
  clear HV o1
  go_wp2
  go_ret
  exact ⟨rfl, O1.out⟩
set_option maxRecDepth 100000 in
theorem psound7 (w : World) : Calls Tryd.prog 34 #[p7] w fun e w' => e = .returned (.bool true) ∧ Only (fun _ => False) w w' := by
  have HI : Hid (Calls Tryd.prog 37 #[.pointer (some ⟨w.heap.size, 0, none⟩), p7, .int .i64 32] (w.alloc (.cells #[.int .i64 1024] 115)) fun e w' => e = .returned (.bool true) ∧ Only (fun b => b = w.heap.size) (w.alloc (.cells #[.int .i64 1024] 115)) w') := pitem7 _ _ (va_at _ _ _ rfl)
  go_enter Tryd.func34, Tryd.ntmps34
  go_wp2_with fail
  refine (show Calls Tryd.prog 37 _ _ _ from HI.out).mono ?_
  rintro e w1 ⟨rfl, o1⟩
  have O1 : Hid (Only (fun _ => False) w w1) := ((Only.refl (fun _ => False) w).alloc _).trans o1 (fun k hk e => by omega)
  clear HI o1
  go_wp2
  go_ret
  exact ⟨rfl, O1.out⟩
set_option maxRecDepth 100000 in
theorem psounds7 (w : World) (g : Nat) (hg : w.cell? ⟨g, 0, none⟩ = some p7) : Calls Tryd.prog 31 #[.slice (some ⟨g, 0, none⟩) 1 1] w fun e w' => e = .returned (.bool true) ∧ Only (fun _ => False) w w' := by
  have HI : Hid (∀ w1, Calls Tryd.prog 34 #[p7] w1 fun e w' => e = .returned (.bool true) ∧ Only (fun _ => False) w1 w') := psound7
  go_enter Tryd.func31, Tryd.ntmps31
  go_wp2
  go_loopw [7] (fun r wr => ∃ i : Int, r = .int .i64 i ∧ (i = 0 ∨ i = 1) ∧ Hid (Only (fun _ => False) w wr)) (fun r _ => 1 - uOf r)
  case atStart => exact ⟨0, rfl, .inl rfl, Only.refl _ _⟩
  case round =>
    obtain ⟨i, rfl, hi, HO⟩ := hrel
    obtain ⟨w1, rfl⟩ : ∃ w1, w1 = wr := ⟨_, rfl⟩
    rcases hi with rfl | rfl
    · have hg1 := HO.out.cell hg (fun h => h)
      go_wp2_with fail
      refine (show Calls Tryd.prog 34 _ _ _ from HI.out _).mono ?_
      rintro e w2 ⟨rfl, o2⟩
      have O2 : Hid (Only (fun _ => False) w w2) := HO.out.trans o2 (fun _ _ g => g)
      clear HI o2 hg1 HO
      go_wp2
      go_roundw
      case rel => exact ⟨1, rfl, .inr rfl, O2⟩
      case measure => simp [uOf]
    · go_wp2
      go_ret
      exact ⟨rfl, HO.out⟩
end Go.Proofs.YtpphabkjnfgcmaaDoor
