/- The measure of values: the parts that ValuePointers reaches. -/
import Derived.Test.YtpphabkjnfgcmaaDoorWr5
namespace Go.Proofs.YtpphabkjnfgcmaaDoor
open Go.RowKit Go.Lib
set_option linter.unusedSimpArgs false
set_option linter.unusedVariables false
/-- v is none of the six values -/
structure BadV (v : Value) : Prop where
  k : v = .nilIface ∨ ∃ T x, v = .iface T x
  l : ∀ W : World, (Instr.typeAssert v 43 34 true).run Tryd.prog W = .ok (.tuple #[.agg #[.slice none 0 0], .bool false]) W
  q : ∀ W : World, (Instr.typeAssert v 43 38 true).run Tryd.prog W = .ok (.tuple #[.agg #[.slice none 0 0], .bool false]) W
  i : ∀ W : World, (Instr.typeAssert v 43 24 true).run Tryd.prog W = .ok (.tuple #[.agg #[.int .i64 0], .bool false]) W
  s : ∀ W : World, (Instr.typeAssert v 43 27 true).run Tryd.prog W = .ok (.tuple #[.agg #[.string ByteArray.empty], .bool false]) W
  x : ∀ W : World, (Instr.typeAssert v 43 41 true).run Tryd.prog W = .ok (.tuple #[.agg #[.int .i64 0], .bool false]) W
  b : ∀ W : World, (Instr.typeAssert v 43 30 true).run Tryd.prog W = .ok (.tuple #[.agg #[.bool false], .bool false]) W
set_option maxRecDepth 100000 in
theorem bad_nil : BadV .nilIface := by
  refine ⟨.inl rfl, ?_, ?_, ?_, ?_, ?_, ?_⟩ <;> intro W <;> rfl
set_option maxRecDepth 100000 in
theorem bad_ptr (T : TypeId) (x : Value) (h1 : T ≠ 34) (h2 : T ≠ 38) (h3 : T ≠ 24) (h4 : T ≠ 27) (h5 : T ≠ 41) (h6 : T ≠ 30) : BadV (.iface T x) := by
  refine ⟨.inr ⟨T, x, rfl⟩, ?_, ?_, ?_, ?_, ?_, ?_⟩
  · exact va_miss T 34 43 _ Tryd.underlying34 (by intro m h; cases h) h1 _ (fun _ => rfl) x
  · exact va_miss T 38 43 _ Tryd.underlying38 (by intro m h; cases h) h2 _ (fun _ => rfl) x
  · exact va_miss T 24 43 _ Tryd.underlying24 (by intro m h; cases h) h3 _ (fun _ => rfl) x
  · exact va_miss T 27 43 _ Tryd.underlying27 (by intro m h; cases h) h4 _ (fun _ => rfl) x
  · exact va_miss T 41 43 _ Tryd.underlying41 (by intro m h; cases h) h5 _ (fun _ => rfl) x
  · exact va_miss T 30 43 _ Tryd.underlying30 (by intro m h; cases h) h6 _ (fun _ => rfl) x
/-- a measure in memory -/
def VmB (w : World) (M : Nat) (k d : Int) : Prop := w.heap[M]? = some (.cells #[.int .i64 k, .int .i64 d] 55)
set_option maxRecDepth 100000 in
theorem vcount_any (M : Nat) (k d : Int) (w : World) (h : VmB w M k d) (h1 : 0 ≤ k) (h2 : k < 1000) : Calls Tryd.prog 12 #[.pointer (some ⟨M, 0, none⟩)] w fun e w' => e = .returned (.bool true) ∧ Only (fun b => b = M) w w' ∧ VmB w' M (k + 1) d := by
  have c0 := wr_cell h 0
  have f0 := wr_froz h 0
  simp only [List.getElem?_toArray, List.getElem?_cons_zero] at c0
  have HM : Hid (VmB w M k d) := h
  have i1 : k + 1 ≤ 1024 := by omega
  clear h
  go_enter Tryd.func12, Tryd.ntmps12
  go_wp2
  go_ret
  exact ⟨by simp [i1], (Only.refl (fun b => b = M) w).setCell _ _ (fun _ => rfl), (heap_setCell_same _ _ _ _ _ _ HM.out).trans rfl⟩
set_option maxRecDepth 100000 in
theorem venter_any (M : Nat) (k d : Int) (w : World) (h : VmB w M k d) (h1 : 0 ≤ d) (h2 : d ≤ 32) : Calls Tryd.prog 13 #[.pointer (some ⟨M, 0, none⟩), .int .i64 1] w fun e w' => e = .returned (.bool true) ∧ Only (fun b => b = M) w w' ∧ ∃ d', VmB w' M k d' ∧ 0 ≤ d' ∧ d' ≤ 32 := by
  have c1 := wr_cell h 1
  have f1 := wr_froz h 1
  simp only [List.getElem?_toArray, List.getElem?_cons_succ, List.getElem?_cons_zero] at c1
  have HM : Hid (VmB w M k d) := h
  clear h
  go_enter Tryd.func13, Tryd.ntmps13
  go_wp2
  all_goals
    go_ret
    refine ⟨rfl, (Only.refl (fun b => b = M) w).setCell _ _ (fun _ => rfl), _, (heap_setCell_same _ _ _ _ _ _ HM.out).trans rfl, ?_, ?_⟩ <;> omega
set_option maxRecDepth 100000 in
theorem alone_bad (v : Value) (hv : BadV v) (w : World) : Calls Tryd.prog 17 #[v] w fun e w' => e = .returned (.bool false) ∧ Only (fun _ => False) w w' := by
  have hi := hv.i
  have hs := hv.s
  have hx := hv.x
  have hb := hv.b
  have O0 : Hid (Only (fun _ => False) w w) := Only.refl _ _
  clear hv
  go_enter Tryd.func17, Tryd.ntmps17
  go_wp2
  all_goals
    go_ret
    refine ⟨rfl, ?_⟩
    repeat (first | exact O0.out | refine Only.alloc ?_ _)
set_option maxRecDepth 100000 in
theorem alone_int (n : Int) (h1 : -1000 ≤ n) (h2 : n ≤ 1000) (w : World) : Calls Tryd.prog 17 #[.iface 24 (.agg #[.int .i64 n])] w fun e w' => e = .returned (.bool true) ∧ Only (fun _ => False) w w' := by
  have hi := va_hit 24 43 _ Tryd.underlying24 (by intro m h; cases h)
  have O0 : Hid (Only (fun _ => False) w w) := Only.refl _ _
  have i1 : (-1152921504606846976 : Int) ≤ n := by omega
  have i2 : n ≤ 1152921504606846975 := by omega
  go_enter Tryd.func17, Tryd.ntmps17
  go_wp2
  all_goals
    go_ret
    refine ⟨by simp [i1, i2], ?_⟩
    repeat (first | exact O0.out | refine Only.alloc ?_ _)
set_option maxRecDepth 100000 in
theorem vval_bad (v : Value) (hv : BadV v) (M : Nat) (k d o : Int) (w : World) (h : VmB w M k d) (h1 : 0 ≤ k) (h2 : k < 1000) : Calls Tryd.prog 9 #[.pointer (some ⟨M, 0, none⟩), v, .int .i64 o] w fun e w' => e = .returned (.bool false) ∧ Only (fun b => b = M) w w' := by
  have HM : Hid (Calls Tryd.prog 12 #[.pointer (some ⟨M, 0, none⟩)] w fun e w' => e = .returned (.bool true) ∧ Only (fun b => b = M) w w' ∧ VmB w' M (k + 1) d) := vcount_any M k d w h h1 h2
  have HA : Hid (∀ w1, Calls Tryd.prog 17 #[v] w1 fun e w' => e = .returned (.bool false) ∧ Only (fun _ => False) w1 w') := alone_bad v hv
  have hl := hv.l
  have hq := hv.q
  clear h hv
  go_enter Tryd.func9, Tryd.ntmps9
  go_wp2_with fail
  refine (show Calls Tryd.prog 12 _ _ _ from HM.out).mono ?_
  rintro e w1 ⟨rfl, o1, _⟩
  have O1 : Hid (Only (fun b => b = M) w w1) := o1
  clear HM o1
  go_wp2_with fail
  all_goals
    refine (show Calls Tryd.prog 17 _ _ _ from HA.out _).mono ?_
    rintro e w2 ⟨rfl, o2⟩
    have O2 : Hid (Only (fun b => b = M) w w2) := ((O1.out.alloc _).alloc _).trans o2 (fun _ _ g => g.elim)
    clear o2
    go_wp2
    go_ret
    exact ⟨rfl, O2.out⟩
set_option maxRecDepth 100000 in
theorem vval_int (n : Int) (g1 : -1000 ≤ n) (g2 : n ≤ 1000) (M : Nat) (k d o : Int) (w : World) (h : VmB w M k d) (h1 : 0 ≤ k) (h2 : k < 1000) : Calls Tryd.prog 9 #[.pointer (some ⟨M, 0, none⟩), .iface 24 (.agg #[.int .i64 n]), .int .i64 o] w fun e w' => e = .returned (.bool true) ∧ Only (fun b => b = M) w w' ∧ VmB w' M (k + 1) d := by
  have HM : Hid (Calls Tryd.prog 12 #[.pointer (some ⟨M, 0, none⟩)] w fun e w' => e = .returned (.bool true) ∧ Only (fun b => b = M) w w' ∧ VmB w' M (k + 1) d) := vcount_any M k d w h h1 h2
  have HA : Hid (∀ w1, Calls Tryd.prog 17 #[.iface 24 (.agg #[.int .i64 n])] w1 fun e w' => e = .returned (.bool true) ∧ Only (fun _ => False) w1 w') := alone_int n g1 g2
  have hl := va_miss 24 34 43 _ Tryd.underlying34 (by intro m h; cases h) (by decide) (.agg #[.slice none 0 0]) (fun _ => rfl)
  have hq := va_miss 24 38 43 _ Tryd.underlying38 (by intro m h; cases h) (by decide) (.agg #[.slice none 0 0]) (fun _ => rfl)
  have hb : M < w.heap.size := (Array.getElem?_eq_some_iff.mp h).1
  have HB : Hid (M < w.heap.size) := hb
  clear h g1 g2 hb
  go_enter Tryd.func9, Tryd.ntmps9
  go_wp2_with fail
  refine (show Calls Tryd.prog 12 _ _ _ from HM.out).mono ?_
  rintro e w1 ⟨rfl, o1, m1⟩
  have O1 : Hid (Only (fun b => b = M) w w1) := o1
  have M1 : Hid (VmB w1 M (k + 1) d) := m1
  clear HM o1 m1
  go_wp2_with fail
  all_goals
    refine (show Calls Tryd.prog 17 _ _ _ from HA.out _).mono ?_
    rintro e w2 ⟨rfl, o2⟩
    have o3 : Only (fun _ => False) w1 w2 := (((Only.refl _ w1).alloc _).alloc _).trans o2 (fun _ _ g => g)
    have O2 : Hid (Only (fun b => b = M) w w2) := O1.out.trans o3 (fun _ _ g => g.elim)
    have M2 : Hid (VmB w2 M (k + 1) d) := (o3.block M (by first | exact Nat.lt_of_lt_of_le HB.out O1.out.size | exact (Array.getElem?_eq_some_iff.mp M1.out).1) (fun h => h)).trans M1.out
    clear o2 o3
    go_wp2
    go_ret
    exact ⟨rfl, O2.out, M2.out⟩
end Go.Proofs.YtpphabkjnfgcmaaDoor
