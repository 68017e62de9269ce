/- The measure of values: a list of two, a quotation of one; Check. Check of what is not sound. A measure of an item; of all values and items; measured, Check, CheckItems. measured, Check, CheckItems, Size: of any value. When two values that hold no others are equal. Equal values: the plain function; slices.EqualFunc. Equal values: same, sameItem; Equal. Equal values: those that hold no others; items; all; Equal. -/
import Derived.Test.YtdkbioahhkmpoaaGreatDoorGaf
import Derived.Laws.StructEq
namespace Go.Proofs.YtdkbioahhkmpoaaGreatDoor
open Go.RowKit Go.Lib
set_option linter.unusedSimpArgs false
set_option linter.unusedVariables false
/-- an item that is not sound: Push of what is no value, or neither Push nor Call -/
def BadI (v : Value) : Prop :=
  (∃ u, v = .iface 170 (.agg #[u]) ∧ BadV u) ∨ ((∀ W : World, (Instr.typeAssert v 137 170 true).run Tryz.prog W = .ok (.tuple #[.agg #[.nilIface], .bool false]) W) ∧ (∀ W : World, (Instr.typeAssert v 137 111 true).run Tryz.prog W = .ok (.tuple #[.agg #[.string ByteArray.empty], .bool false]) W))
set_option maxRecDepth 100000 in
theorem vitem_bad (v : Value) (hv : BadI v) (M : Nat) (k d o : Int) (w : World) (h : VmB w M k d) (h1 : 0 ≤ k) (h2 : k < 900) : Calls Tryz.prog 119 #[.pointer (some ⟨M, 0, none⟩), v, .int .i64 o] w fun e w' => e = .returned (.bool false) ∧ Only (fun b => b = M) w w' := by
  rcases hv with ⟨v, rfl, hv⟩ | ⟨hp, hc⟩
  · have hP := va_hit 170 137 _ Tryz.underlying170 (by intro m h; cases h)
    have HV : Hid (∀ w1, Only (fun _ => False) w w1 → Calls Tryz.prog 92 #[.pointer (some ⟨M, 0, none⟩), v, .int .i64 o] w1 fun e w' => e = .returned (.bool false) ∧ Only (fun b => b = M) w1 w') := fun w1 o1 => vval_bad v hv M k d o w1 ((o1.block M (Array.getElem?_eq_some_iff.mp h).1 (fun g => g)).trans h) h1 (by omega)
    have O0 : Hid (Only (fun _ => False) w w) := Only.refl _ _
    have hk := hv.k
    clear h hv
    rcases hk with rfl | ⟨T, x, rfl⟩
    all_goals
     go_enter Tryz.func119, Tryz.ntmps119
     go_wp2_with fail
     refine (show Calls Tryz.prog 92 _ _ _ from HV.out _ (O0.out.alloc _)).mono ?_
     rintro e w1 ⟨rfl, o1⟩
     have O1 : Hid (Only (fun b => b = M) w w1) := ((Only.refl (fun b => b = M) w).alloc _).trans o1 (fun _ _ g => g)
     clear HV o1
     go_wp2
     go_ret
     exact ⟨rfl, O1.out⟩
  · have O0 : Hid (Only (fun b => b = M) w w) := Only.refl _ _
    clear h
    go_enter Tryz.func119, Tryz.ntmps119
    go_wp2
    all_goals
      go_ret
      refine ⟨rfl, ?_⟩
      repeat (first | exact O0.out | refine Only.alloc ?_ _)
set_option maxRecDepth 100000 in
theorem ievery_bad (v : Value) (hv : BadI v) (M g : Nat) (k d : Int) (w : World) (h : VmB w M k d) (h1 : 0 ≤ k) (h2 : k < 900) (hg0 : w.cell? ⟨g, 0, none⟩ = some v) : Calls Tryz.prog 118 #[.slice (some ⟨g, 0, none⟩) 1 1, .func (.func 119) #[.pointer (some ⟨M, 0, none⟩)] #[], .int .i64 1] w fun e w' => e = .returned (.bool false) ∧ Only (fun b => b = M) w w' := by
  have HV : Hid (Calls Tryz.prog 119 #[.pointer (some ⟨M, 0, none⟩), v, .int .i64 1] w fun e w' => e = .returned (.bool false) ∧ Only (fun b => b = M) w w') := vitem_bad v hv M k d 1 w h h1 h2
  clear h hv
  go_enter Tryz.func118, Tryz.ntmps118
  go_wp2
  go_loopw [11] (fun r wr => r = .int .i64 0 ∧ Hid (wr = w)) (fun r _ => 0)
  case atStart => exact ⟨rfl, rfl⟩
  case round =>
    obtain ⟨rfl, HW⟩ := hrel
    obtain rfl := HW.out
    go_wp2_with fail
    refine (show Calls Tryz.prog 119 _ _ _ from HV.out).mono ?_
    rintro e w2 ⟨rfl, o2⟩
    have O2 : Hid (Only (fun b => b = M) wr w2) := o2
    clear o2 HV hg0 HW
    go_wp2
    go_ret
    exact ⟨rfl, O2.out⟩
/-- a value that is not sound: no value; a list of 1 and of no value; a quotation of one bad item -/
def BadW (w : World) (x : Value) : Prop :=
  BadV x ∨ (∃ g v, x = .iface 132 (.agg #[.slice (some ⟨g, 0, none⟩) 2 2]) ∧ BadV v ∧ w.cell? ⟨g, 0, none⟩ = some i1v ∧ w.cell? ⟨g, 1, none⟩ = some v) ∨ (∃ g v, x = .iface 80 (.agg #[.slice (some ⟨g, 0, none⟩) 1 1]) ∧ BadI v ∧ w.cell? ⟨g, 0, none⟩ = some v)
theorem BadW.one {w : World} (v : Value) (h : BadV v) : BadW w v := .inl h
theorem BadW.list {w : World} (g : Nat) (v : Value) (h : BadV v) (hg0 : w.cell? ⟨g, 0, none⟩ = some i1v) (hg1 : w.cell? ⟨g, 1, none⟩ = some v) : BadW w (.iface 132 (.agg #[.slice (some ⟨g, 0, none⟩) 2 2])) := .inr (.inl ⟨g, v, rfl, h, hg0, hg1⟩)
theorem BadW.quot {w : World} (g : Nat) (v : Value) (h : BadI v) (hg0 : w.cell? ⟨g, 0, none⟩ = some v) : BadW w (.iface 80 (.agg #[.slice (some ⟨g, 0, none⟩) 1 1])) := .inr (.inr ⟨g, v, rfl, h, hg0⟩)
theorem BadI.push (v : Value) (h : BadV v) : BadI (.iface 170 (.agg #[v])) := .inl ⟨v, rfl, h⟩
set_option maxRecDepth 100000 in
theorem vval_list (M g : Nat) (v : Value) (hv : BadV v) (w : World) (h : VmB w M 0 0) (hgM : g ≠ M) (hg0 : w.cell? ⟨g, 0, none⟩ = some i1v) (hg1 : w.cell? ⟨g, 1, none⟩ = some v) : Calls Tryz.prog 92 #[.pointer (some ⟨M, 0, none⟩), .iface 132 (.agg #[.slice (some ⟨g, 0, none⟩) 2 2]), .int .i64 0] w fun e w' => e = .returned (.bool false) ∧ Only (fun b => b = M) w w' := by
  have HC : Hid (Calls Tryz.prog 115 #[.pointer (some ⟨M, 0, none⟩)] w fun e w' => e = .returned (.bool true) ∧ Only (fun b => b = M) w w' ∧ VmB w' M (0 + 1) 0) := vcount_any M 0 0 w h (by omega) (by omega)
  have HE : Hid (∀ w1 k d, VmB w1 M k d → 0 ≤ d → d ≤ 32 → Calls Tryz.prog 116 #[.pointer (some ⟨M, 0, none⟩), .int .i64 1] w1 fun e w' => e = .returned (.bool true) ∧ Only (fun b => b = M) w1 w' ∧ ∃ d', VmB w' M k d' ∧ 0 ≤ d' ∧ d' ≤ 32) := fun w1 k d => venter_any M k d w1
  have HV : Hid (∀ w1 k d, VmB w1 M k d → 0 ≤ k → k < 900 → w1.cell? ⟨g, 0, none⟩ = some i1v → w1.cell? ⟨g, 1, none⟩ = some v → Calls Tryz.prog 117 #[.slice (some ⟨g, 0, none⟩) 2 2, .func (.func 92) #[.pointer (some ⟨M, 0, none⟩)] #[], .int .i64 1] w1 fun e w' => e = .returned (.bool false) ∧ Only (fun b => b = M) w1 w') := fun w1 k d a1 a2 a3 a4 a5 => vevery_bad v hv M g k d w1 a1 a2 a3 hgM a4 a5
  have hl := va_hit 132 76 _ Tryz.underlying132 (by intro m h; cases h)
  have G : Hid (w.cell? ⟨g, 0, none⟩ = some i1v ∧ w.cell? ⟨g, 1, none⟩ = some v) := ⟨hg0, hg1⟩
  clear h hv hg0 hg1
  go_enter Tryz.func92, Tryz.ntmps92
  go_wp2_with fail
  refine (show Calls Tryz.prog 115 _ _ _ from HC.out).mono ?_
  rintro e w1 ⟨rfl, o1, m1⟩
  have O1 : Hid (Only (fun b => b = M) w w1) := o1
  have M1 : Hid (VmB w1 M (0 + 1) 0) := m1
  clear HC o1 m1
  go_wp2_with fail
  have b1 : M < w1.heap.size := (Array.getElem?_eq_some_iff.mp M1.out).1
  have m2 : VmB (w1.alloc (.cells #[.slice (some ⟨g, 0, none⟩) 2 2] 132)) M (0 + 1) 0 := (((Only.refl (fun _ => False) w1).alloc _).block M b1 (fun h => h)).trans M1.out
  have l2 : (w1.alloc (.cells #[.slice (some ⟨g, 0, none⟩) 2 2] 132)).cell? ⟨w1.heap.size, 0, none⟩ = some (.slice (some ⟨g, 0, none⟩) 2 2) := by
    exact (wr_cell (va_at w1 (.cells #[.slice (some ⟨g, 0, none⟩) 2 2] 132) _ rfl) 0).trans rfl
  refine (show Calls Tryz.prog 116 _ _ _ from HE.out _ _ _ m2 (by omega) (by omega)).mono ?_
  rintro e w3 ⟨rfl, o3, d', m3, d1, d2⟩
  have l3 := o3.cell l2 (fun h => absurd h (Nat.ne_of_gt b1))
  have o4 : Only (fun b => b = M) w w3 := (O1.out.alloc _).trans o3 (fun _ _ g => g)
  have O4 : Hid (Only (fun b => b = M) w w3) := o4
  have G4 : Hid (w3.cell? ⟨g, 0, none⟩ = some i1v ∧ w3.cell? ⟨g, 1, none⟩ = some v) := ⟨o4.cell G.out.1 (fun h => hgM h), o4.cell G.out.2 (fun h => hgM h)⟩
  have M3 : Hid (VmB w3 M (0 + 1) d') := m3
  clear HE o3 o4 O1 M1 m2 l2 m3 d1 d2 G b1
  go_wp2_with fail
  refine (show Calls Tryz.prog 117 _ _ _ from HV.out _ _ _ M3.out (by omega) (by omega) G4.out.1 G4.out.2).mono ?_
  rintro e w5 ⟨rfl, o5⟩
  have O5 : Hid (Only (fun b => b = M) w w5) := O4.out.trans o5 (fun _ _ g => g)
  clear HV o5 O4 G4 M3 l3
  go_wp2
  go_ret
  exact ⟨rfl, O5.out⟩
set_option maxRecDepth 100000 in
theorem vval_quot (M g : Nat) (v : Value) (hv : BadI v) (w : World) (h : VmB w M 0 0) (hgM : g ≠ M) (hg0 : w.cell? ⟨g, 0, none⟩ = some v) : Calls Tryz.prog 92 #[.pointer (some ⟨M, 0, none⟩), .iface 80 (.agg #[.slice (some ⟨g, 0, none⟩) 1 1]), .int .i64 0] w fun e w' => e = .returned (.bool false) ∧ Only (fun b => b = M) w w' := by
  have HC : Hid (Calls Tryz.prog 115 #[.pointer (some ⟨M, 0, none⟩)] w fun e w' => e = .returned (.bool true) ∧ Only (fun b => b = M) w w' ∧ VmB w' M (0 + 1) 0) := vcount_any M 0 0 w h (by omega) (by omega)
  have HE : Hid (∀ w1 k d, VmB w1 M k d → 0 ≤ d → d ≤ 32 → Calls Tryz.prog 116 #[.pointer (some ⟨M, 0, none⟩), .int .i64 1] w1 fun e w' => e = .returned (.bool true) ∧ Only (fun b => b = M) w1 w' ∧ ∃ d', VmB w' M k d' ∧ 0 ≤ d' ∧ d' ≤ 32) := fun w1 k d => venter_any M k d w1
  have HV : Hid (∀ w1 k d, VmB w1 M k d → 0 ≤ k → k < 900 → w1.cell? ⟨g, 0, none⟩ = some v → Calls Tryz.prog 118 #[.slice (some ⟨g, 0, none⟩) 1 1, .func (.func 119) #[.pointer (some ⟨M, 0, none⟩)] #[], .int .i64 1] w1 fun e w' => e = .returned (.bool false) ∧ Only (fun b => b = M) w1 w') := fun w1 k d a1 a2 a3 a4 => ievery_bad v hv M g k d w1 a1 a2 a3 a4
  have hl := va_miss 80 132 76 _ Tryz.underlying132 (by intro m h; cases h) (by decide) (.agg #[.slice none 0 0]) (fun _ => rfl)
  have hq := va_hit 80 76 _ Tryz.underlying80 (by intro m h; cases h)
  have G : Hid (w.cell? ⟨g, 0, none⟩ = some v) := hg0
  clear h hv hg0
  go_enter Tryz.func92, Tryz.ntmps92
  go_wp2_with fail
  refine (show Calls Tryz.prog 115 _ _ _ from HC.out).mono ?_
  rintro e w1 ⟨rfl, o1, m1⟩
  have O1 : Hid (Only (fun b => b = M) w w1) := o1
  have M1 : Hid (VmB w1 M (0 + 1) 0) := m1
  clear HC o1 m1
  go_wp2_with fail
  have b0 : M < w1.heap.size := (Array.getElem?_eq_some_iff.mp M1.out).1
  obtain ⟨w1q, ew⟩ : ∃ w1q, w1q = w1.alloc (.cells #[.slice none 0 0] 132) := ⟨_, rfl⟩
  rw [← ew]
  have O1q : Hid (Only (fun b => b = M) w w1q) := ew ▸ O1.out.alloc _
  have M1q : Hid (VmB w1q M (0 + 1) 0) := ew ▸ (((Only.refl (fun _ => False) w1).alloc _).block M b0 (fun h => h)).trans M1.out
  have b1 : M < w1q.heap.size := (Array.getElem?_eq_some_iff.mp M1q.out).1
  have m2 : VmB (w1q.alloc (.cells #[.slice (some ⟨g, 0, none⟩) 1 1] 80)) M (0 + 1) 0 := (((Only.refl (fun _ => False) w1q).alloc _).block M b1 (fun h => h)).trans M1q.out
  have l2 : (w1q.alloc (.cells #[.slice (some ⟨g, 0, none⟩) 1 1] 80)).cell? ⟨w1q.heap.size, 0, none⟩ = some (.slice (some ⟨g, 0, none⟩) 1 1) := by
    exact (wr_cell (va_at w1q (.cells #[.slice (some ⟨g, 0, none⟩) 1 1] 80) _ rfl) 0).trans rfl
  refine (show Calls Tryz.prog 116 _ _ _ from HE.out _ _ _ m2 (by omega) (by omega)).mono ?_
  rintro e w3 ⟨rfl, o3, d', m3, d1, d2⟩
  have l3 := o3.cell l2 (fun h => absurd h (Nat.ne_of_gt b1))
  have ez : w1q.heap.size = w1.heap.size + 1 := ew ▸ Array.size_push ..
  rw [ez] at l3
  have o4 : Only (fun b => b = M) w w3 := (O1q.out.alloc _).trans o3 (fun _ _ g => g)
  have O4 : Hid (Only (fun b => b = M) w w3) := o4
  have G4 : Hid (w3.cell? ⟨g, 0, none⟩ = some v) := o4.cell G.out (fun h => hgM h)
  have M3 : Hid (VmB w3 M (0 + 1) d') := m3
  clear HE o3 o4 O1q M1q O1 M1 ez ew b0 m2 l2 m3 d1 d2 G b1
  go_wp2_with fail
  refine (show Calls Tryz.prog 118 _ _ _ from HV.out _ _ _ M3.out (by omega) (by omega) G4.out).mono ?_
  rintro e w5 ⟨rfl, o5⟩
  have O5 : Hid (Only (fun b => b = M) w w5) := O4.out.trans o5 (fun _ _ g => g)
  clear HV o5 O4 G4 M3 l3
  go_wp2
  go_ret
  exact ⟨rfl, O5.out⟩
end Go.Proofs.YtdkbioahhkmpoaaGreatDoor
namespace Go.Proofs.YtdkbioahhkmpoaaGreatDoor
open Go.RowKit Go.Lib
set_option linter.unusedSimpArgs false
set_option linter.unusedVariables false
theorem vval_badw (v : Value) (M : Nat) (w0 w : World) (hv : BadW w0 v) (hM : w0.heap.size ≤ M) (o : Only (fun _ => False) w0 w) (h : VmB w M 0 0) : Calls Tryz.prog 92 #[.pointer (some ⟨M, 0, none⟩), v, .int .i64 0] w fun e w' => e = .returned (.bool false) ∧ Only (fun b => b = M) w w' := by
  have lt : ∀ g x, w0.cell? ⟨g, 0, none⟩ = some x → g ≠ M := by
    intro g x hg e
    subst e
    have : w0.heap[g]? = none := Array.getElem?_eq_none hM
    simp [World.cell?, this] at hg
  rcases hv with hv | ⟨g, v, rfl, hv, hg0, hg1⟩ | ⟨g, v, rfl, hv, hg0⟩
  · exact vval_bad v hv M 0 0 0 w h (by omega) (by omega)
  · exact vval_list M g v hv w h (lt g _ hg0) (o.cell hg0 (fun h => h)) (o.cell hg1 (fun h => h))
  · exact vval_quot M g v hv w h (lt g _ hg0) (o.cell hg0 (fun h => h))
theorem results_two {fn : Func} {t u : Tmp} (h : fn.results = #[.cell u 127, .tmp t]) (tmps : Array Value) (w : World) (B : Nat) {x y : Value} (h0 : w.cell? ⟨B, 0, none⟩ = some x) (h1 : w.cell? ⟨B, 1, none⟩ = some y) (ha : tmps.getD u undef = .pointer (some ⟨B, 0, none⟩)) :
    (results fn tmps).run Tryz.prog w = .ok (.tuple #[.agg #[x, y], tmps.getD t undef]) w := by
  have ha' : tmps[u]?.getD undef = .pointer (some ⟨B, 0, none⟩) := by simpa using ha
  simp [results, h, ha', asAddr, go_sem, loadVar, isAgg, Tryz.underlying127, h0, h1]
theorem set2 {w : World} {B : Nat} {x0 y0 : Value} (h0 : w.cell? ⟨B, 0, none⟩ = some x0) (h1 : w.cell? ⟨B, 1, none⟩ = some y0) (x y : Value) :
    ((w.setCell ⟨B, 0, none⟩ x).setCell ⟨B, 1, none⟩ y).cell? ⟨B, 0, none⟩ = some x ∧ ((w.setCell ⟨B, 0, none⟩ x).setCell ⟨B, 1, none⟩ y).cell? ⟨B, 1, none⟩ = some y := by
  have ne : ∀ (W : World) (i j : Nat) (v : Value), i ≠ j → (W.setCell ⟨B, i, none⟩ v).cell? ⟨B, j, none⟩ = W.cell? ⟨B, j, none⟩ := fun W i j v g => by apply World.cell?_setCell_other; intro e; exact g (by injection e)
  refine ⟨?_, ?_⟩
  · rw [ne _ 1 0 _ (by omega)]
    exact World.cell?_setCell_same' _ _ _ (by rw [h0]; rfl)
  · exact World.cell?_setCell_same' _ _ _ (by rw [ne _ 0 1 _ (by omega), h1]; rfl)
set_option maxRecDepth 100000 in
theorem measured_bad (v : Value) (w : World) (hv : BadW w v) : Calls Tryz.prog 66 #[v] w fun e w' => e = .returned (.tuple #[.agg #[.int .i64 0, .int .i64 0], .int .i64 1]) ∧ Only (fun _ => False) w w' := by
  have HV : Hid (Calls Tryz.prog 92 #[.pointer (some ⟨w.heap.size + 1, 0, none⟩), v, .int .i64 0] ((w.alloc (.cells #[.int .i64 0, .int .i64 0] 127)).alloc (.cells #[.int .i64 0, .int .i64 0] 127)) fun e w' => e = .returned (.bool false) ∧ Only (fun b => b = w.heap.size + 1) ((w.alloc (.cells #[.int .i64 0, .int .i64 0] 127)).alloc (.cells #[.int .i64 0, .int .i64 0] 127)) w') := vval_badw v (w.heap.size + 1) w _ hv (Nat.le_succ _) (((Only.refl _ w).alloc _).alloc _) (va_at (w.alloc (.cells #[.int .i64 0, .int .i64 0] 127)) _ _ (Array.size_push ..).symm)
  have ca : ((w.alloc (.cells #[.int .i64 0, .int .i64 0] 127)).alloc (.cells #[.int .i64 0, .int .i64 0] 127)).heap[w.heap.size]? = some (.cells #[.int .i64 0, .int .i64 0] 127) := (((Only.refl (fun _ => False) (w.alloc (.cells #[.int .i64 0, .int .i64 0] 127))).alloc _).block w.heap.size (by rw [show (w.alloc (.cells #[.int .i64 0, .int .i64 0] 127)).heap.size = w.heap.size + 1 from Array.size_push ..]; omega) (fun h => h)).trans (va_at w _ _ rfl)
  have CA : Hid (((w.alloc (.cells #[.int .i64 0, .int .i64 0] 127)).alloc (.cells #[.int .i64 0, .int .i64 0] 127)).heap[w.heap.size]? = some (.cells #[.int .i64 0, .int .i64 0] 127)) := ca
  have CZ : Hid (((w.alloc (.cells #[.int .i64 0, .int .i64 0] 127)).alloc (.cells #[.int .i64 0, .int .i64 0] 127)).heap.size = w.heap.size + 2) := (Array.size_push ..).trans (congrArg (· + 1) (Array.size_push ..))
  clear ca
  clear hv
  go_enter Tryz.func66, Tryz.ntmps66
  go_wp2_with fail
  refine (show Calls Tryz.prog 92 _ _ _ from HV.out).mono ?_
  rintro e w1 ⟨rfl, o1⟩
  have O1 : Hid (Only (fun _ => False) w w1) := (((Only.refl (fun _ => False) w).alloc _).alloc _).trans o1 (fun k hk e => by omega)
  have h0 := (o1.block w.heap.size (by rw [CZ.out]; omega) (by omega)).trans CA.out
  have c0 := wr_cell h0 0
  have c1 := wr_cell h0 1
  have f0 := wr_froz h0 0
  have f1 := wr_froz h0 1
  simp only [List.getElem?_toArray, List.getElem?_cons_succ, List.getElem?_cons_zero] at c0 c1
  clear h0 CA CZ
  clear HV o1
  have q := set2 c0 c1 (.int .i64 0) (.int .i64 0)
  have Q : Hid (((w1.setCell ⟨w.heap.size, 0, none⟩ (.int .i64 0)).setCell ⟨w.heap.size, 1, none⟩ (.int .i64 0)).cell? ⟨w.heap.size, 0, none⟩ = some (.int .i64 0) ∧ ((w1.setCell ⟨w.heap.size, 0, none⟩ (.int .i64 0)).setCell ⟨w.heap.size, 1, none⟩ (.int .i64 0)).cell? ⟨w.heap.size, 1, none⟩ = some (.int .i64 0)) := q
  clear q
  go_wp2
  refine bodyPost_ret (results_two rfl _ _ w.heap.size Q.out.1 Q.out.2 rfl) rfl ?_
  exact ⟨rfl, (O1.out.setCell _ _ (fun g => by simp only at g; omega)).setCell _ _ (fun g => by simp only at g; omega)⟩
set_option maxRecDepth 100000 in
theorem check_bad (v : Value) (w : World) (hv : BadW w v) : Calls Tryz.prog 48 #[v] w fun e w' => e = .returned (.int .i64 1) ∧ Only (fun _ => False) w w' := by
  have HV : Hid (Calls Tryz.prog 66 #[v] w fun e w' => e = .returned (.tuple #[.agg #[.int .i64 0, .int .i64 0], .int .i64 1]) ∧ Only (fun _ => False) w w') := measured_bad v w hv
  clear hv
  go_enter Tryz.func48, Tryz.ntmps48
  go_wp2_with fail
  refine (show Calls Tryz.prog 66 _ _ _ from HV.out).mono ?_
  rintro e w1 ⟨rfl, o1⟩
  have O1 : Hid (Only (fun _ => False) w w1) := o1
  clear HV o1
  go_wp2
  go_ret
  exact ⟨rfl, O1.out.alloc _⟩
set_option maxRecDepth 100000 in
theorem checkitems_bad (g : Nat) (v : Value) (w : World) (hv : BadI v) (hg : w.cell? ⟨g, 0, none⟩ = some v) : Calls Tryz.prog 53 #[.slice (some ⟨g, 0, none⟩) 1 1] w fun e w' => e = .returned (.int .i64 1) ∧ Only (fun _ => False) w w' := by
  have HV : Hid (Calls Tryz.prog 48 #[.iface 80 (.agg #[.slice (some ⟨g, 0, none⟩) 1 1])] w fun e w' => e = .returned (.int .i64 1) ∧ Only (fun _ => False) w w') := check_bad _ w (.quot g v hv hg)
  clear hv hg
  go_enter Tryz.func53, Tryz.ntmps53
  go_wp2_with fail
  refine (show Calls Tryz.prog 48 _ _ _ from HV.out).mono ?_
  rintro e w1 ⟨rfl, o1⟩
  have O1 : Hid (Only (fun _ => False) w w1) := o1
  clear HV o1
  go_wp2
  go_ret
  exact ⟨rfl, O1.out⟩
end Go.Proofs.YtdkbioahhkmpoaaGreatDoor
namespace Go.Proofs.YtdkbioahhkmpoaaGreatDoor
open Go.RowKit Go.Lib
set_option linter.unusedSimpArgs false
set_option linter.unusedVariables false
theorem nilP (W : World) : (Instr.typeAssert .nilIface 137 170 true).run Tryz.prog W = .ok (.tuple #[.agg #[.nilIface], .bool false]) W := by kernel_rfl
theorem nilC (W : World) : (Instr.typeAssert .nilIface 137 111 true).run Tryz.prog W = .ok (.tuple #[.agg #[.string ⟨#[]⟩], .bool false]) W := by kernel_rfl
set_option maxRecDepth 100000 in
set_option maxHeartbeats 4000000 in
theorem mitem (d : Nat) (H : MsC d false 92) : MsC (d + 1) true 119 := by
  intro t v w S M k o dd h hM hsm hv hk hd1 hd2 ho hT hg
  rcases h with ⟨h7, hl, rfl⟩ | ⟨h8, hl, rfl⟩ | ⟨h7, h8, u, rfl, hu⟩
  · have hms : msB (d + 1) true t k o = (decide (k + 1 ≤ 1024) && clB t.s) := by
      unfold msB okV sz dp
      rw [if_pos h7, if_pos (.inl h7), if_pos (.inl h7), decide_eq_true (show o + 0 ≤ 32 by omega), Bool.and_true, Bool.and_comm]
    have hsz : sz (d + 1) true t = 1 := by unfold sz; rw [if_pos (.inl h7)]
    have hdp : dp (d + 1) true t = 0 := by unfold dp; rw [if_pos (.inl h7)]
    have mP := va_miss 111 170 137 _ Tryz.underlying170 (by intro m h; cases h) (by decide) _ vzero_Push
    have hC := va_hit 111 137 _ Tryz.underlying111 (by intro m h; cases h)
    have HM : Hid (∀ w1, Only (fun _ => False) w w1 → Calls Tryz.prog 115 #[.pointer (some ⟨M, 0, none⟩)] w1 fun e w' => e = .returned (.bool (decide ((k : Int) + 1 ≤ 1024))) ∧ Only (fun b => b = M) w1 w' ∧ VmB w' M ((k : Int) + 1) dd) := fun w1 o1 => vcount_all M k dd w1 (hv.keep o1) (by omega) (by omega)
    have HA : Hid (∀ w1, Only (fun b => b = M) w w1 → Calls Tryz.prog 131 #[.agg #[.string t.s]] w1 fun e w' => e = .returned (.bool (clB t.s)) ∧ Only (fun _ => False) w1 w') := fun w1 o1 => vcallable_any t.s w1 (hT.keep o1 hg.1 hg.2.1 hg.2.2).1
    have HD : Hid (dd = max dd ((o + 0 : Nat) : Int) ∧ dd ≤ 1000 ∧ M < w.heap.size) := ⟨by omega, hd2, (Array.getElem?_eq_some_iff.1 hv).1⟩
    have O0 : Hid (Only (fun _ => False) w w) := Only.refl _ _
    rw [hms, hsz, hdp]
    clear hdp
    obtain ⟨a, ha⟩ : ∃ a, a = clB t.s := ⟨_, rfl⟩
    obtain ⟨s, hs⟩ : ∃ s, s = t.s := ⟨_, rfl⟩
    rw [← ha] at HA ⊢
    rw [← hs] at HA ⊢
    clear hM hsm hv hd1 hd2 ho hT hg hsz hms ha hs hl h7 H
    by_cases h1 : k + 1 ≤ 1024
    · have e1 : decide ((k : Int) + 1 ≤ 1024) = true := decide_eq_true (by omega)
      rw [e1] at HM
      rw [decide_eq_true h1]
      clear e1
      go_enter Tryz.func119, Tryz.ntmps119
      go_wp2_with fail
      refine (show Calls Tryz.prog 115 _ _ _ from HM.out _ (by repeat' first | exact O0.out | apply Only.alloc)).mono ?_
      rintro e w1 ⟨rfl, o1, m1⟩
      have O1 : Hid (Only (fun b => b = M) w w1 ∧ VmB w1 M ((k : Int) + 1) dd) := ⟨Only.trans (show Only (fun b => b = M) w _ by repeat' first | exact (Only.refl _ _) | apply Only.alloc) o1 (fun _ _ g => g), m1⟩
      have x0 : w1.cell? ⟨w.heap.size + 1, 0, none⟩ = some (.string s) := o1.cell (a := ⟨w.heap.size + 1, 0, none⟩) (by simp [go_sem]) (by have := HD.out; simp only; omega)
      have HA1 : Hid _ := HA.out w1 O1.out.1
      clear HM o1 m1 HA
      go_wp2_with fail
      refine (show Calls Tryz.prog 131 _ _ _ from HA1.out).mono ?_
      rintro e w2 ⟨rfl, o2⟩
      have HF : Hid (Only (fun b => b = M) w w2 ∧ VmB w2 M ((k + 1 : Nat) : Int) dd) := ⟨O1.out.1.trans (o2.mono (bs' := fun b => b = M) (fun _ _ g => g.elim)) (fun _ _ g => g), by have := O1.out.2.keep o2; simpa using this⟩
      clear HA1 o2 O1 x0
      go_wp2
      go_ret
      exact ⟨by simp, HF.out.1, fun _ => ⟨dd, HF.out.2, HD.out.1, HD.out.2.1⟩⟩
    · have e1 : decide ((k : Int) + 1 ≤ 1024) = false := decide_eq_false (by omega)
      rw [e1] at HM
      rw [decide_eq_false h1]
      clear e1 HA
      go_enter Tryz.func119, Tryz.ntmps119
      go_wp2_with fail
      refine (show Calls Tryz.prog 115 _ _ _ from HM.out _ (by repeat' first | exact O0.out | apply Only.alloc)).mono ?_
      rintro e w1 ⟨rfl, o1, m1⟩
      have O1 : Hid (Only (fun b => b = M) w w1) := Only.trans (show Only (fun b => b = M) w _ by repeat' first | exact (Only.refl _ _) | apply Only.alloc) o1 (fun _ _ g => g)
      clear HM o1 m1
      go_wp2
      go_ret
      exact ⟨by simp, O1.out, fun h => by simp at h⟩
  · have hms : msB (d + 1) true t k o = false := by
      unfold msB okV
      rw [if_neg (by omega), if_pos h8]
      rfl
    have mP := nilP
    have mC := nilC
    have O0 : Hid (Only (fun b => b = M) w w) := Only.refl _ _
    rw [hms]
    clear hM hsm hv hd1 hd2 ho hT hg hms hl h8 H
    go_enter Tryz.func119, Tryz.ntmps119
    go_wp2
    go_ret
    exact ⟨rfl, (by repeat' first | exact O0.out | apply Only.alloc), fun h => by cases h⟩
  · have hsz : sz (d + 1) true t = sz d false t := by
      show (if t.k = 7 ∨ t.k = 8 then 1 else sz d false t) = sz d false t
      rw [if_neg (by omega)]
    have hdp : dp (d + 1) true t = dp d false t := by
      show (if t.k = 7 ∨ t.k = 8 then 0 else dp d false t) = dp d false t
      rw [if_neg (by omega)]
    have hok : okV (d + 1) true t = okV d false t := by
      show (if t.k = 7 then clB t.s else if t.k = 8 then false else okV d false t) = okV d false t
      rw [if_neg h7, if_neg h8]
    have hms : msB (d + 1) true t k o = msB d false t k o := by
      unfold msB
      rw [hok, hsz, hdp]
    clear hok
    obtain ⟨T1, y1, rfl⟩ := hu.iface h8
    have hP := va_hit 170 137 _ Tryz.underlying170 (by intro m h; cases h)
    have HV : Hid (∀ w1, Only (fun _ => False) w w1 → Calls Tryz.prog 92 #[.pointer (some ⟨M, 0, none⟩), .iface T1 y1, .int .i64 (o : Int)] w1 fun e w' => e = .returned (.bool (msB d false t k o)) ∧ Hid (Only (fun b => b = M) w1 w' ∧ (msB d false t k o = true → ∃ dd' : Int, VmB w' M ((k + sz d false t : Nat) : Int) dd' ∧ dd' = max dd ((o + dp d false t : Nat) : Int) ∧ dd' ≤ 1000))) := fun w1 o1 => H t _ w1 S M k o dd (hu.only o1 (fun _ _ g => g)) hM hsm (hv.keep o1) hk hd1 hd2 ho (hT.frame o1) hg
    have O0 : Hid (Only (fun _ => False) w w) := Only.refl _ _
    rw [hms, hsz, hdp]
    clear hdp
    obtain ⟨Z, hZ⟩ : ∃ Z, Z = msB d false t k o := ⟨_, rfl⟩
    rw [← hZ] at HV ⊢
    clear hM hsm hv hd1 hd2 ho hT hg hms hsz h7 h8 H hu hZ
    go_enter Tryz.func119, Tryz.ntmps119
    go_wp2_with fail
    refine (show Calls Tryz.prog 92 _ _ _ from HV.out _ (by repeat' first | exact O0.out | apply Only.alloc)).mono ?_
    rintro e w1 ⟨rfl, G1⟩
    have HF : Hid (Only (fun b => b = M) w w1 ∧ (Z = true → ∃ dd' : Int, VmB w1 M ((k + sz d false t : Nat) : Int) dd' ∧ dd' = max dd ((o + dp d false t : Nat) : Int) ∧ dd' ≤ 1000)) := ⟨Only.trans (show Only (fun b => b = M) w _ by repeat' first | exact (Only.refl _ _) | apply Only.alloc) G1.out.1 (fun _ _ g => g), G1.out.2⟩
    clear HV G1
    go_wp2
    go_ret
    exact ⟨rfl, HF.out⟩
theorem mval (d : Nat) (H1 : MsC d false 92) (H2 : MsC d true 119) : MsC (d + 1) false 92 := by
  intro t v w S M k o dd h hM hsm hv hk hd1 hd2 ho hT hg
  by_cases h4 : t.k = 4
  · exact mlist d (ev_values d H1) t v w S M k o dd h h4 hM hsm hv hk hd1 hd2 ho hT hg
  by_cases h5 : t.k = 5
  · exact mquot d (ev_items d H2) t v w S M k o dd h h5 hM hsm hv hk hd1 hd2 ho hT hg
  exact mleaf d t v w S M k o dd h (by omega) (by obtain ⟨e, he⟩ := hsm; exact he.str) hv hk hd1 hd2 ho hT hg
theorem ms_all : ∀ d : Nat, MsC d false 92 ∧ MsC d true 119
  | 0 => ⟨fun t v w S M k o dd h => h.elim, fun t v w S M k o dd h => h.elim⟩
  | d + 1 => ⟨mval d (ms_all d).1 (ms_all d).2, mitem d (ms_all d).1⟩
end Go.Proofs.YtdkbioahhkmpoaaGreatDoor
namespace Go.Proofs.YtdkbioahhkmpoaaGreatDoor
open Go.RowKit Go.Lib
set_option linter.unusedSimpArgs false
set_option linter.unusedVariables false
/-- is a value sound? -/
def sdB (d : Nat) (t : Vt) : Bool := msB d false t 0 0
/-- what measured answers -/
def MeP (Z : Bool) (Y Q : Nat) (w : World) (e : Ending) (w' : World) : Prop := ∃ dd : Int, (Z = true → dd = (Q : Int)) ∧ e = .returned (.tuple #[.agg #[.int .i64 (if Z then (Y : Int) else 0), .int .i64 (if Z then dd else 0)], .int .i64 (if Z then 0 else 1)]) ∧ Only (fun _ => False) w w'
set_option maxRecDepth 100000 in
set_option maxHeartbeats 1000000 in
theorem measured_any {d : Nat} {t : Vt} {v : Value} {w : World} {S : Nat → Prop} (h : TiAt w S d false t v) (hS : ∀ b, S b → b < w.heap.size) (hsm : ∃ e, SmT e t) (hT : Tb w) : Calls Tryz.prog 66 #[v] w (MeP (sdB d t) (sz d false t) (dp d false t) w) := by
  obtain ⟨W, hW⟩ : ∃ W, W = (w.alloc (.cells #[.int .i64 0, .int .i64 0] 127)).alloc (.cells #[.int .i64 0, .int .i64 0] 127) := ⟨_, rfl⟩
  obtain ⟨N, hN⟩ : ∃ N, N = w.heap.size := ⟨_, rfl⟩
  have oW : Only (fun _ => False) w W := by rw [hW]; exact ((Only.refl _ w).alloc _).alloc _
  have a0 : W.heap[N]? = some (.cells #[.int .i64 0, .int .i64 0] 127) := by rw [hW]; exact (((Only.refl (fun _ => False) _).alloc _).block N (by simp [hN]) (fun g => g)).trans (va_at _ _ _ hN)
  have a1 : W.heap[N + 1]? = some (.cells #[.int .i64 0, .int .i64 0] 127) := by rw [hW]; exact va_at _ _ _ (by simp [hN])
  have lt := hT.lt
  have HV : Hid (Calls Tryz.prog 92 #[.pointer (some ⟨N + 1, 0, none⟩), v, .int .i64 0] W fun e w' => e = .returned (.bool (sdB d t)) ∧ Hid (Only (fun b => b = N + 1) W w' ∧ (sdB d t = true → ∃ dd' : Int, VmB w' (N + 1) ((0 + sz d false t : Nat) : Int) dd' ∧ dd' = max 0 ((0 + dp d false t : Nat) : Int) ∧ dd' ≤ 1000))) :=
    (ms_all d).1 t v W S (N + 1) 0 0 0 (h.only oW (fun _ _ g => g)) (fun b hb => by have := hS b hb; omega) hsm a1 (by omega) (by omega) (by omega) (by omega) (hT.frame oW) ⟨by omega, by omega, by omega⟩
  have HA : Hid (W.heap[N]? = some (.cells #[.int .i64 0, .int .i64 0] 127) ∧ Only (fun _ => False) w W ∧ N = w.heap.size) := ⟨a0, oW, hN⟩
  obtain ⟨Z, hZ⟩ : ∃ Z, Z = sdB d t := ⟨_, rfl⟩
  obtain ⟨Y, hY⟩ : ∃ Y, Y = sz d false t := ⟨_, rfl⟩
  obtain ⟨Q, hQ⟩ : ∃ Q, Q = dp d false t := ⟨_, rfl⟩
  rw [← hZ, ← hY, ← hQ] at HV
  rw [← hZ, ← hY, ← hQ]
  clear h hS hsm hT oW a0 a1 lt hZ hY hQ
  go_enter Tryz.func66, Tryz.ntmps66
  go_wp2_with fail
  rw [← hW, ← hN]
  clear hW hN
  refine (show Calls Tryz.prog 92 _ _ _ from HV.out).mono ?_
  rintro e w1 ⟨rfl, G1⟩
  have o1 := G1.out.1
  have h0 := (o1.block N (Array.getElem?_eq_some_iff.1 HA.out.1).1 (by omega)).trans HA.out.1
  have O1 : Hid (Only (fun _ => False) w w1) := HA.out.2.1.trans o1 (fun k hk e => by have := HA.out.2.2; omega)
  have c0 := wr_cell h0 0
  have c1 := wr_cell h0 1
  have f0 := wr_froz h0 0
  have f1 := wr_froz h0 1
  simp only [List.getElem?_toArray, List.getElem?_cons_succ, List.getElem?_cons_zero] at c0 c1
  cases Z with
  | false =>
    have q := set2 c0 c1 (.int .i64 0) (.int .i64 0)
    have QQ : Hid _ := q
    clear h0 HV o1 G1 q
    go_wp2
    refine bodyPost_ret (results_two rfl _ _ N QQ.out.1 QQ.out.2 rfl) rfl ?_
    refine ⟨0, (fun h => by cases h), rfl, (O1.out.setCell _ _ (fun g => ?_)).setCell _ _ (fun g => ?_)⟩ <;> (have := HA.out.2.2; simp only at g; omega)
  | true =>
    obtain ⟨dd, m1, m2, _⟩ := G1.out.2 rfl
    have HM2 : Hid (dd = (Q : Int)) := by show dd = (Q : Int); rw [m2]; omega
    have d0 := wr_cell m1 0
    have d1 := wr_cell m1 1
    simp only [List.getElem?_toArray, List.getElem?_cons_succ, List.getElem?_cons_zero, Nat.zero_add] at d0 d1
    have q := set2 c0 c1 (.int .i64 (Y : Int)) (.int .i64 dd)
    have QQ : Hid _ := q
    clear h0 HV o1 G1 q m1 m2
    go_wp2
    refine bodyPost_ret (results_two rfl _ _ N QQ.out.1 QQ.out.2 rfl) rfl ?_
    refine ⟨dd, (fun _ => HM2.out), rfl, (O1.out.setCell _ _ (fun g => ?_)).setCell _ _ (fun g => ?_)⟩ <;> (have := HA.out.2.2; simp only at g; omega)
set_option maxRecDepth 100000 in
theorem vcheck_any {d : Nat} {t : Vt} {v : Value} {w : World} {S : Nat → Prop} (h : TiAt w S d false t v) (hS : ∀ b, S b → b < w.heap.size) (hsm : ∃ e, SmT e t) (hT : Tb w) : Calls Tryz.prog 48 #[v] w fun e w' => e = .returned (.int .i64 (if sdB d t then 0 else 1)) ∧ Only (fun _ => False) w w' := by
  have HV : Hid _ := measured_any h hS hsm hT
  clear h hS hsm hT
  obtain ⟨X3, h3⟩ : ∃ X : Int, X = (if sdB d t then 0 else 1) := ⟨_, rfl⟩
  rw [← h3]
  have H3 : Hid (X3 = (if sdB d t then 0 else 1)) := h3
  clear h3
  go_enter Tryz.func48, Tryz.ntmps48
  go_wp2_with fail
  refine (show Calls Tryz.prog 66 _ _ _ from HV.out).mono ?_
  rintro e w1 ⟨dd, _, rfl, o1⟩
  have O1 : Hid (Only (fun _ => False) w w1) := o1
  obtain ⟨X1, h1⟩ : ∃ X : Int, X = (if sdB d t then (sz d false t : Int) else 0) := ⟨_, rfl⟩
  obtain ⟨X2, h2⟩ : ∃ X : Int, X = (if sdB d t then dd else 0) := ⟨_, rfl⟩
  rw [← h1, ← h2, ← H3.out]
  clear HV o1 h1 h2
  go_wp2
  go_ret
  exact ⟨rfl, O1.out.alloc _⟩
end Go.Proofs.YtdkbioahhkmpoaaGreatDoor
namespace Go.Proofs.YtdkbioahhkmpoaaGreatDoor
open Go.RowKit Go.Lib
set_option linter.unusedSimpArgs false
set_option linter.unusedVariables false
theorem eql_iface (U T1 T2 : TypeId) (x y : Value) (w : World) : (binOp .eql U (.iface T1 x) (.iface T2 y)).run Tryz.prog w = ((Op.equalIn Op.maxDepth U (.iface T1 x) (.iface T2 y)).run Tryz.prog w).andThen fun b w' => .ok (.bool b) w' := by
  simp only [binOp]
  simp [Op.equal]
theorem eq_iface {U T : TypeId} {m} {i : TypeInfo} (d : Nat) (x y : Value) (w : World) (hU : Tryz.prog.underlying U = some (.interface m)) (hi : Tryz.prog.info? T = some i) (hc : i.comparable = true) : (Op.equalIn (d + 1) U (.iface T x) (.iface T y)).run Tryz.prog w = (Op.equalIn d T x y).run Tryz.prog w := by
  simp [Op.equalIn, run_underlying hU, typeInfo, hi, hc]
set_option maxRecDepth 100000 in
theorem eq_int (d : Nat) (n m : Int) (w : World) : (Op.equalIn (d + 2) 216 (.agg #[.int .i64 n]) (.agg #[.int .i64 m])).run Tryz.prog w = .ok (n == m) w := by
  have hS : Tryz.prog.underlying 216 = some (.struct (Tryz.prog.fieldsOf 216)) := by kernel_rfl
  have hp : Tryz.prog.stoodInHeld 216 = false := by kernel_rfl
  have u := Tryz.underlying2
  have a := Tryz.isAgg2
  have z := Tryz.sizeOf2
  rw [run_equalIn_agg w (d + 1) 216 _ _ hS hp]
  simp only [Program.fieldsOf, Tryz.underlying216]
  go_simp
  all_goals (cases h : (n == m) <;> simp_all)
theorem eqv_int (U : TypeId) {q} (hU : Tryz.prog.underlying U = some (.interface q)) (n m : Int) (w : World) : (binOp .eql U (.iface 216 (.agg #[.int .i64 n])) (.iface 216 (.agg #[.int .i64 m]))).run Tryz.prog w = .ok (.bool (n == m)) w := by
  obtain ⟨D, hD⟩ : ∃ D, Op.maxDepth = D + 2 + 1 := ⟨9997, rfl⟩
  have h1 := eq_iface (D + 2) (.agg #[.int .i64 n]) (.agg #[.int .i64 m]) w hU (T := 216) (i := Tryz.t216) (by kernel_rfl) (by kernel_rfl)
  rw [eql_iface, hD, h1, eq_int D n m w]
  rfl
set_option maxRecDepth 100000 in
theorem eq_str (d : Nat) (n m : ByteArray) (w : World) : (Op.equalIn (d + 2) 219 (.agg #[.string n]) (.agg #[.string m])).run Tryz.prog w = .ok (n.toList == m.toList) w := by
  have hS : Tryz.prog.underlying 219 = some (.struct (Tryz.prog.fieldsOf 219)) := by kernel_rfl
  have hp : Tryz.prog.stoodInHeld 219 = false := by kernel_rfl
  have u := Tryz.underlying9
  have a := Tryz.isAgg9
  have z := Tryz.sizeOf9
  rw [run_equalIn_agg w (d + 1) 219 _ _ hS hp]
  simp only [Program.fieldsOf, Tryz.underlying219]
  go_simp
  all_goals (cases h : (n.toList == m.toList) <;> simp_all)
theorem eqv_str (U : TypeId) {q} (hU : Tryz.prog.underlying U = some (.interface q)) (n m : ByteArray) (w : World) : (binOp .eql U (.iface 219 (.agg #[.string n])) (.iface 219 (.agg #[.string m]))).run Tryz.prog w = .ok (.bool (n.toList == m.toList)) w := by
  obtain ⟨D, hD⟩ : ∃ D, Op.maxDepth = D + 2 + 1 := ⟨9997, rfl⟩
  have h1 := eq_iface (D + 2) (.agg #[.string n]) (.agg #[.string m]) w hU (T := 219) (i := Tryz.t219) (by kernel_rfl) (by kernel_rfl)
  rw [eql_iface, hD, h1, eq_str D n m w]
  rfl
set_option maxRecDepth 100000 in
theorem eq_bool (d : Nat) (n m : Bool) (w : World) : (Op.equalIn (d + 2) 222 (.agg #[.bool n]) (.agg #[.bool m])).run Tryz.prog w = .ok (n == m) w := by
  have hS : Tryz.prog.underlying 222 = some (.struct (Tryz.prog.fieldsOf 222)) := by kernel_rfl
  have hp : Tryz.prog.stoodInHeld 222 = false := by kernel_rfl
  have u := Tryz.underlying4
  have a := Tryz.isAgg4
  have z := Tryz.sizeOf4
  rw [run_equalIn_agg w (d + 1) 222 _ _ hS hp]
  simp only [Program.fieldsOf, Tryz.underlying222]
  go_simp
  all_goals (cases h : (n == m) <;> simp_all)
theorem eqv_bool (U : TypeId) {q} (hU : Tryz.prog.underlying U = some (.interface q)) (n m : Bool) (w : World) : (binOp .eql U (.iface 222 (.agg #[.bool n])) (.iface 222 (.agg #[.bool m]))).run Tryz.prog w = .ok (.bool (n == m)) w := by
  obtain ⟨D, hD⟩ : ∃ D, Op.maxDepth = D + 2 + 1 := ⟨9997, rfl⟩
  have h1 := eq_iface (D + 2) (.agg #[.bool n]) (.agg #[.bool m]) w hU (T := 222) (i := Tryz.t222) (by kernel_rfl) (by kernel_rfl)
  rw [eql_iface, hD, h1, eq_bool D n m w]
  rfl
set_option maxRecDepth 100000 in
theorem eq_box (d : Nat) (n m : Int) (w : World) : (Op.equalIn (d + 2) 141 (.agg #[.int .i64 n]) (.agg #[.int .i64 m])).run Tryz.prog w = .ok (n == m) w := by
  have hS : Tryz.prog.underlying 141 = some (.struct (Tryz.prog.fieldsOf 141)) := by kernel_rfl
  have hp : Tryz.prog.stoodInHeld 141 = false := by kernel_rfl
  have u := Tryz.underlying3
  have a := Tryz.isAgg3
  have z := Tryz.sizeOf3
  rw [run_equalIn_agg w (d + 1) 141 _ _ hS hp]
  simp only [Program.fieldsOf, Tryz.underlying141]
  go_simp
  all_goals (cases h : (n == m) <;> simp_all)
theorem eqv_box (U : TypeId) {q} (hU : Tryz.prog.underlying U = some (.interface q)) (n m : Int) (w : World) : (binOp .eql U (.iface 141 (.agg #[.int .i64 n])) (.iface 141 (.agg #[.int .i64 m]))).run Tryz.prog w = .ok (.bool (n == m)) w := by
  obtain ⟨D, hD⟩ : ∃ D, Op.maxDepth = D + 2 + 1 := ⟨9997, rfl⟩
  have h1 := eq_iface (D + 2) (.agg #[.int .i64 n]) (.agg #[.int .i64 m]) w hU (T := 141) (i := Tryz.t141) (by kernel_rfl) (by kernel_rfl)
  rw [eql_iface, hD, h1, eq_box D n m w]
  rfl
set_option maxRecDepth 100000 in
theorem eq_call (d : Nat) (n m : ByteArray) (w : World) : (Op.equalIn (d + 2) 111 (.agg #[.string n]) (.agg #[.string m])).run Tryz.prog w = .ok (n.toList == m.toList) w := by
  have hS : Tryz.prog.underlying 111 = some (.struct (Tryz.prog.fieldsOf 111)) := by kernel_rfl
  have hp : Tryz.prog.stoodInHeld 111 = false := by kernel_rfl
  have u := Tryz.underlying9
  have a := Tryz.isAgg9
  have z := Tryz.sizeOf9
  rw [run_equalIn_agg w (d + 1) 111 _ _ hS hp]
  simp only [Program.fieldsOf, Tryz.underlying111]
  go_simp
  all_goals (cases h : (n.toList == m.toList) <;> simp_all)
theorem eqv_call (U : TypeId) {q} (hU : Tryz.prog.underlying U = some (.interface q)) (n m : ByteArray) (w : World) : (binOp .eql U (.iface 111 (.agg #[.string n])) (.iface 111 (.agg #[.string m]))).run Tryz.prog w = .ok (.bool (n.toList == m.toList)) w := by
  obtain ⟨D, hD⟩ : ∃ D, Op.maxDepth = D + 2 + 1 := ⟨9997, rfl⟩
  have h1 := eq_iface (D + 2) (.agg #[.string n]) (.agg #[.string m]) w hU (T := 111) (i := Tryz.t111) (by kernel_rfl) (by kernel_rfl)
  rw [eql_iface, hD, h1, eq_call D n m w]
  rfl
theorem eqv_ne (U T1 T2 : TypeId) {q} (hU : Tryz.prog.underlying U = some (.interface q)) (x y : Value) (h : T1 ≠ T2) (w : World) : (binOp .eql U (.iface T1 x) (.iface T2 y)).run Tryz.prog w = .ok (.bool false) w := by
  obtain ⟨D, hD⟩ : ∃ D, Op.maxDepth = D + 1 := ⟨9999, rfl⟩
  have h1 : (Op.equalIn (D + 1) U (.iface T1 x) (.iface T2 y)).run Tryz.prog w = .ok false w := by
    simp only [Op.equalIn, Sem.run_bind, run_underlying hU, Result.andThen_ok]
    simp [h]
  rw [eql_iface, hD, h1]
  rfl
end Go.Proofs.YtdkbioahhkmpoaaGreatDoor
namespace Go.Proofs.YtdkbioahhkmpoaaGreatDoor
open Go.RowKit Go.Lib
set_option linter.unusedSimpArgs false
set_option linter.unusedVariables false
def smL (f : Vt → Vt → Bool) : List Vt → List Vt → Bool
  | [], [] => true
  | x :: a, y :: b => f x y && smL f a b
  | _, _ => false
/-- are two values (items) the same? -/
def smV : Nat → Bool → Vt → Vt → Bool
  | 0, _, _, _ => false
  | d + 1, true, a, b => if a.k = 7 ∨ b.k = 7 then decide (a.k = 7) && decide (b.k = 7) && (a.s.toList == b.s.toList) else smV d false a b
  | d + 1, false, a, b => decide (a.k = b.k) && (if a.k = 1 ∨ a.k = 6 then a.n == b.n else if a.k = 2 then a.s.toList == b.s.toList else if a.k = 3 then (a.n != 0) == (b.n != 0) else smL (smV d (decide (a.k = 5))) a.l b.l)
theorem smL_len (f : Vt → Vt → Bool) : ∀ a b : List Vt, a.length ≠ b.length → smL f a b = false
  | [], [], h => absurd rfl h
  | [], y :: b, _ => rfl
  | x :: a, [], _ => rfl
  | x :: a, y :: b, h => by
    unfold smL
    rw [smL_len f a b (by simpa using h), Bool.and_false]
theorem drop_at {l : List Vt} {j : Nat} {x : Vt} (hx : l[j]? = some x) : l.drop j = x :: l.drop (j + 1) := by
  obtain ⟨hlt, he⟩ := List.getElem?_eq_some_iff.1 hx
  rw [List.drop_eq_getElem_cons hlt, he]
/-- what same, sameItem answer of what is what it may be -/
def SaV (d : Nat) (i : Bool) (F : Nat) : Prop := ∀ (a b : Vt) (va vb : Value) (w : World) (S : Nat → Prop), TiAt w S d i a va → TiAt w S d i b vb → (okV d i a = true ∧ ∃ e, SmT e a) → (okV d i b = true ∧ ∃ e, SmT e b) → Calls Tryz.prog F #[va, vb] w fun e w' => e = .returned (.bool (smV d i a b)) ∧ Only (fun _ => False) w w'
def EfV (d : Nat) (i : Bool) (F Fm : Nat) : Prop := ∀ (la lb : List Vt) (ao bo : Option Addr) (ca cb : Nat) (w : World) (S : Nat → Prop), (∀ (j : Nat) (x : Vt), la[j]? = some x → ∃ g q u, ao = some ⟨g, q, none⟩ ∧ S g ∧ w.cell? ⟨g, q + j, none⟩ = some u ∧ TiAt w S d i x u) → (∀ (j : Nat) (x : Vt), lb[j]? = some x → ∃ g q u, bo = some ⟨g, q, none⟩ ∧ S g ∧ w.cell? ⟨g, q + j, none⟩ = some u ∧ TiAt w S d i x u) → (∀ x ∈ la, okV d i x = true ∧ ∃ e, SmT e x) → (∀ x ∈ lb, okV d i x = true ∧ ∃ e, SmT e x) → la.length ≤ 2513169434900 → lb.length ≤ 2513169434900 → Calls Tryz.prog F #[.slice ao la.length ca, .slice bo lb.length cb, .func (.func Fm) #[] #[]] w fun e w' => e = .returned (.bool (smL (smV d i) la lb)) ∧ Only (fun _ => False) w w'
end Go.Proofs.YtdkbioahhkmpoaaGreatDoor
namespace Go.Proofs.YtdkbioahhkmpoaaGreatDoor
open Go.RowKit Go.Lib
set_option linter.unusedSimpArgs false
set_option linter.unusedVariables false
theorem ok_ne8 {d : Nat} {t : Vt} (h : okV d false t = true) : t.k ≠ 8 := by
  cases d with
  | zero => cases h
  | succ d =>
    intro e
    have : okV (d + 1) false t = alB t := by
      show (if t.k = 4 ∨ t.k = 5 then _ else alB t) = _
      rw [if_neg (by omega)]
    rw [this] at h
    unfold alB at h
    rw [if_neg (by omega), if_neg (by omega), if_neg (by omega)] at h
    simp only [decide_eq_true_eq] at h
    omega
theorem ti_list {w : World} {S : Nat → Prop} {d : Nat} {t : Vt} {v : Value} {k : Int} (h : TiAt w S (d + 1) false t v) (hk : t.k = k) (hk4 : k = 4 ∨ k = 5) : ∃ ao cap, v = .iface (if k = 4 then 132 else 80) (.agg #[.slice ao t.l.length cap]) ∧ t.l.length ≤ cap ∧ ∀ i x, t.l[i]? = some x → ∃ g q u, ao = some ⟨g, q, none⟩ ∧ S g ∧ w.cell? ⟨g, q + i, none⟩ = some u ∧ TiAt w S d (decide (k = 5)) x u := by
  rcases h with ⟨e, _⟩ | ⟨e, _⟩ | ⟨e, _⟩ | ⟨e, _⟩ | ⟨e, _⟩ | ⟨_, ao, cap, h1, h2, h3⟩
  · omega
  · omega
  · omega
  · omega
  · omega
  · rw [hk] at h1 h3
    exact ⟨ao, cap, h1, h2, h3⟩
theorem miss_list {w : World} {S : Nat → Prop} {d : Nat} {t : Vt} {v : Value} (h : TiAt w S (d + 1) false t v) (hk : ¬ t.k = 4) (h8 : t.k ≠ 8) : ∀ W : World, (Instr.typeAssert v 76 132 true).run Tryz.prog W = .ok (.tuple #[.agg #[.slice none 0 0], .bool false]) W := by
  by_cases h5 : t.k = 5
  · obtain ⟨ao, cap, rfl, _⟩ := ti_list h h5 (.inr rfl)
    exact va_miss 80 132 76 _ Tryz.underlying132 (by intro m h; cases h) (by decide) _ zL _
  · exact (leaf_lq h (by omega)).1.1
theorem miss_quot {w : World} {S : Nat → Prop} {d : Nat} {t : Vt} {v : Value} (h : TiAt w S (d + 1) false t v) (hk : ¬ t.k = 5) (h8 : t.k ≠ 8) : ∀ W : World, (Instr.typeAssert v 76 80 true).run Tryz.prog W = .ok (.tuple #[.agg #[.slice none 0 0], .bool false]) W := by
  by_cases h4 : t.k = 4
  · obtain ⟨ao, cap, rfl, _⟩ := ti_list h h4 (.inl rfl)
    exact va_miss 132 80 76 _ Tryz.underlying80 (by intro m h; cases h) (by decide) _ zQ _
  · exact (leaf_lq h (by omega)).1.2
end Go.Proofs.YtdkbioahhkmpoaaGreatDoor
namespace Go.Proofs.YtdkbioahhkmpoaaGreatDoor
open Go.RowKit Go.Lib
set_option linter.unusedSimpArgs false
set_option linter.unusedVariables false
theorem sm_ne (d : Nat) {a b : Vt} (h : a.k ≠ b.k) : smV (d + 1) false a b = false := by
  show (decide (a.k = b.k) && _) = _
  rw [decide_eq_false h, Bool.false_and]
theorem eq_leaf {w : World} {S : Nat → Prop} {d : Nat} {a b : Vt} {va vb : Value} (h1 : TiAt w S (d + 1) false a va) (h2 : TiAt w S (d + 1) false b vb) (hk : ¬ (a.k = 4 ∨ a.k = 5)) (ha8 : a.k ≠ 8) (hb8 : b.k ≠ 8) (W : World) : (binOp .eql 76 va vb).run Tryz.prog W = .ok (.bool (smV (d + 1) false a b)) W := by
  obtain ⟨k, n, s, l⟩ := a
  obtain ⟨k', n', s', l'⟩ := b
  have hU := Tryz.underlying76
  rcases h1 with ⟨e, _, rfl⟩ | ⟨e, _, rfl⟩ | ⟨e, _, rfl⟩ | ⟨e, _, rfl⟩ | ⟨e, _, rfl⟩ | ⟨e, _⟩
  · simp only at e
    subst e
    rcases h2 with ⟨e', _, rfl⟩ | ⟨e', _, rfl⟩ | ⟨e', _, rfl⟩ | ⟨e', _, rfl⟩ | ⟨e', _, rfl⟩ | ⟨e', ao, cap, rfl, _⟩
    · simp only at e'
      subst e'
      exact eqv_int _ hU n n' W
    · simp only at e'
      subst e'
      exact eqv_ne _ _ _ hU _ _ (by decide) W
    · simp only at e'
      subst e'
      exact eqv_ne _ _ _ hU _ _ (by decide) W
    · simp only at e'
      subst e'
      exact eqv_ne _ _ _ hU _ _ (by decide) W
    · exact absurd e' hb8
    · simp only at e'
      rw [sm_ne d (by simp only; omega)]
      rcases e' with rfl | rfl <;> exact eqv_ne _ _ _ hU _ _ (by simp) W
  · simp only at e
    subst e
    rcases h2 with ⟨e', _, rfl⟩ | ⟨e', _, rfl⟩ | ⟨e', _, rfl⟩ | ⟨e', _, rfl⟩ | ⟨e', _, rfl⟩ | ⟨e', ao, cap, rfl, _⟩
    · simp only at e'
      subst e'
      exact eqv_ne _ _ _ hU _ _ (by decide) W
    · simp only at e'
      subst e'
      exact eqv_str _ hU s s' W
    · simp only at e'
      subst e'
      exact eqv_ne _ _ _ hU _ _ (by decide) W
    · simp only at e'
      subst e'
      exact eqv_ne _ _ _ hU _ _ (by decide) W
    · exact absurd e' hb8
    · simp only at e'
      rw [sm_ne d (by simp only; omega)]
      rcases e' with rfl | rfl <;> exact eqv_ne _ _ _ hU _ _ (by simp) W
  · simp only at e
    subst e
    rcases h2 with ⟨e', _, rfl⟩ | ⟨e', _, rfl⟩ | ⟨e', _, rfl⟩ | ⟨e', _, rfl⟩ | ⟨e', _, rfl⟩ | ⟨e', ao, cap, rfl, _⟩
    · simp only at e'
      subst e'
      exact eqv_ne _ _ _ hU _ _ (by decide) W
    · simp only at e'
      subst e'
      exact eqv_ne _ _ _ hU _ _ (by decide) W
    · simp only at e'
      subst e'
      exact eqv_bool _ hU (n != 0) (n' != 0) W
    · simp only at e'
      subst e'
      exact eqv_ne _ _ _ hU _ _ (by decide) W
    · exact absurd e' hb8
    · simp only at e'
      rw [sm_ne d (by simp only; omega)]
      rcases e' with rfl | rfl <;> exact eqv_ne _ _ _ hU _ _ (by simp) W
  · simp only at e
    subst e
    rcases h2 with ⟨e', _, rfl⟩ | ⟨e', _, rfl⟩ | ⟨e', _, rfl⟩ | ⟨e', _, rfl⟩ | ⟨e', _, rfl⟩ | ⟨e', ao, cap, rfl, _⟩
    · simp only at e'
      subst e'
      exact eqv_ne _ _ _ hU _ _ (by decide) W
    · simp only at e'
      subst e'
      exact eqv_ne _ _ _ hU _ _ (by decide) W
    · simp only at e'
      subst e'
      exact eqv_ne _ _ _ hU _ _ (by decide) W
    · simp only at e'
      subst e'
      exact eqv_box _ hU n n' W
    · exact absurd e' hb8
    · simp only at e'
      rw [sm_ne d (by simp only; omega)]
      rcases e' with rfl | rfl <;> exact eqv_ne _ _ _ hU _ _ (by simp) W
  · exact absurd e ha8
  · exact absurd e hk
end Go.Proofs.YtdkbioahhkmpoaaGreatDoor
